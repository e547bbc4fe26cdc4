/- In how many ways newcomers can settle, as mathematics. Plain lemmas. -/
import Derived.Test.YtfpndbekinibhaaPol2
namespace Go.Proofs.Ytfpndbekinibhaa

def tiesM (n : Nat) (ring : Bool) : Nat → (Nat → Bool) → Nat
  | 0, _ => 1
  | f + 1, S => if (polM n ring S 2).length = 0 then 1 else sumOf (fun x => tiesM n ring f (setS S x)) (polM n ring S 2)
def fct : Nat → Nat
  | 0 => 1
  | k + 1 => (k + 1) * fct k
theorem fct_pos : ∀ k, 1 ≤ fct k := by
  intro k
  induction k with
  | zero => exact Nat.le_refl _
  | succ k ih => unfold fct; exact Nat.le_trans ih (Nat.le_mul_of_pos_left _ (Nat.succ_pos _))
theorem fct_ten : ∀ k, k ≤ 10 → fct k ≤ 3628800 := by decide
theorem free_count (n : Nat) (S : Nat → Bool) : (tk n fun q => !S q).length + (tk n S).length = n := by
  induction n with
  | zero => rfl
  | succ n ih =>
    rw [tk_succ, tk_succ, List.length_append, List.length_append]
    cases h : S n <;> simp <;> omega
theorem polM_cnt (n : Nat) (ring : Bool) (S : Nat → Bool) (b : Nat) : (polM n ring S b).length + (tk n S).length ≤ n := by
  have h1 := free_count n S
  have h2 : (polM n ring S b).length ≤ (tk n fun q => !S q).length := by unfold polM atM; exact List.length_filter_le _ _
  omega
theorem sumOf_bound {f : Nat → Nat} {F : Nat} : ∀ {l : List Nat}, (∀ x ∈ l, f x ≤ F) → sumOf f l ≤ l.length * F := by
  intro l
  induction l with
  | nil => intro _; simp [sumOf]
  | cons y t ih =>
    intro h
    have h1 := h y (by simp)
    have h2 := ih fun x hx => h x (by simp [hx])
    have e : sumOf f (y :: t) = f y + sumOf f t := by simp [sumOf]
    rw [e, List.length_cons, Nat.succ_mul]; omega
theorem sumOf_take_le {f : Nat → Nat} (l : List Nat) (k : Nat) : sumOf f (l.take k) ≤ sumOf f l := by
  have : sumOf f l = sumOf f (l.take k) + sumOf f (l.drop k) := by
    unfold sumOf
    rw [← List.sum_append, ← List.map_append, List.take_append_drop]
  omega
theorem sum_take2 {f : Nat → Nat} {l : List Nat} {j : Nat} (h : j < l.length) : sumOf f (l.take (j + 1)) = sumOf f (l.take j) + f (l[j]?.getD 0) := by
  rw [List.take_succ_eq_append_getElem h, sumOf_snoc, List.getElem?_eq_getElem h]; rfl
theorem tiesM_le (n : Nat) (ring : Bool) : ∀ (f : Nat) (S : Nat → Bool), (tk n S).length + f = n → tiesM n ring f S ≤ fct f := by
  intro f
  induction f with
  | zero => intro S _; exact Nat.le_refl _
  | succ f ih =>
    intro S hS
    rw [tiesM]
    split
    · exact fct_pos _
    · have h1 := sumOf_bound (f := fun x => tiesM n ring f (setS S x)) (F := fct f) (l := polM n ring S 2) (fun x hx => by
        obtain ⟨a, b⟩ := polM_lt hx
        exact ih _ (by rw [tk_setS a b]; omega))
      have h2 := polM_cnt n ring S 2
      refine Nat.le_trans h1 ?_
      rw [fct]
      exact Nat.mul_le_mul_right _ (by omega)
theorem tiesM_stop {n : Nat} {ring : Bool} {S : Nat → Bool} (h : (polM n ring S 2).length = 0) (f : Nat) : tiesM n ring f S = 1 := by
  cases f with
  | zero => rfl
  | succ f => unfold tiesM; rw [if_pos h]
theorem tiesM_go {n : Nat} {ring : Bool} {S : Nat → Bool} (h : ¬ (polM n ring S 2).length = 0) (f : Nat) : tiesM n ring (f + 1) S = sumOf (fun x => tiesM n ring f (setS S x)) (polM n ring S 2) := by
  rw [tiesM, if_neg h]
theorem polM_full {n : Nat} {ring : Bool} {S : Nat → Bool} (h : (tk n S).length = n) (b : Nat) : (polM n ring S b).length = 0 := by
  have := polM_cnt n ring S b
  omega
end Go.Proofs.Ytfpndbekinibhaa
