/- Newcomers one by one, as mathematics: the seats that they take and the Row behind them. Plain lemmas. -/
import Derived.Test.YtfpndbekinibhaaPolM
namespace Go.Proofs.Ytfpndbekinibhaa

def setS (S : Nat → Bool) (x : Nat) : Nat → Bool := fun i => if i = x then true else S i
theorem polM_lt {n : Nat} {ring : Bool} {S : Nat → Bool} {least x : Nat} (h : x ∈ polM n ring S least) : x < n ∧ S x = false := by
  unfold polM atM at h
  have := (List.mem_filter.1 h).1
  obtain ⟨h1, h2⟩ := mem_tk.1 this
  exact ⟨h1, by simpa using h2⟩
/-- the first polite seat -/
def headM (n : Nat) (ring : Bool) (least : Nat) (S : Nat → Bool) : Nat := (polM n ring S least)[0]?.getD 0
theorem headM_lt {n : Nat} {ring : Bool} {least : Nat} {S : Nat → Bool} (h : ¬ (polM n ring S least).length = 0) : headM n ring least S < n ∧ S (headM n ring least S) = false := by
  apply polM_lt (least := least) (ring := ring)
  unfold headM
  rw [List.getElem?_eq_getElem (by omega)]
  exact List.getElem_mem (by omega)
def ordM (n : Nat) (ring : Bool) (least : Nat) : Nat → (Nat → Bool) → List Nat
  | 0, _ => []
  | k + 1, S => if (polM n ring S least).length = 0 then [] else headM n ring least S :: ordM n ring least k (setS S (headM n ring least S))
def aftM (n : Nat) (ring : Bool) (least : Nat) : Nat → (Nat → Bool) → (Nat → Bool)
  | 0, S => S
  | k + 1, S => if (polM n ring S least).length = 0 then S else aftM n ring least k (setS S (headM n ring least S))
theorem ordM_stop {n : Nat} {ring : Bool} {least : Nat} {S : Nat → Bool} (h : (polM n ring S least).length = 0) (k : Nat) : ordM n ring least k S = [] ∧ aftM n ring least k S = S := by
  cases k with
  | zero => exact ⟨rfl, rfl⟩
  | succ k => exact ⟨if_pos h, if_pos h⟩
theorem ordM_step {n : Nat} {ring : Bool} {least : Nat} {S : Nat → Bool} (h : ¬ (polM n ring S least).length = 0) (k : Nat) :
    ordM n ring least (k + 1) S = headM n ring least S :: ordM n ring least k (setS S (headM n ring least S)) ∧ aftM n ring least (k + 1) S = aftM n ring least k (setS S (headM n ring least S)) :=
  ⟨if_neg h, if_neg h⟩
theorem ordM_len (n : Nat) (ring : Bool) (least : Nat) : ∀ (k : Nat) (S : Nat → Bool), (ordM n ring least k S).length ≤ k := by
  intro k
  induction k with
  | zero => intro S; simp [ordM]
  | succ k ih =>
    intro S
    by_cases h : (polM n ring S least).length = 0
    · rw [(ordM_stop h _).1]; simp
    · rw [(ordM_step h k).1]
      have := ih (setS S (headM n ring least S))
      simp; omega
/-- one seat more is taken -/
theorem tk_setS {n : Nat} {S : Nat → Bool} {x : Nat} (hx : x < n) (h : S x = false) : (tk n (setS S x)).length = (tk n S).length + 1 := by
  have e := take_spec hx h
  have h1 := putM_length (x : Int) (ints (tk n S))
  rw [e, ints_length, ints_length] at h1
  rw [← h1]
  congr 1
  apply tk_congr
  intro k hk
  unfold setS
  by_cases h : k = x <;> simp [h]
theorem put_setS {n : Nat} {S : Nat → Bool} {x : Nat} (hx : x < n) (h : S x = false) : putM (x : Int) (ints (tk n S)) = ints (tk n (setS S x)) := by
  rw [take_spec hx h]
  congr 1
  apply tk_congr
  intro k hk
  unfold setS
  by_cases h : k = x <;> simp [h]
end Go.Proofs.Ytfpndbekinibhaa
