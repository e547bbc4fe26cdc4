/- The least gap of taken seats: of all pairs, and of neighbors in the list alone. Plain lemmas. -/
import Derived.Test.YtlfodeodfjjaeaaRowMath
namespace Go.Proofs.Ytlfodeodfjjaeaa

/-- the least gap of one seat to the first ones of a list, at most b -/
def leastTo (g : Nat → Nat → Nat) (x : Nat) (l : List Nat) (b : Nat) : Nat := l.foldl (fun b q => min b (g x q)) b
theorem leastTo_snoc (g : Nat → Nat → Nat) (x : Nat) (l : List Nat) (q b : Nat) : leastTo g x (l ++ [q]) b = min (leastTo g x l b) (g x q) := by simp [leastTo, List.foldl_append]
/-- the least gap of all pairs among the first j seats, at most n -/
def leastAll (g : Nat → Nat → Nat) (n : Nat) (l : List Nat) : Nat → Nat
  | 0 => n
  | j + 1 => leastTo g (l[j]?.getD 0) (l.take j) (leastAll g n l j)
/-- the least gap of each seat and the next one, at most b -/
def leastNext (g : Nat → Nat → Nat) (l : List Nat) (b : Nat) : Nat → Nat
  | 0 => b
  | j + 1 => min (leastNext g l b j) (g (l[j]?.getD 0) (l[j + 1]?.getD 0))

theorem leastTo_le (g : Nat → Nat → Nat) (x : Nat) : ∀ (l : List Nat) (b : Nat), leastTo g x l b ≤ b ∧ ∀ q ∈ l, leastTo g x l b ≤ g x q := by
  intro l
  induction l with
  | nil => intro b; exact ⟨Nat.le_refl _, fun q hq => by cases hq⟩
  | cons y l ih =>
    intro b
    obtain ⟨h1, h2⟩ := ih (min b (g x y))
    show leastTo g x l (min b (g x y)) ≤ b ∧ ∀ q ∈ y :: l, leastTo g x l (min b (g x y)) ≤ g x q
    refine ⟨by omega, fun q hq => ?_⟩
    rcases List.mem_cons.1 hq with e | e
    · subst e; omega
    · exact h2 q e
theorem leastTo_ge (g : Nat → Nat → Nat) (x c : Nat) : ∀ (l : List Nat) (b : Nat), c ≤ b → (∀ q ∈ l, c ≤ g x q) → c ≤ leastTo g x l b := by
  intro l
  induction l with
  | nil => intro b h _; exact h
  | cons y l ih =>
    intro b h hq
    show c ≤ leastTo g x l (min b (g x y))
    exact ih _ (by have := hq y (by simp); omega) (fun q h => hq q (by simp [h]))
theorem getD_is {l : List Nat} {i : Nat} (h : i < l.length) : l[i]?.getD 0 = l[i] := by rw [List.getElem?_eq_getElem h]; rfl
theorem leastAll_le (g : Nat → Nat → Nat) (n : Nat) (l : List Nat) : ∀ j, j ≤ l.length → leastAll g n l j ≤ n ∧ ∀ i k, k < i → i < j → leastAll g n l j ≤ g (l[i]?.getD 0) (l[k]?.getD 0) := by
  intro j
  induction j with
  | zero => intro _; exact ⟨Nat.le_refl _, fun i k _ h => by omega⟩
  | succ j ih =>
    intro hj
    obtain ⟨h1, h2⟩ := ih (by omega)
    obtain ⟨h3, h4⟩ := leastTo_le g (l[j]?.getD 0) (l.take j) (leastAll g n l j)
    show leastTo g (l[j]?.getD 0) (l.take j) (leastAll g n l j) ≤ n ∧ _
    refine ⟨by omega, fun i k hki hij => ?_⟩
    show leastTo g (l[j]?.getD 0) (l.take j) (leastAll g n l j) ≤ _
    by_cases e : i = j
    · subst e
      apply h4
      rw [getD_is (by omega)]
      exact List.mem_take_iff_getElem.2 ⟨k, by omega, rfl⟩
    · have := h2 i k hki (by omega); omega
theorem leastAll_ge (g : Nat → Nat → Nat) (n c : Nat) (l : List Nat) (hc : c ≤ n) : ∀ j, j ≤ l.length → (∀ i k, k < i → i < j → c ≤ g (l[i]?.getD 0) (l[k]?.getD 0)) → c ≤ leastAll g n l j := by
  intro j
  induction j with
  | zero => intro _ _; exact hc
  | succ j ih =>
    intro hj h
    show c ≤ leastTo g (l[j]?.getD 0) (l.take j) (leastAll g n l j)
    refine leastTo_ge g _ c _ _ (ih (by omega) (fun i k h1 h2 => h i k h1 (by omega))) (fun q hq => ?_)
    obtain ⟨k, hk, e⟩ := List.mem_take_iff_getElem.1 hq
    have := h j k (by omega) (by omega)
    rw [getD_is (i := k) (by omega), e] at this
    exact this
theorem leastNext_le (g : Nat → Nat → Nat) (l : List Nat) (b : Nat) : ∀ j, leastNext g l b j ≤ b ∧ ∀ i, i < j → leastNext g l b j ≤ g (l[i]?.getD 0) (l[i + 1]?.getD 0) := by
  intro j
  induction j with
  | zero => exact ⟨Nat.le_refl _, fun i h => by omega⟩
  | succ j ih =>
    obtain ⟨h1, h2⟩ := ih
    show min (leastNext g l b j) _ ≤ b ∧ _
    refine ⟨by omega, fun i hi => ?_⟩
    show min (leastNext g l b j) _ ≤ _
    by_cases e : i = j
    · subst e; omega
    · have := h2 i (by omega); omega
theorem leastNext_ge (g : Nat → Nat → Nat) (l : List Nat) (b c : Nat) (hc : c ≤ b) : ∀ j, (∀ i, i < j → c ≤ g (l[i]?.getD 0) (l[i + 1]?.getD 0)) → c ≤ leastNext g l b j := by
  intro j
  induction j with
  | zero => intro _; exact hc
  | succ j ih =>
    intro h
    show c ≤ min (leastNext g l b j) _
    have := ih (fun i hi => h i (by omega))
    have := h j (by omega)
    omega
/-- on a line or a ring the least gap is that of two that follow one another, or of the last and the first one -/
theorem least_same {n : Nat} {ring : Bool} {l : List Nat} (hs : l.Pairwise (· < ·)) (hl : ∀ x ∈ l, x < n) (h2 : 2 ≤ l.length) :
    leastAll (gapM n ring) n l l.length = leastNext (gapM n ring) l (gapM n ring (l[l.length - 1]?.getD 0) (l[0]?.getD 0)) (l.length - 1) := by
  have lt : ∀ i k, i < k → k < l.length → l[i]?.getD 0 < l[k]?.getD 0 := fun i k h1 h3 => by
    rw [getD_is (by omega), getD_is h3]
    exact List.pairwise_iff_getElem.1 hs i k (by omega) h3 h1
  have bd : ∀ i, i < l.length → l[i]?.getD 0 < n := fun i h => by rw [getD_is h]; exact hl _ (List.getElem_mem h)
  have gl : ∀ a b, a < n → b < n → gapM n ring a b ≤ n := fun a b ha hb => by unfold gapM; cases ring <;> simp <;> omega
  obtain ⟨a1, a2⟩ := leastAll_le (gapM n ring) n l l.length (Nat.le_refl _)
  obtain ⟨b1, b2⟩ := leastNext_le (gapM n ring) l (gapM n ring (l[l.length - 1]?.getD 0) (l[0]?.getD 0)) (l.length - 1)
  apply Nat.le_antisymm
  · apply leastNext_ge
    · exact a2 (l.length - 1) 0 (by omega) (by omega)
    · intro i hi
      rw [gapM_comm]
      exact a2 (i + 1) i (by omega) (by omega)
  · apply leastAll_ge
    · exact Nat.le_trans b1 (gl _ _ (bd _ (by omega)) (bd _ (by omega)))
    · exact Nat.le_refl _
    · intro i k hki hi
      have h1 := b2 k (by omega)
      have l0 : k + 1 = i ∨ l[k + 1]?.getD 0 < l[i]?.getD 0 := by
        rcases Nat.eq_or_lt_of_le (show k + 1 ≤ i by omega) with e | e
        · exact .inl e
        · exact .inr (lt _ _ e hi)
      have l1 := lt k (k + 1) (by omega) (by omega)
      have l2 : l[k + 1]?.getD 0 ≤ l[i]?.getD 0 := by
        rcases l0 with e | e
        · rw [e]; exact Nat.le_refl _
        · omega
      have l3 : l[0]?.getD 0 ≤ l[k]?.getD 0 := by
        rcases Nat.eq_zero_or_pos k with e | e
        · rw [e]; exact Nat.le_refl _
        · exact Nat.le_of_lt (lt 0 k e (by omega))
      have l4 : l[i]?.getD 0 ≤ l[l.length - 1]?.getD 0 := by
        rcases Nat.eq_or_lt_of_le (show i ≤ l.length - 1 by omega) with e | e
        · rw [← e]; exact Nat.le_refl _
        · exact Nat.le_of_lt (lt _ _ e (by omega))
      have l5 := bd (l.length - 1) (by omega)
      unfold gapM at b1 h1 ⊢
      cases ring with
      | false => simp at b1 h1 ⊢; omega
      | true => simp at b1 h1 ⊢; omega
end Go.Proofs.Ytlfodeodfjjaeaa
