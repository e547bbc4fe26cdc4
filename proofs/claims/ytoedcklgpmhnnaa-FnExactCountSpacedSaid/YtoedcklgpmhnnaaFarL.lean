/- Farness: mathematics. Plain lemmas. -/
import Derived.Test.YtoedcklgpmhnnaaRowMath
namespace Go.Proofs.Ytoedcklgpmhnnaa

/-- the least of numbers, at most n -/
def farL (g : Nat → Nat) (n : Nat) (l : List Nat) : Nat := l.foldl (fun b q => min b (g q)) n
theorem farL_snoc (g : Nat → Nat) (n : Nat) (l : List Nat) (q : Nat) : farL g n (l ++ [q]) = min (farL g n l) (g q) := by simp [farL, List.foldl_append]
theorem farL_le (g : Nat → Nat) : ∀ (l : List Nat) (n : Nat), farL g n l ≤ n ∧ ∀ q ∈ l, farL g n l ≤ g q := by
  intro l
  induction l with
  | nil => intro n; exact ⟨Nat.le_refl _, fun q hq => by cases hq⟩
  | cons y l ih =>
    intro n
    obtain ⟨h1, h2⟩ := ih (min n (g y))
    show farL g (min n (g y)) l ≤ n ∧ ∀ q ∈ y :: l, farL g (min n (g y)) l ≤ g q
    refine ⟨by omega, fun q hq => ?_⟩
    rcases List.mem_cons.1 hq with e | e
    · subst e; omega
    · exact h2 q e
theorem farL_is (g : Nat → Nat) : ∀ (l : List Nat) (n : Nat), farL g n l = n ∨ ∃ q ∈ l, farL g n l = g q := by
  intro l
  induction l with
  | nil => intro n; exact .inl rfl
  | cons y l ih =>
    intro n
    show farL g (min n (g y)) l = n ∨ ∃ q ∈ y :: l, farL g (min n (g y)) l = g q
    rcases ih (min n (g y)) with h | ⟨q, hq, h⟩
    · rcases Nat.le_total n (g y) with h' | h'
      · left; rw [h]; omega
      · right; exact ⟨y, by simp, by rw [h]; omega⟩
    · right; exact ⟨q, by simp [hq], h⟩
/-- it is what the nearest one has, if there is one -/
theorem farL_least (g : Nat → Nat) (n : Nat) (l : List Nat) (hg : ∀ q ∈ l, g q ≤ n) (h0 : 0 < l.length) : farL g n l = g (leastOf g (l[0]?.getD 0) l) := by
  have hm : l[0]?.getD 0 ∈ l := by rw [List.getElem?_eq_getElem h0]; exact List.getElem_mem h0
  obtain ⟨h1, h2⟩ := leastOf_le g l (l[0]?.getD 0)
  have hmem : leastOf g (l[0]?.getD 0) l ∈ l := by
    rcases leastOf_mem g l (l[0]?.getD 0) with e | e
    · rw [e]; exact hm
    · exact e
  obtain ⟨h3, h4⟩ := farL_le g l n
  apply Nat.le_antisymm (h4 _ hmem)
  rcases farL_is g l n with e | ⟨q, hq, e⟩
  · rw [e]; exact hg _ hmem
  · rw [e]; exact h2 q hq
theorem gap_le {n : Nat} {ring : Bool} {a b : Nat} (ha : a < n) (hb : b < n) : gapM n ring a b ≤ n := by
  unfold gapM
  cases ring <;> simp <;> omega
/-- the farness of a seat -/
def farM (n : Nat) (ring : Bool) (l : List Nat) (p : Nat) : Nat := farL (gapM n ring p) n l
theorem farM_le (n : Nat) (ring : Bool) (l : List Nat) (p : Nat) : farM n ring l p ≤ n := (farL_le _ l n).1
/-- the farness of the first seats -/
def allM (n : Nat) (ring : Bool) (l : List Nat) (k : Nat) : List Int := ints ((List.range k).map (farM n ring l))
theorem allM_succ (n : Nat) (ring : Bool) (l : List Nat) (k : Nat) : allM n ring l (k + 1) = allM n ring l k ++ [((farM n ring l k : Nat) : Int)] := by
  unfold allM
  rw [List.range_succ, List.map_append, ints_append]; rfl
theorem allM_len (n : Nat) (ring : Bool) (l : List Nat) (k : Nat) : (allM n ring l k).length = k := by
  unfold allM
  rw [ints_length, List.length_map, List.length_range]
end Go.Proofs.Ytoedcklgpmhnnaa
