/- Lists of kinds that fit: mathematics. Plain lemmas. -/
import Derived.Test.YtlknghghefiokaaRowMath
import Derived.Test.YtlknghghefiokaaRulS8
namespace Go.Proofs.Ytlknghghefiokaa
open Go.RowKit

/-- all numbers of a list are kinds -/
def kindsB (u : Int) (ks : List Int) : Bool := ks.all fun x => decide (0 ≤ x) && decide (x ≤ u - 1)
theorem kindsB_false {u : Int} {ks : List Int} {j : Nat} (h : j < ks.length) (hx : (decide (0 ≤ ks[j]?.getD 0) && decide (ks[j]?.getD 0 ≤ u - 1)) = false) : kindsB u ks = false := by
  unfold kindsB
  rw [List.all_eq_false]
  refine ⟨ks[j], List.getElem_mem _, ?_⟩
  rw [List.getElem?_eq_getElem h] at hx
  simp only [Option.getD_some] at hx
  rw [hx]; simp
theorem kindsB_true {u : Int} {ks : List Int} (h : ∀ j, j < ks.length → (decide (0 ≤ ks[j]?.getD 0) && decide (ks[j]?.getD 0 ≤ u - 1)) = true) : kindsB u ks = true := by
  unfold kindsB
  rw [List.all_eq_true]
  intro x hx
  obtain ⟨j, hj, rfl⟩ := List.getElem_of_mem hx
  have := h j hj
  rw [List.getElem?_eq_getElem hj] at this
  exact this
theorem kindsB_any {u : Int} {ks : List Int} : (ks.any fun x => decide (x < 0) || decide (u ≤ x)) = !kindsB u ks := by
  unfold kindsB
  rw [List.not_all_eq_any_not]
  congr 1
  funext x
  by_cases h1 : x < 0
  · have : ¬ 0 ≤ x := by omega
    simp [h1, this]
  · by_cases h2 : u ≤ x
    · have : ¬ x ≤ u - 1 := by omega
      simp [h1, h2, this]
    · have : x ≤ u - 1 := by omega
      have h3 : 0 ≤ x := by omega
      simp [h1, h2, this, h3]
theorem kindsB_is {n : Nat} {ks : List Int} (h : kindsB (n : Int) ks = true) : ∃ l : List Nat, ks = ints l ∧ ∀ x ∈ l, x < n := by
  unfold kindsB at h
  rw [List.all_eq_true] at h
  refine ⟨ks.map Int.toNat, ?_, ?_⟩
  · unfold ints
    rw [List.map_map]
    conv => lhs; rw [← List.map_id ks]
    apply List.map_congr_left
    intro x hx
    have := h x hx
    simp only [Bool.and_eq_true, decide_eq_true_eq] at this
    simp only [id, Function.comp]
    omega
  · intro x hx
    obtain ⟨y, hy, rfl⟩ := List.mem_map.1 hx
    have := h y hy
    simp only [Bool.and_eq_true, decide_eq_true_eq] at this
    omega
/-- a Row, a Rule and a list of kinds -/
def kinB (s : Int) (ring : Bool) (xs : List Int) (u : Int) (us ks : List Int) : Bool := (rowB s ring xs && ruleB u us) && (decide ((ks.length : Int) = s - xs.length) && kindsB u ks)

/-- two seats with kinds that may not be neighbors -/
def clash (n : Nat) (ring : Bool) (nk : Nat) (X : Nat → Int) (fr ks : Nat → Nat) (i j : Nat) : Bool := decide (gapM n ring (fr i) (fr j) = 1) && !decide (X (ks i * nk + ks j) = 1)
theorem clash_comm {n : Nat} {ring : Bool} {nk : Nat} {X : Nat → Int} {fr ks : Nat → Nat} (hX : ruleN nk X = true) {i j : Nat} (hi : ks i < nk) (hj : ks j < nk) : clash n ring nk X fr ks i j = clash n ring nk X fr ks j i := by
  have h := ruleN_is hX hi hj
  unfold okc at h
  simp only [Bool.and_eq_true, decide_eq_true_eq] at h
  unfold clash
  rw [gapM_comm n ring (fr i) (fr j), h.2]
theorem clash_self (n : Nat) (ring : Bool) (nk : Nat) (X : Nat → Int) (fr ks : Nat → Nat) (i : Nat) : clash n ring nk X fr ks i i = false := by
  unfold clash gapM
  have h : ¬ (if ring = true then min (max (fr i) (fr i) - min (fr i) (fr i)) (n - (max (fr i) (fr i) - min (fr i) (fr i))) else max (fr i) (fr i) - min (fr i) (fr i)) = 1 := by
    rw [Nat.max_self, Nat.min_self, Nat.sub_self, Nat.zero_min]
    split <;> omega
  rw [decide_eq_false h]; rfl
/-- no two clash -/
def fitB (F : Nat) (C : Nat → Nat → Bool) : Bool := (List.range F).all fun i => (List.range i).all fun j => !C i j
theorem fitB_true {F : Nat} {C : Nat → Nat → Bool} (h : ∀ i, i < F → ∀ j, j < i → C i j = false) : fitB F C = true := by
  unfold fitB
  rw [List.all_eq_true]
  intro i hi
  rw [List.all_eq_true]
  intro j hj
  rw [h i (List.mem_range.1 hi) j (List.mem_range.1 hj)]; rfl
theorem fitB_false {F : Nat} {C : Nat → Nat → Bool} {i j : Nat} (hi : i < F) (hj : j < i) (h : C i j = true) : fitB F C = false := by
  unfold fitB
  rw [List.all_eq_false]
  refine ⟨i, List.mem_range.2 hi, ?_⟩
  rw [Bool.not_eq_true, List.all_eq_false]
  exact ⟨j, List.mem_range.2 hj, by rw [h]; simp⟩
theorem fitB_all {F : Nat} {C : Nat → Nat → Bool} (h : ∀ i, i < F → ∀ j, j < F → C i j = false) : fitB F C = true := fitB_true fun i hi j hj => h i hi j (by omega)
theorem fitB_some {F : Nat} {C : Nat → Nat → Bool} (hs : ∀ i, i < F → ∀ j, j < F → C i j = C j i) (h0 : ∀ i, C i i = false) {i j : Nat} (hi : i < F) (hj : j < F) (h : C i j = true) : fitB F C = false := by
  rcases Nat.lt_trichotomy i j with h1 | h1 | h1
  · exact fitB_false hj h1 (by rw [hs j hj i hi]; exact h)
  · subst h1; rw [h0] at h; cases h
  · exact fitB_false hi h1 h
end Go.Proofs.Ytlknghghefiokaa
