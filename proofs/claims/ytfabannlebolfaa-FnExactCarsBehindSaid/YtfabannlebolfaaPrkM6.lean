/- Chapter 6: parking: mathematics. Plain lemmas. -/
import Derived.Test.YtfabannlebolfaaRowMath
namespace Go.Proofs.Ytfabannlebolfaa

/-- the first free seat among the first m from p on -/
def ahdP (n : Nat) (ring : Bool) (S : Nat → Bool) (p k : Nat) : Bool := (ring || decide (p + k < n)) && !S ((p + k) % n)
def ahdM (n : Nat) (ring : Bool) (S : Nat → Bool) (p : Nat) : Option Nat := ((List.range n).find? (ahdP n ring S p)).map (fun k => (p + k) % n)
/-- a seat, or -1 -/
def optI : Option Nat → Int
  | none => -1
  | some q => (q : Int)
theorem find_none {f : Nat → Bool} {n : Nat} (h : ∀ k, k < n → f k = false) : (List.range n).find? f = none := by
  rw [List.find?_eq_none]
  intro k hk
  rw [List.mem_range] at hk
  rw [h k hk]; simp
theorem find_some {f : Nat → Bool} {n k : Nat} (hk : k < n) (h1 : f k = true) (h0 : ∀ j, j < k → f j = false) : (List.range n).find? f = some k := by
  have e : List.range n = List.range k ++ (List.range (n - k)).map (k + ·) := by
    rw [← List.range_add, Nat.add_sub_cancel' (Nat.le_of_lt hk)]
  obtain ⟨m, hm⟩ : ∃ m, n - k = m + 1 := ⟨n - k - 1, by omega⟩
  rw [e, List.find?_append, find_none h0, hm, List.range_succ_eq_map]
  simp [h1]
theorem ahd_some {n : Nat} {ring : Bool} {S : Nat → Bool} {p k : Nat} (hk : k < n) (h1 : ahdP n ring S p k = true) (h0 : ∀ j, j < k → ahdP n ring S p j = false) : ahdM n ring S p = some ((p + k) % n) := by
  unfold ahdM; rw [find_some hk h1 h0]; rfl
theorem ahd_none {n : Nat} {ring : Bool} {S : Nat → Bool} {p : Nat} (h : ∀ k, k < n → ahdP n ring S p k = false) : ahdM n ring S p = none := by
  unfold ahdM; rw [find_none h]; rfl
/-- on a line nothing comes behind the last seat -/
theorem ahd_end {n : Nat} {S : Nat → Bool} {p k : Nat} (h0 : ∀ j, j < k → ahdP n false S p j = false) (he : n ≤ p + k) : ahdM n false S p = none := by
  refine ahd_none fun j _ => ?_
  by_cases hj : j < k
  · exact h0 j hj
  · unfold ahdP
    rw [decide_eq_false (by omega)]
    rfl
theorem ahd_lt {n : Nat} {ring : Bool} {S : Nat → Bool} {p q : Nat} (h : ahdM n ring S p = some q) : q < n ∧ S q = false := by
  unfold ahdM at h
  rw [Option.map_eq_some_iff] at h
  obtain ⟨k, h1, rfl⟩ := h
  have h2 := List.find?_some h1
  have h3 := List.mem_of_find?_eq_some h1
  rw [List.mem_range] at h3
  unfold ahdP at h2
  rw [Bool.and_eq_true] at h2
  exact ⟨Nat.mod_lt _ (by omega), by simpa using h2.2⟩

/-- the first free seat among those that come by backing -/
def bckP (n : Nat) (ring : Bool) (S : Nat → Bool) (p k : Nat) : Bool := (ring || decide (k + 1 ≤ p)) && !S ((p + n - (k + 1)) % n)
def bckM (n : Nat) (ring : Bool) (S : Nat → Bool) (p k : Nat) : Option Nat :=
  if S p = false then some p else match (List.range (min k (n - 1))).find? (bckP n ring S p) with
    | some j => some ((p + n - (j + 1)) % n)
    | none => ahdM n ring S p
theorem bck_free {n : Nat} {ring : Bool} {S : Nat → Bool} {p k : Nat} (h : S p = false) : bckM n ring S p k = some p := by unfold bckM; rw [if_pos h]
theorem bck_some {n : Nat} {ring : Bool} {S : Nat → Bool} {p k j : Nat} (h : S p = true) (hj : j < min k (n - 1)) (h1 : bckP n ring S p j = true) (h0 : ∀ i, i < j → bckP n ring S p i = false) : bckM n ring S p k = some ((p + n - (j + 1)) % n) := by
  unfold bckM
  rw [if_neg (by rw [h]; simp), find_some hj h1 h0]
theorem bck_none {n : Nat} {ring : Bool} {S : Nat → Bool} {p k : Nat} (h : S p = true) (h0 : ∀ i, i < min k (n - 1) → bckP n ring S p i = false) : bckM n ring S p k = ahdM n ring S p := by
  unfold bckM
  rw [if_neg (by rw [h]; simp), find_none h0]
theorem bck_end {n : Nat} {S : Nat → Bool} {p k j : Nat} (h : S p = true) (h0 : ∀ i, i < j → bckP n false S p i = false) (he : p < j + 1) : bckM n false S p k = ahdM n false S p := by
  refine bck_none h fun i _ => ?_
  by_cases hj : i < j
  · exact h0 i hj
  · unfold bckP
    rw [decide_eq_false (by omega)]
    rfl
theorem bck_lt {n : Nat} {ring : Bool} {S : Nat → Bool} {p k q : Nat} (hp : p < n) (h : bckM n ring S p k = some q) : q < n ∧ S q = false := by
  unfold bckM at h
  split at h
  · rename_i hS
    simp only [Option.some.injEq] at h
    subst h
    exact ⟨hp, hS⟩
  · split at h
    · rename_i j hj
      simp only [Option.some.injEq] at h
      subst h
      have h2 := List.find?_some hj
      unfold bckP at h2
      rw [Bool.and_eq_true] at h2
      exact ⟨Nat.mod_lt _ (by omega), by simpa using h2.2⟩
    · exact ahd_lt h

/-- the seats behind a car -/
def putO (S : Nat → Bool) : Option Nat → Nat → Bool
  | none => S
  | some q => fun i => S i || decide (i = q)
/-- the seats behind j cars -/
def stM (n : Nat) (ring : Bool) (k : Nat) (S : Nat → Bool) (l : List Nat) : Nat → Nat → Bool
  | 0 => S
  | j + 1 => putO (stM n ring k S l j) (bckM n ring (stM n ring k S l j) (l[j]?.getD 0) k)
/-- where car j parks -/
def carM (n : Nat) (ring : Bool) (k : Nat) (S : Nat → Bool) (l : List Nat) (j : Nat) : Option Nat := bckM n ring (stM n ring k S l j) (l[j]?.getD 0) k
theorem st_succ (n : Nat) (ring : Bool) (k : Nat) (S : Nat → Bool) (l : List Nat) (j : Nat) : stM n ring k S l (j + 1) = putO (stM n ring k S l j) (carM n ring k S l j) := rfl
/-- where the first j cars park -/
def pkM (n : Nat) (ring : Bool) (k : Nat) (S : Nat → Bool) (l : List Nat) (j : Nat) : List Int := (List.range j).map (fun i => optI (carM n ring k S l i))
theorem pk_succ (n : Nat) (ring : Bool) (k : Nat) (S : Nat → Bool) (l : List Nat) (j : Nat) : pkM n ring k S l (j + 1) = pkM n ring k S l j ++ [optI (carM n ring k S l j)] := by
  unfold pkM; rw [List.range_succ, List.map_append]; rfl
theorem pk_len (n : Nat) (ring : Bool) (k : Nat) (S : Nat → Bool) (l : List Nat) (j : Nat) : (pkM n ring k S l j).length = j := by unfold pkM; rw [List.length_map, List.length_range]
theorem pk_get {n : Nat} {ring : Bool} {k : Nat} {S : Nat → Bool} {l : List Nat} {j i : Nat} (h : i < j) : (pkM n ring k S l j)[i]?.getD 0 = optI (carM n ring k S l i) := by
  unfold pkM
  rw [List.getElem?_map, List.getElem?_range h]; rfl
theorem car_lt {n : Nat} {ring : Bool} {k : Nat} {S : Nat → Bool} {l : List Nat} {j q : Nat} (hl : ∀ x ∈ l, x < n) (hj : j < l.length) (h : carM n ring k S l j = some q) : q < n ∧ stM n ring k S l j q = false := by
  refine bck_lt ?_ h
  rw [List.getElem?_eq_getElem hj]
  exact hl _ (List.getElem_mem hj)
end Go.Proofs.Ytfabannlebolfaa
