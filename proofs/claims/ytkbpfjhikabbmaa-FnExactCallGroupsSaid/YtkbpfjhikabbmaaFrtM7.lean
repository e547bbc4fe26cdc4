/- Chapter 7: enterings that are told: mathematics. Plain lemmas. -/
import Derived.Test.YtkbpfjhikabbmaaRowMath
import Derived.Test.YtkbpfjhikabbmaaInts
namespace Go.Proofs.Ytkbpfjhikabbmaa

def rowsB (n : Int) : Bool := decide (1 ≤ n) && decide (n ≤ 10)
theorem rowsB_is {n : Int} (h : rowsB n = true) : ∃ a : Nat, n = a ∧ 1 ≤ a ∧ a ≤ 10 := by
  unfold rowsB at h
  rw [Bool.and_eq_true, decide_eq_true_eq, decide_eq_true_eq] at h
  exact ⟨n.toNat, by omega, by omega, by omega⟩
/-- F's first numbers -/
def frM (F : Nat → Int) (n : Nat) : List Int := (List.range n).map F
theorem frM_len (F : Nat → Int) (n : Nat) : (frM F n).length = n := by unfold frM; rw [List.length_map, List.length_range]
theorem frM_succ (F : Nat → Int) (n : Nat) : frM F (n + 1) = frM F n ++ [F n] := by
  unfold frM
  rw [List.range_succ, List.map_append]; rfl
def backF (n : Nat) (i : Nat) : Int := (n : Int) - 1 - (i : Int)
def frontF (i : Nat) : Int := (i : Int)
/-- the groups of g rows before an end, as they are called -/
def grpM (g : Nat) : Nat → Nat → List Int
  | 0, _ => []
  | fuel + 1, e => if e = 0 then [] else frM (fun i => ((e - g + i : Nat) : Int)) (e - (e - g)) ++ grpM g fuel (e - g)
theorem grpM_len {g : Nat} : ∀ fuel e, (grpM g fuel e).length ≤ e
  | 0, e => Nat.zero_le _
  | fuel + 1, e => by
    unfold grpM
    split
    · exact Nat.zero_le _
    · rw [List.length_append, frM_len]
      have := grpM_len (g := g) fuel (e - g)
      omega
end Go.Proofs.Ytkbpfjhikabbmaa
