/- Chapter 5, spec side: spec.l5Good, l5Own, OwnChance; laws.eqIntA2. -/
import Derived.Test.YteabodhkgkffiaaFrac
import Derived.Test.YteabodhkgkffiaaIsRow
import Derived.Laws.ResultCell
namespace Go.Proofs.Yteabodhkgkffiaa
open Go.RowKit

/-- what a function that gives a fraction and a flag gives -/
def MadeFr (w : World) (x y : Int) (B : Bool) (e : Ending) (w' : World) : Prop :=
  e = .returned (.tuple #[.agg #[.int .i64 x, .int .i64 y], .bool B]) ∧ Below w.heap.size w w'

/-- numbers of travelers and of lost passes -/
def good5 (n k : Int) : Bool := (decide (1 ≤ n) && decide (n ≤ 12)) && (decide (0 ≤ k) && decide (k ≤ n))
theorem good5_is {n k : Int} (h : good5 n k = true) : ∃ a b : Nat, n = a ∧ k = b ∧ 1 ≤ a ∧ a ≤ 12 ∧ b ≤ a := by
  simp only [good5, Bool.and_eq_true, decide_eq_true_eq] at h
  exact ⟨n.toNat, k.toNat, by omega, by omega, by omega, by omega, by omega⟩
theorem good5_of {a b : Nat} (h1 : 1 ≤ a) (h2 : a ≤ 12) (h3 : b ≤ a) : good5 a b = true := by
  simp only [good5, Bool.and_eq_true, decide_eq_true_eq]
  omega

/-- the chance that a traveler has the own seat -/
def ownR (n k i : Nat) : Rat := if i < k then mkRat 1 n else mkRat ((n - i : Nat) : Int) (n - i + k)
theorem one_over {n : Nat} (h : 0 < n) : (mkRat 1 n).num = 1 ∧ (mkRat 1 n).den = n := by
  have h0 : ¬ n = 0 := by omega
  rw [Rat.num_mkRat, Rat.den_mkRat, if_neg h0, if_neg h0]
  simp

/-- the own seat of a traveler who is there -/
def good5i (n k i : Int) : Bool := good5 n k && (decide (0 ≤ i) && decide (i ≤ n - 1))

end Go.Proofs.Yteabodhkgkffiaa
