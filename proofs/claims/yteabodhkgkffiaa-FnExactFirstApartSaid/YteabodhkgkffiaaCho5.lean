/- Chapter 5, spec side: spec.l5Choices. -/
import Derived.Test.YteabodhkgkffiaaHasS
import Derived.Test.YteabodhkgkffiaaApp
import Derived.StillTailTactics
namespace Go.Proofs.Yteabodhkgkffiaa
open Go.RowKit

/-- the seats that a traveler may take, behind those who took the seats xs -/
def choS (xs : List Int) (s : Nat) : Bool := !decide ((s : Int) ∈ xs)
def choM (n k : Nat) (xs : List Int) : List Nat := if k ≤ xs.length ∧ (xs.length : Int) ∉ xs then [xs.length] else tk n (choS xs)

end Go.Proofs.Yteabodhkgkffiaa
