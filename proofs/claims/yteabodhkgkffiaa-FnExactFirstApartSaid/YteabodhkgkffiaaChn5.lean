/- Chapter 5, spec side: spec.l5Chance, l5Possible. -/
import Derived.Test.YteabodhkgkffiaaChM5
import Derived.Test.YteabodhkgkffiaaOwnP
namespace Go.Proofs.Yteabodhkgkffiaa
open Go.RowKit

/-- a list is a possible seating -/
def posB (n k : Nat) (xs : List Int) : Bool := decide (xs.length = n) && possM n k xs n
theorem chance_pos (n k : Nat) (xs : List Int) : decide (0 < (chanceR n k xs).num) = possM n k xs n := by
  unfold chanceR
  cases h : possM n k xs n with
  | true =>
    rw [if_pos rfl, (one_over (den_pos h)).1]; rfl
  | false => rw [if_neg (by simp)]; rfl

end Go.Proofs.Yteabodhkgkffiaa
