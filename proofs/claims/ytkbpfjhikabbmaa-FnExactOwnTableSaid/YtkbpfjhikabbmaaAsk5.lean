/- Chapter 5, spec side: spec.l5Ask, IsPossible, SeatingChance. -/
import Derived.Test.YtkbpfjhikabbmaaChn5
namespace Go.Proofs.Ytkbpfjhikabbmaa
open Go.RowKit

/-- numbers and a possible seating -/
def askB (n k : Int) (xs : List Int) : Bool := good5 n k && posB n.toNat k.toNat xs

end Go.Proofs.Ytkbpfjhikabbmaa
