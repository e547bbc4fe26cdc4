/- Chapter 7, spec side: spec.BackToFront, l7Front, FrontToBack. -/
import Derived.Test.YtkbpfjhikabbmaaFrtM7
import Derived.Test.YtkbpfjhikabbmaaIsRow
import Derived.Test.YtkbpfjhikabbmaaOut
import Derived.Test.YtkbpfjhikabbmaaApp
namespace Go.Proofs.Ytkbpfjhikabbmaa
open Go.RowKit

theorem rowsIn_any (n : Int) (w : World) : Calls Try.prog 34 #[.int .i64 n, .int .i64 1, .int .i64 10] w fun e w' => e = .returned (.bool (rowsB n)) ∧ w = w' := l1In_any n 1 10 w

end Go.Proofs.Ytkbpfjhikabbmaa
