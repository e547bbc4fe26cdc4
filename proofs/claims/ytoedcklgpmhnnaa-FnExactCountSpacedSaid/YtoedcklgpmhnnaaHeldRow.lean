/- The laws' own heldRow. -/
import Derived.Test.YtoedcklgpmhnnaaRowHelp
namespace Go.Proofs.Ytoedcklgpmhnnaa
open Go.RowKit

end Go.Proofs.Ytoedcklgpmhnnaa
