/- The laws' own heldRow. -/
import Derived.Test.YtfabannlebolfaaRowHelp
namespace Go.Proofs.Ytfabannlebolfaa
open Go.RowKit

end Go.Proofs.Ytfabannlebolfaa
