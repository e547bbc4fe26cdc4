/- Chapter 6, spec side: spec.l6Back. -/
import Derived.Test.YtfabannlebolfaaAhd6
namespace Go.Proofs.Ytfabannlebolfaa
open Go.RowKit

end Go.Proofs.Ytfabannlebolfaa
