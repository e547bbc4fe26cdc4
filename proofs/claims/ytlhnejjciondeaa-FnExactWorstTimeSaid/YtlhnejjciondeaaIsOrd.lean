/- impl.isOrder: a list has each of so many seats once. -/
import Derived.Test.YtlhnejjciondeaaSeqVals
import Derived.Test.YtlhnejjciondeaaOrderM
namespace Go.Proofs.Ytlhnejjciondeaa
open Go.RowKit

end Go.Proofs.Ytlhnejjciondeaa
