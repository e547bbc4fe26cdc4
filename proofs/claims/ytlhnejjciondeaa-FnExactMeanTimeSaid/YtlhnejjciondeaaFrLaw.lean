/- What a law on a function that gives a fraction needs. -/
import Derived.Test.YtlhnejjciondeaaFrac
import Derived.Test.YtlhnejjciondeaaPairs
import Derived.Laws.ResultCell
namespace Go.Proofs.Ytlhnejjciondeaa
open Go.RowKit
end Go.Proofs.Ytlhnejjciondeaa
