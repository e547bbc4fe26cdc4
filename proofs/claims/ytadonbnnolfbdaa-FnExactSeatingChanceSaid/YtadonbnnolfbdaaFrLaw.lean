/- What a law on a function that gives a fraction needs. -/
import Derived.Test.YtadonbnnolfbdaaFrac
import Derived.Test.YtadonbnnolfbdaaPairs
import Derived.Laws.ResultCell
namespace Go.Proofs.Ytadonbnnolfbdaa
open Go.RowKit
end Go.Proofs.Ytadonbnnolfbdaa
