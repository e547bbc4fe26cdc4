/- Chapter 7, spec side: what is known of spec.l7Start serves all that leans on it. -/
import Derived.Test.YtlhnejjciondeaaRes7
import Derived.Test.YtlhnejjciondeaaSta7
namespace Go.Proofs.Ytlhnejjciondeaa
open Go.RowKit
theorem start7_ok : Start7 := fun n w h1 h2 => l7Start_any n w h1 h2
end Go.Proofs.Ytlhnejjciondeaa
