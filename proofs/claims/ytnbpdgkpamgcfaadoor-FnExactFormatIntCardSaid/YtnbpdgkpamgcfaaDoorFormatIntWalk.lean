/- FnExactFormatInt's walk: for every number both functions give the same answer. -/
import Derived.Test.YtnbpdgkpamgcfaaDoorFmt
namespace Go.Proofs.YtnbpdgkpamgcfaaDoor.formatInt
open Go.RowKit

set_option maxHeartbeats 400000 in
theorem walk (n : Int) (w : World) (hT : TabOk w) :
    Calls Tryd.prog 5 #[.int .i64 n] w fun e w' => e = .returned (.bool true) ∧ Below w.heap.size w w' := by
  go_enter Tryd.func5, Tryd.ntmps5
  go_wp2_with fail
  refine (formatS_any n _).mono ?_
  rintro e w1 ⟨rfl, hb1⟩
  go_wp2_with fail
  refine (formatI_any n _ (hT.below hb1)).mono ?_
  rintro e w2 ⟨rfl, hb2⟩
  go_wp2_with fail
  go_ret
  exact ⟨rfl, hb1.trans (hb2.mono hb1.size)⟩
end Go.Proofs.YtnbpdgkpamgcfaaDoor.formatInt
