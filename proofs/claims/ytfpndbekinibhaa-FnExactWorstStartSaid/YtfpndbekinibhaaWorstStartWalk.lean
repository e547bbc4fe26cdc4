/- FnExactWorstStart's walk: for all arguments both functions give the same results. -/
import Derived.Test.YtfpndbekinibhaaStart
import Derived.Test.YtfpndbekinibhaaRowLaw
namespace Go.Proofs.Ytfpndbekinibhaa.worstStart
open Go.RowKit

set_option maxHeartbeats 800000 in
theorem walk (a : Int) (b : Bool) (w : World) (_ : -9223372036854775808 ≤ a ∧ a ≤ 9223372036854775807) :
    Calls Try.prog 4 #[.int .i64 a, .bool b] w fun e w' => e = .returned (.bool true) ∧ Below w.heap.size w w' := by
  obtain ⟨X, Y, B, S, I⟩ := worstStart_both a b
  replace S := Lib.hid S
  replace I := Lib.hid I
  go_enter Try.func4, Try.ntmps4
  go_wp2_with fail
  refine (S.out _).mono ?_
  rintro e w1 ⟨rfl, hb1⟩
  have B1 := Lib.hid hb1
  clear hb1 S
  go_wp2_with fail
  refine (I.out _).mono ?_
  rintro e w2 ⟨rfl, hb2⟩
  have B2 := Lib.hid (B1.out.trans (hb2.mono B1.out.size))
  clear hb2 I B1
  go_wp2_with fail
  go_ret
  exact ⟨rfl, B2.out⟩
end Go.Proofs.Ytfpndbekinibhaa.worstStart
