/- impl's gap, for seats of a Row. -/
import Derived.Test.YtoedcklgpmhnnaaGapS
namespace Go.Proofs.Ytoedcklgpmhnnaa
open Go.RowKit

set_option maxHeartbeats 800000 in
theorem gapI_any (n : Nat) (ring : Bool) (p : Option Addr) (m cap : Nat) (a b : Nat) (w : World) (hn : n ≤ 24) (ha : a < n) (hb : b < n) :
    Calls Try.prog 63 #[rowV n ring p m cap, .int .i64 a, .int .i64 b] w fun e w' => e = .returned (.int .i64 (gapM n ring a b : Nat)) ∧ Below w.heap.size w w' := by
  have HB := Lib.hid (box_below w n ring p m cap 28)
  cases ring with
  | false =>
    go_enter Try.func63, Try.ntmps63
    go_wp2_with fail
    all_goals
      go_ret
      refine ⟨ret_int ?_, HB.out⟩
      first
        | (rw [gap_line_le (by omega)]; omega)
        | (rw [gap_line_gt (by omega)]; omega)
  | true =>
    go_enter Try.func63, Try.ntmps63
    go_wp2_with fail
    all_goals
      go_ret
      refine ⟨ret_int ?_, HB.out⟩
      unfold gapM
      simp only [if_true]
      omega
end Go.Proofs.Ytoedcklgpmhnnaa
