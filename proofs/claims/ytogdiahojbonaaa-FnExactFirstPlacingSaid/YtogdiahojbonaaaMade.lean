/- spec.l2Made. -/
import Derived.Test.YtogdiahojbonaaaMade0
namespace Go.Proofs.Ytogdiahojbonaaa
open Go.RowKit

set_option maxHeartbeats 800000 in
theorem l2Made_any (s : Int) (ring : Bool) (p : Option Addr) (m cap : Nat) (q : Option Addr) (k c : Nat) (w : World) :
    Calls Try.prog 48 #[rowV s ring p m cap, .slice q k c] w fun e w' => e = .returned (rowV s ring q k c) ∧ Below w.heap.size w w' := by
  have HZ : OwnArr ((w.alloc (.cells #[Value.int .i64 s, Value.bool ring, Value.slice p m cap] 28)).alloc (.cells #[Value.int .i64 s, Value.bool ring, Value.slice q k c] 28)) (w.heap.size + 1) 28 [.int .i64 s, .bool ring, .slice q k c] := OwnArr.mk' rfl (by simp)
  go_enter Try.func48, Try.ntmps48
  go_wp2_with fail
  refine ret_row Try.results48 rfl HZ rfl ⟨rfl, ?_⟩
  exact ((Below.refl _ _).alloc (Nat.le_refl _) _).alloc (by simp) _
end Go.Proofs.Ytogdiahojbonaaa
