/- The laws' own heldRow. -/
import Derived.Test.YtogdiahojbonaaaRowHelp
namespace Go.Proofs.Ytogdiahojbonaaa
open Go.RowKit

set_option maxHeartbeats 400000 in
theorem heldRow_any (s : Int) (ring : Bool) (p : Option Addr) (lo hi n cap k : Nat) (w : World) (hr : Ri lo hi w p (mk k n)) (h1 : k + n ≤ 10000000) :
    Calls Try.prog 29 #[rowV s ring p n cap, .int .i64 (k : Int)] w fun e w' => e = .returned (.int .i64 ((k + n : Nat) : Int)) ∧ Below w.heap.size w w' := by
  go_enter Try.func29, Try.ntmps29
  go_wp2_with fail
  have hb : Below w.heap.size w (w.alloc (.cells #[Value.int .i64 s, Value.bool ring, Value.slice p n cap] 28)) := (Below.refl _ _).alloc (Nat.le_refl _) _
  refine (heldI_any p lo hi n cap k _ (hr.bel hb) h1).mono ?_
  rintro e w2 ⟨rfl, hb2⟩
  obtain ⟨c, hc⟩ : ∃ c, k + n = c := ⟨_, rfl⟩
  rw [hc]
  have hc0 : ¬ (c : Int) < 0 := by omega
  go_wp2_with fail
  go_ret
  subst hc
  exact ⟨rfl, hb.trans (hb2.mono hb.size)⟩
end Go.Proofs.Ytogdiahojbonaaa
