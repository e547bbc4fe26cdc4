/- slices.Sort of one number or two, in a block of the call's own. -/
import Derived.Test.YtidiljnonbkpjaaOut
import Derived.BigRegion
namespace Go.Proofs.Ytidiljnonbkpjaa
open Go.RowKit

set_option maxRecDepth 4000 in
set_option maxHeartbeats 1000000 in
theorem len64_one (w : World) : Calls Try.prog 116 #[.int .u64 1] w fun e w' => ∃ r : Int, e = .returned (.int .i64 r) ∧ w = w' := by
  go_enter Try.func116, Try.ntmps116
  go_wp2
  go_ret
  exact ⟨_, rfl, rfl⟩

theorem less_any (x y : Int) (w : World) : Calls Try.prog 138 #[.int .i64 x, .int .i64 y] w fun e w' => e = .returned (.bool (decide (x < y))) ∧ w = w' := by
  by_cases h : x < y
  · go_enter Try.func138, Try.ntmps138
    go_wp2
    go_ret
    exact ⟨ret_bool (by simp [h]), rfl⟩
  · go_enter Try.func138, Try.ntmps138
    go_wp2
    go_ret
    exact ⟨ret_bool (by simp; omega), rfl⟩

set_option maxRecDepth 4000 in
set_option maxHeartbeats 1000000 in
theorem insert_one (p : Option Addr) (cap : Nat) (w : World) :
    Calls Try.prog 132 #[.slice p 1 cap, .int .i64 0, .int .i64 1] w fun e w' => e = .returned (.tuple #[]) ∧ w = w' := by
  go_enter Try.func132, Try.ntmps132
  go_wp2
  refine wp_loop_rounds 1 ?_
  rw [rounds_succ]
  go_wp2
  go_end0
  exact ⟨rfl, rfl⟩

set_option maxRecDepth 4000 in
set_option maxHeartbeats 2000000 in
theorem insert_sorted (g off : Nat) (cap : Nat) (x y : Int) (w : World) (h0 : w.cell? ⟨g, off, none⟩ = some (.int .i64 x)) (h1 : w.cell? ⟨g, off + 1, none⟩ = some (.int .i64 y)) (hxy : x ≤ y) :
    Calls Try.prog 132 #[.slice (some ⟨g, off, none⟩) 2 cap, .int .i64 0, .int .i64 2] w fun e w' => e = .returned (.tuple #[]) ∧ ∃ n, w' = w.drewN n := by
  have hn : ¬ y < x := by omega
  go_enter Try.func132, Try.ntmps132
  go_wp2
  have HL := Lib.hid (fun w' => less_any y x w')
  have e1 : decide (y < x) = false := by simpa using hn
  rw [e1] at HL
  clear e1
  refine wp_loop_rounds 2 ?_
  rw [rounds_succ]
  go_wp2_with fail
  refine wp_loop_rounds 1 ?_
  rw [rounds_succ]
  go_wp2_with fail
  go_quiet ((go_at_call 138; exact quiet_same (HL.out _)))
  go_wp2_with fail
  rw [rounds_succ]
  go_wp2_with fail
  go_end0
  exact ⟨rfl, _, rfl⟩
set_option maxRecDepth 4000 in
set_option maxHeartbeats 4000000 in
theorem insert_swap (g off : Nat) (cap : Nat) (x y : Int) (w : World) (h0 : w.cell? ⟨g, off, none⟩ = some (.int .i64 x)) (h1 : w.cell? ⟨g, off + 1, none⟩ = some (.int .i64 y)) (f0 : w.frozen? ⟨g, off, none⟩ = false) (f1 : w.frozen? ⟨g, off + 1, none⟩ = false) (hxy : y < x) :
    Calls Try.prog 132 #[.slice (some ⟨g, off, none⟩) 2 cap, .int .i64 0, .int .i64 2] w fun e w' => e = .returned (.tuple #[]) ∧ ∃ n n2 : Nat, w' = (((w.drewN n).setCell ⟨g, off + 1, none⟩ (.int .i64 x)).setCell ⟨g, off, none⟩ (.int .i64 y)).drewN n2 := by
  go_enter Try.func132, Try.ntmps132
  go_wp2
  have HL := Lib.hid (fun w' => less_any y x w')
  have e1 : decide (y < x) = true := by simpa using hxy
  rw [e1] at HL
  clear e1
  refine wp_loop_rounds 2 ?_
  rw [rounds_succ]
  go_wp2_with fail
  refine wp_loop_rounds 2 ?_
  rw [rounds_succ]
  go_wp2_with fail
  go_quiet ((go_at_call 138; exact quiet_same (HL.out _)))
  go_wp2_with fail
  have hk1 : (0 : Int) < 1 := by omega
  have k0 : (w.drewN nq).cell? ⟨g, off, none⟩ = some (.int .i64 x) := h0
  have k1 : (w.drewN nq).cell? ⟨g, off + 1, none⟩ = some (.int .i64 y) := h1
  have j0 : (w.drewN nq).frozen? ⟨g, off, none⟩ = false := f0
  have j1 : (w.drewN nq).frozen? ⟨g, off + 1, none⟩ = false := f1
  generalize hW : w.drewN nq = W at k0 k1 j0 j1 ⊢
  clear h0 h1 f0 f1
  go_region
  go_wp2_with fail
  rw [rounds_succ]
  go_wp2_with fail
  go_quiet (fail)
  go_wp2_with fail
  rw [rounds_succ]
  go_wp2_with fail
  go_end0
  exact ⟨rfl, _, _, by rw [← hW]⟩
end Go.Proofs.Ytidiljnonbkpjaa
