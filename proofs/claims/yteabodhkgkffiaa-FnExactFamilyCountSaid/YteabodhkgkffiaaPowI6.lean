/- Chapter 6, impl side: impl.power, isCarNumber, CountParking, LuckyCounts; both sides. -/
import Derived.Test.YteabodhkgkffiaaPow6
import Derived.BigRegion
import Derived.StillTailTactics
namespace Go.Proofs.Yteabodhkgkffiaa
open Go.RowKit

set_option maxRecDepth 4000 in
set_option maxHeartbeats 1000000 in
theorem power_any (a n : Nat) (hn : n ≤ 1000) (hb : ∀ j, j ≤ n → a ^ j ≤ 4611686018427387904) (w : World) :
    Calls Try.prog 42 #[.int .i64 (a : Nat), .int .i64 (n : Nat)] w fun e w' => e = .returned (.int .i64 ((a ^ n : Nat) : Int)) ∧ w = w' := by
  have HBD := Lib.hid hb
  obtain ⟨R, hR⟩ : ∃ R, a ^ n = R := ⟨_, rfl⟩
  rw [hR]
  have HR := Lib.hid hR
  clear hR hb
  go_enter Try.func42, Try.ntmps42
  go_wp2_with fail
  go_loop [5, 7] (fun vo vi => ∃ j : Nat, j ≤ n ∧ vo = .int .i64 ((a ^ j : Nat) : Int) ∧ vi = .int .i64 (j : Int)) (fun _ vi => n - (intOf vi).toNat)
  case atStart => exact ⟨0, Nat.zero_le _, rfl, rfl⟩
  case round =>
    obtain ⟨j, hj, rfl, rfl⟩ := hrel
    by_cases hlt : j < n
    · have hk1 : (j : Int) < (n : Int) := by omega
      have hf := HBD.out (j + 1) hlt
      have hm : ((a ^ j : Nat) : Int) * (a : Int) = ((a ^ (j + 1) : Nat) : Int) := by rw [Nat.pow_succ]; push_cast; rfl
      obtain ⟨x, hx⟩ : ∃ x, a ^ j = x := ⟨_, rfl⟩
      obtain ⟨y, hy⟩ : ∃ y, a ^ (j + 1) = y := ⟨_, rfl⟩
      rw [hy] at hf
      rw [hx, hy] at hm
      have hw : IntKind.i64.wrap (y : Int) = (y : Int) := IntWalk.i64_in _ (by omega)
      have HY := Lib.hid hy
      rw [hx]
      clear hx hy
      go_wp2_with fail
      go_round
      case rel => exact ⟨j + 1, by omega, by rw [HY.out], by go_num⟩
      case measure => simp [intOf]; omega
    · have hjn : j = n := by omega
      subst hjn
      have hk1 : ¬ (j : Int) < (j : Int) := by omega
      have hr := HR.out
      obtain ⟨x, hx⟩ : ∃ x, a ^ j = x := ⟨_, rfl⟩
      rw [hx] at hr ⊢
      subst hr
      clear HR hx
      go_wp2_with fail
      go_ret
      exact ⟨rfl, rfl⟩

theorem lk_zero (n : Nat) : ∀ j, lkN n j 0 = 0
  | 0 => rfl
  | j + 1 => by show lkN n j 0 * (j + 1) + 0 = 0; rw [lk_zero n j]; simp

end Go.Proofs.Yteabodhkgkffiaa
