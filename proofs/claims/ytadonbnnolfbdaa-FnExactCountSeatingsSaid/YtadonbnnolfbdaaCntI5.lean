/- Chapter 5, impl side: impl.CountSeatings; both sides. -/
import Derived.Test.YtadonbnnolfbdaaShr5
import Derived.Test.YtadonbnnolfbdaaCnt5
namespace Go.Proofs.Ytadonbnnolfbdaa
open Go.RowKit

/-- the product over the first j travelers -/
def prodN (k : Nat) : Nat → Nat
  | 0 => 1
  | j + 1 => prodN k j * (min j k + 1)
theorem prodN_small (k : Nat) : ∀ j, j ≤ k → prodN k j = facN j
  | 0, _ => rfl
  | j + 1, h => by show prodN k j * (min j k + 1) = facN j * (j + 1); rw [prodN_small k j (by omega), Nat.min_eq_left (by omega)]
theorem prodN_big (k : Nat) : ∀ d, prodN k (k + d) = facN k * (k + 1) ^ d
  | 0 => by rw [Nat.pow_zero, Nat.mul_one]; exact prodN_small k k (Nat.le_refl _)
  | d + 1 => by
    show prodN k (k + d) * (min (k + d) k + 1) = _
    rw [prodN_big k d, Nat.min_eq_right (by omega), Nat.pow_succ, Nat.mul_assoc]
theorem prodN_cnt {n k : Nat} (h : k ≤ n) : prodN k n = cntN n k := by
  have := prodN_big k (n - k)
  rw [show k + (n - k) = n by omega] at this
  exact this
theorem prodN_le {k j : Nat} (hk : k ≤ 12) (hj : j ≤ 12) : prodN k j ≤ 479001600 := by
  by_cases h : j ≤ k
  · rw [prodN_small k j h]; exact fac_bound hj
  · rw [show j = k + (j - k) by omega, prodN_big]; exact cnt_bound k hk _ (by omega)

set_option maxRecDepth 4000 in
set_option maxHeartbeats 1600000 in
theorem countSeatingsI_any (n k : Int) (w : World) :
    Calls Try.prog 15 #[.int .i64 n, .int .i64 k] w fun e w' => e = .returned (.tuple #[.int .i64 (if good5 n k then ((cntN n.toNat k.toNat : Nat) : Int) else 0), .bool (good5 n k)]) ∧ Below w.heap.size w w' := by
  have V := fun w' => isValid_any n k w'
  cases hg : good5 n k with
  | false =>
    rw [hg] at V
    replace V := Lib.hid V
    simp only [Bool.false_eq_true, if_false]
    clear hg
    go_enter Try.func15, Try.ntmps15
    go_wp2_with fail
    refine (V.out _).mono ?_
    rintro e w1 ⟨rfl, hb1⟩
    go_wp2_with fail
    go_ret2
    exact ⟨rfl, hb1⟩
  | true =>
    obtain ⟨a, b, rfl, rfl, h1, h2, h3⟩ := good5_is hg
    rw [hg] at V
    replace V := Lib.hid V
    simp only [if_true, Int.toNat_natCast]
    have HC := Lib.hid (prodN_cnt h3)
    clear hg
    go_enter Try.func15, Try.ntmps15
    go_wp2_with fail
    refine (V.out _).mono ?_
    rintro e w1 ⟨rfl, hb1⟩
    replace hb1 := Lib.hid hb1
    clear V
    go_wp2_with fail
    go_loop [6, 14, 7] (fun vo vi _ => ∃ j : Nat, j ≤ a ∧ vo = .int .i64 ((prodN b j : Nat) : Int) ∧ vi = .int .i64 (j : Int)) (fun _ vi _ => a - (intOf vi).toNat)
    case atStart => exact ⟨0, Nat.zero_le _, rfl, rfl⟩
    case round =>
      obtain ⟨j, hj, rfl, rfl⟩ := hrel
      by_cases hlt : j < a
      · have hk1 : (j : Int) < (a : Int) := by omega
        have hf := prodN_le (k := b) (j := j + 1) (by omega) (by omega)
        have hm : ((prodN b j : Nat) : Int) * (((min j b : Nat) : Int) + 1) = ((prodN b (j + 1) : Nat) : Int) := by
          show _ = ((prodN b j * (min j b + 1) : Nat) : Int)
          push_cast; rfl
        have hmle : min j b ≤ j := Nat.min_le_left _ _
        obtain ⟨x, hx⟩ : ∃ x, prodN b j = x := ⟨_, rfl⟩
        obtain ⟨y, hy⟩ : ∃ y, prodN b (j + 1) = y := ⟨_, rfl⟩
        rw [hy] at hf
        rw [hx, hy] at hm
        have hw : IntKind.i64.wrap (y : Int) = (y : Int) := IntWalk.i64_in _ (by omega)
        have HY := Lib.hid hy
        rw [hx]
        by_cases hjb : j ≤ b
        · have hmj : min j b = j := Nat.min_eq_left hjb
          rw [hmj] at hm
          clear hx hy hmj hmle
          go_wp2_with fail
          trace_state
          go_round
          case rel => exact ⟨j + 1, by omega, by rw [HY.out], by go_num⟩
          case measure => simp [intOf]; omega
        · have hmj : min j b = b := Nat.min_eq_right (by omega)
          rw [hmj] at hm
          clear hx hy hmj hmle
          go_wp2_with fail
          go_round
          case rel => exact ⟨j + 1, by omega, by rw [HY.out], by go_num⟩
          case measure => simp [intOf]; omega
      · have hja : j = a := by omega
        subst hja
        have hk1 : ¬ (j : Int) < (j : Int) := by omega
        have hc := HC.out
        obtain ⟨x, hx⟩ : ∃ x, prodN b j = x := ⟨_, rfl⟩
        rw [hx] at hc ⊢
        subst hc
        clear hx HC
        go_wp2_with fail
        go_ret2
        exact ⟨rfl, hb1.out⟩

theorem countSeatings_both (a0 a1 : Int) : ∃ (x : Int) (B : Bool), (∀ w : World, Calls Try.prog 14 #[.int .i64 a0, .int .i64 a1] w fun e w' => e = .returned (.tuple #[.int .i64 x, .bool B]) ∧ Below w.heap.size w w') ∧ (∀ w : World, Calls Try.prog 15 #[.int .i64 a0, .int .i64 a1] w fun e w' => e = .returned (.tuple #[.int .i64 x, .bool B]) ∧ Below w.heap.size w w') :=
  ⟨_, _, fun w => countSeatingsS_any a0 a1 w, fun w => countSeatingsI_any a0 a1 w⟩
end Go.Proofs.Ytadonbnnolfbdaa
