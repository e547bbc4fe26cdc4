/- Chapter 5, spec side: spec.CountSeatings. -/
import Derived.Test.YtadonbnnolfbdaaOwnP
namespace Go.Proofs.Ytadonbnnolfbdaa
open Go.RowKit

def facN : Nat → Nat
  | 0 => 1
  | n + 1 => facN n * (n + 1)
/-- the number of possible seatings -/
def cntN (n k : Nat) : Nat := facN k * (k + 1) ^ (n - k)
theorem cnt_bound : ∀ k, k ≤ 12 → ∀ j, j ≤ 12 - k → facN k * (k + 1) ^ j ≤ 479001600 := by decide
theorem fac_bound {k : Nat} (h : k ≤ 12) : facN k ≤ 479001600 := by have := cnt_bound k h 0 (Nat.zero_le _); simpa using this

set_option maxRecDepth 4000 in
set_option maxHeartbeats 1000000 in
theorem countSeatingsS_any (n k : Int) (w : World) :
    Calls Try.prog 14 #[.int .i64 n, .int .i64 k] w fun e w' => e = .returned (.tuple #[.int .i64 (if good5 n k then ((cntN n.toNat k.toNat : Nat) : Int) else 0), .bool (good5 n k)]) ∧ Below w.heap.size w w' := by
  have G := l5Good_any n k w
  cases hg : good5 n k with
  | false =>
    rw [hg] at G
    replace G := Lib.hid G
    simp only [Bool.false_eq_true, if_false]
    clear hg
    go_enter Try.func14, Try.ntmps14
    go_wp2_with fail
    refine G.out.mono ?_
    rintro e w1 ⟨rfl, rfl⟩
    go_wp2_with fail
    go_ret2
    exact ⟨rfl, Below.refl _ _⟩
  | true =>
    obtain ⟨a, b, rfl, rfl, h1, h2, h3⟩ := good5_is hg
    rw [hg] at G
    replace G := Lib.hid G
    simp only [if_true, Int.toNat_natCast]
    clear hg
    go_enter Try.func14, Try.ntmps14
    go_wp2_with fail
    refine G.out.mono ?_
    rintro e w1 ⟨rfl, rfl⟩
    clear G
    go_wp2_with fail
    go_loop [6, 7] (fun vo vi => ∃ i : Nat, i ≤ b ∧ vo = .int .i64 ((facN i : Nat) : Int) ∧ vi = .int .i64 ((i + 1 : Nat) : Int)) (fun _ vi => b + 1 - (intOf vi).toNat)
    case atStart => exact ⟨0, Nat.zero_le _, rfl, rfl⟩
    case round =>
      obtain ⟨i, hi, rfl, rfl⟩ := hrel
      by_cases hlt : i < b
      · have hk1 : ((i + 1 : Nat) : Int) ≤ (b : Int) := by omega
        have hf := fac_bound (k := i + 1) (by omega)
        have hm : ((facN i : Nat) : Int) * ((i : Int) + 1) = ((facN (i + 1) : Nat) : Int) := by
          show _ = ((facN i * (i + 1) : Nat) : Int)
          push_cast; rfl
        obtain ⟨x, hx⟩ : ∃ x, facN i = x := ⟨_, rfl⟩
        obtain ⟨y, hy⟩ : ∃ y, facN (i + 1) = y := ⟨_, rfl⟩
        rw [hy] at hf
        rw [hx, hy] at hm
        have hw : IntKind.i64.wrap (y : Int) = (y : Int) := IntWalk.i64_in _ (by omega)
        have HY := Lib.hid hy
        rw [hx]
        clear hx hy
        go_wp2_with fail
        go_round
        case rel => exact ⟨i + 1, by omega, by rw [HY.out], by go_num⟩
        case measure => simp [intOf]; omega
      · have hib : i = b := by omega
        subst hib
        have hk1 : ¬ ((i + 1 : Nat) : Int) ≤ (i : Int) := by omega
        go_wp2_with fail
        go_loop [6, 8] (fun vo vi => ∃ j : Nat, i + j ≤ a ∧ vo = .int .i64 ((facN i * (i + 1) ^ j : Nat) : Int) ∧ vi = .int .i64 ((i + j : Nat) : Int)) (fun _ vi => a - (intOf vi).toNat)
        case atStart => exact ⟨0, by omega, by rw [Nat.pow_zero, Nat.mul_one], rfl⟩
        case round =>
          obtain ⟨j, hj, rfl, rfl⟩ := hrel
          by_cases hlt2 : i + j < a
          · have hk2 : ((i + j : Nat) : Int) < (a : Int) := by omega
            have hf := cnt_bound i (by omega) (j + 1) (by omega)
            have hm : ((facN i * (i + 1) ^ j : Nat) : Int) * ((i : Int) + 1) = ((facN i * (i + 1) ^ (j + 1) : Nat) : Int) := by
              rw [Nat.pow_succ, ← Nat.mul_assoc]
              push_cast; rfl
            obtain ⟨x, hx⟩ : ∃ x, facN i * (i + 1) ^ j = x := ⟨_, rfl⟩
            obtain ⟨y, hy⟩ : ∃ y, facN i * (i + 1) ^ (j + 1) = y := ⟨_, rfl⟩
            rw [hy] at hf hm
            rw [hx] at hm
            have hw : IntKind.i64.wrap (y : Int) = (y : Int) := IntWalk.i64_in _ (by omega)
            have HY := Lib.hid hy
            rw [hx]
            clear hx hy
            go_wp2_with fail
            go_round
            case rel => exact ⟨j + 1, by omega, by rw [HY.out], by go_num⟩
            case measure => simp [intOf]; omega
          · have hja : a = i + j := by omega
            subst hja
            have hk2 : ¬ ((i + j : Nat) : Int) < ((i + j : Nat) : Int) := by omega
            have HC : Hid (cntN (i + j) i = facN i * (i + 1) ^ j) := by show _ = _; unfold cntN; rw [Nat.add_sub_cancel_left]
            go_wp2_with fail
            go_ret2
            exact ⟨by rw [HC.out]; rfl, Below.refl _ _⟩
end Go.Proofs.Ytadonbnnolfbdaa
