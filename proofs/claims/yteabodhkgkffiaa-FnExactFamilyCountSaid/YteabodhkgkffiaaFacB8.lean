/- Chapter 8: numbers of orders and of choices, on both sides: spec.l8Orders, l6Choose, impl.ordersOf, choose, couplesSeated. -/
import Derived.Test.YteabodhkgkffiaaParM8
import Derived.Test.YteabodhkgkffiaaPow6
import Derived.Test.YteabodhkgkffiaaPowI6
import Derived.Deep.DeepCutAuto
namespace Go.Proofs.Yteabodhkgkffiaa
open Go.RowKit

set_option maxRecDepth 4000 in
set_option maxHeartbeats 1000000 in
theorem l8Orders_any (n : Nat) (hn : n ≤ 12) (w : World) :
    Calls Try.prog 44 #[.int .i64 (n : Nat)] w fun e w' => e = .returned (.int .i64 ((fac8 n : Nat) : Int)) ∧ w = w' := by
  obtain ⟨R, hR⟩ : ∃ R, fac8 n = R := ⟨_, rfl⟩
  rw [hR]
  have HR := Lib.hid hR
  clear hR
  go_enter Try.func44, Try.ntmps44
  go_wp2_with fail
  go_loop [3, 4] (fun vo vi => ∃ j : Nat, 1 ≤ j ∧ (j ≤ n ∨ j = 1) ∧ vo = .int .i64 ((fac8 j : Nat) : Int) ∧ vi = .int .i64 ((j : Int) + 1)) (fun _ vi => n + 1 - (intOf vi).toNat)
  case atStart => exact ⟨1, Nat.le_refl _, .inr rfl, rfl, rfl⟩
  case round =>
    obtain ⟨j, hj1, hj, rfl, rfl⟩ := hrel
    by_cases hlt : j + 1 ≤ n
    · have hk1 : (j : Int) + 1 ≤ (n : Int) := by omega
      have h1 := fac_le j (by omega)
      have h2 := fac_le (j + 1) (by omega)
      have hs : fac8 (j + 1) = fac8 j * (j + 1) := rfl
      have hm : ((fac8 j : Nat) : Int) * ((j : Int) + 1) = ((fac8 (j + 1) : Nat) : Int) := by rw [hs]; push_cast; rfl
      obtain ⟨x, hx⟩ : ∃ x, fac8 j = x := ⟨_, rfl⟩
      obtain ⟨y, hy⟩ : ∃ y, fac8 (j + 1) = y := ⟨_, rfl⟩
      rw [hy] at h2
      rw [hx, hy] at hm
      have hw : IntKind.i64.wrap (y : Int) = (y : Int) := IntWalk.i64_in _ (by omega)
      have HY := Lib.hid hy
      rw [hx]
      clear hx hy hs
      go_wp2_with fail
      go_round
      case rel => exact ⟨j + 1, by omega, .inl (by omega), by rw [HY.out], by go_num⟩
      case measure => simp [intOf]; omega
    · have hk1 : ¬ (j : Int) + 1 ≤ (n : Int) := by omega
      have hr : fac8 j = R := by
        rw [← HR.out]
        rcases Nat.lt_or_ge n 1 with h | h
        · have e1 : j = 1 := by omega
          have e2 : n = 0 := by omega
          rw [e1, e2]; rfl
        · have e1 : j = n := by omega
          rw [e1]
      obtain ⟨x, hx⟩ : ∃ x, fac8 j = x := ⟨_, rfl⟩
      rw [hx] at hr ⊢
      subst hr
      clear HR hx
      go_wp2_with fail
      go_ret
      exact ⟨rfl, rfl⟩

set_option maxRecDepth 4000 in
set_option maxHeartbeats 1000000 in
theorem ordersOf_any (n : Nat) (hn : n ≤ 12) (w : World) :
    Calls Try.prog 43 #[.int .i64 (n : Nat)] w fun e w' => e = .returned (.int .i64 ((fac8 n : Nat) : Int)) ∧ w = w' := by
  obtain ⟨R, hR⟩ : ∃ R, fac8 n = R := ⟨_, rfl⟩
  rw [hR]
  have HR := Lib.hid hR
  clear hR
  go_enter Try.func43, Try.ntmps43
  go_wp2_with fail
  go_loop [3, 6] (fun vo vi => ∃ j : Nat, j ≤ n ∧ vo = .int .i64 ((fac8 j : Nat) : Int) ∧ vi = .int .i64 (j : Int)) (fun _ vi => n - (intOf vi).toNat)
  case atStart => exact ⟨0, Nat.zero_le _, rfl, rfl⟩
  case round =>
    obtain ⟨j, hj, rfl, rfl⟩ := hrel
    by_cases hlt : j < n
    · have hk1 : (j : Int) < (n : Int) := by omega
      have h2 := fac_le (j + 1) (by omega)
      have hs : fac8 (j + 1) = fac8 j * (j + 1) := rfl
      have hm : ((fac8 j : Nat) : Int) * ((j : Int) + 1) = ((fac8 (j + 1) : Nat) : Int) := by rw [hs]; push_cast; rfl
      obtain ⟨x, hx⟩ : ∃ x, fac8 j = x := ⟨_, rfl⟩
      obtain ⟨y, hy⟩ : ∃ y, fac8 (j + 1) = y := ⟨_, rfl⟩
      rw [hy] at h2
      rw [hx, hy] at hm
      have hw : IntKind.i64.wrap (y : Int) = (y : Int) := IntWalk.i64_in _ (by omega)
      have HY := Lib.hid hy
      rw [hx]
      clear hx hy hs
      go_wp2_with fail
      go_round
      case rel => exact ⟨j + 1, by omega, by rw [HY.out], by go_num⟩
      case measure => simp [intOf]; omega
    · have hjn : j = n := by omega
      subst hjn
      have hk1 : ¬ (j : Int) < (j : Int) := by omega
      have hr := HR.out
      obtain ⟨x, hx⟩ : ∃ x, fac8 j = x := ⟨_, rfl⟩
      rw [hx] at hr ⊢
      subst hr
      clear HR hx
      go_wp2_with fail
      go_ret
      exact ⟨rfl, rfl⟩

set_option maxRecDepth 4000 in
set_option maxHeartbeats 1000000 in
theorem l6Choose_any8 (n k : Nat) (hn : n ≤ 12) (hk : k ≤ n) (w : World) :
    Calls Try.prog 37 #[.int .i64 (n : Nat), .int .i64 (k : Nat)] w fun e w' => e = .returned (.int .i64 ((cho8 n k : Nat) : Int)) ∧ w = w' := by
  obtain ⟨R, hR⟩ : ∃ R, cho8 n k = R := ⟨_, rfl⟩
  rw [hR]
  have HR := Lib.hid hR
  clear hR
  go_enter Try.func37, Try.ntmps37
  go_wp2_with fail
  go_loop [5, 6] (fun vo vi => ∃ j : Nat, j ≤ k ∧ vo = .int .i64 ((cho8 n j : Nat) : Int) ∧ vi = .int .i64 (j : Int)) (fun _ vi => k - (intOf vi).toNat)
  case atStart => exact ⟨0, Nat.zero_le _, rfl, rfl⟩
  case round =>
    obtain ⟨j, hj, rfl, rfl⟩ := hrel
    by_cases hlt : j < k
    · have hk1 : (j : Int) < (k : Int) := by omega
      have h1 := cho_le n hn j (by omega)
      have h2 := cho_le n hn (j + 1) (by omega)
      have hs : cho8 n (j + 1) = cho8 n j * (n - j) / (j + 1) := rfl
      obtain ⟨x, hx⟩ : ∃ x, cho8 n j = x := ⟨_, rfl⟩
      obtain ⟨y, hy⟩ : ∃ y, cho8 n (j + 1) = y := ⟨_, rfl⟩
      rw [hx] at h1 hs
      rw [hy] at h2 hs
      obtain ⟨d, hd⟩ : ∃ d, n - j = d := ⟨_, rfl⟩
      have hnd : (n : Int) - (j : Int) = (d : Int) := by omega
      rw [hd] at hs
      have hmx : x * d ≤ 924 * 12 := Nat.mul_le_mul h1 (by omega)
      obtain ⟨a, ha⟩ : ∃ a, x * d = a := ⟨_, rfl⟩
      have hma : (x : Int) * (d : Int) = (a : Int) := by rw [← ha]; push_cast; rfl
      rw [ha] at hs hmx
      have hwd : IntKind.i64.wrap (d : Int) = (d : Int) := IntWalk.i64_in _ (by omega)
      have hwa : IntKind.i64.wrap (a : Int) = (a : Int) := IntWalk.i64_in _ (by omega)
      have hdv : (a : Int).tdiv ((j : Int) + 1) = (y : Int) := by rw [hs, show (j : Int) + 1 = ((j + 1 : Nat) : Int) by omega]; exact (Int.ofNat_tdiv _ _).symm
      have hwy : IntKind.i64.wrap (y : Int) = (y : Int) := IntWalk.i64_in _ (by omega)
      have hj0 : ¬ (j : Int) + 1 = 0 := by omega
      have HY := Lib.hid hy
      rw [hx]
      clear hx hy hs ha hd
      go_wp2_with fail
      go_round
      case rel => exact ⟨j + 1, by omega, by rw [HY.out], by go_num⟩
      case measure => simp [intOf]; omega
    · have hjn : j = k := by omega
      subst hjn
      have hk1 : ¬ (j : Int) < (j : Int) := by omega
      have hr := HR.out
      obtain ⟨x, hx⟩ : ∃ x, cho8 n j = x := ⟨_, rfl⟩
      rw [hx] at hr ⊢
      subst hr
      clear HR hx
      go_wp2_with fail
      go_ret
      exact ⟨rfl, rfl⟩

set_option maxRecDepth 4000 in
set_option maxHeartbeats 1000000 in
theorem choose_any8 (n k : Nat) (hn : n ≤ 12) (hk : k ≤ n) (w : World) :
    Calls Try.prog 51 #[.int .i64 (n : Nat), .int .i64 (k : Nat)] w fun e w' => e = .returned (.int .i64 ((cho8 n k : Nat) : Int)) ∧ w = w' := by
  obtain ⟨R, hR⟩ : ∃ R, cho8 n k = R := ⟨_, rfl⟩
  rw [hR]
  have HR := Lib.hid hR
  clear hR
  go_enter Try.func51, Try.ntmps51
  go_wp2_with fail
  go_loop [5, 8] (fun vo vi => ∃ j : Nat, j ≤ k ∧ vo = .int .i64 ((cho8 n j : Nat) : Int) ∧ vi = .int .i64 (j : Int)) (fun _ vi => k - (intOf vi).toNat)
  case atStart => exact ⟨0, Nat.zero_le _, rfl, rfl⟩
  case round =>
    obtain ⟨j, hj, rfl, rfl⟩ := hrel
    by_cases hlt : j < k
    · have hk1 : (j : Int) < (k : Int) := by omega
      have h1 := cho_le n hn j (by omega)
      have h2 := cho_le n hn (j + 1) (by omega)
      have hs : cho8 n (j + 1) = cho8 n j * (n - j) / (j + 1) := rfl
      obtain ⟨x, hx⟩ : ∃ x, cho8 n j = x := ⟨_, rfl⟩
      obtain ⟨y, hy⟩ : ∃ y, cho8 n (j + 1) = y := ⟨_, rfl⟩
      rw [hx] at h1 hs
      rw [hy] at h2 hs
      obtain ⟨d, hd⟩ : ∃ d, n - j = d := ⟨_, rfl⟩
      have hnd : (n : Int) - (j : Int) = (d : Int) := by omega
      rw [hd] at hs
      have hmx : x * d ≤ 924 * 12 := Nat.mul_le_mul h1 (by omega)
      obtain ⟨a, ha⟩ : ∃ a, x * d = a := ⟨_, rfl⟩
      have hma : (x : Int) * (d : Int) = (a : Int) := by rw [← ha]; push_cast; rfl
      rw [ha] at hs hmx
      have hwd : IntKind.i64.wrap (d : Int) = (d : Int) := IntWalk.i64_in _ (by omega)
      have hwa : IntKind.i64.wrap (a : Int) = (a : Int) := IntWalk.i64_in _ (by omega)
      have hdv : (a : Int).tdiv ((j : Int) + 1) = (y : Int) := by rw [hs, show (j : Int) + 1 = ((j + 1 : Nat) : Int) by omega]; exact (Int.ofNat_tdiv _ _).symm
      have hwy : IntKind.i64.wrap (y : Int) = (y : Int) := IntWalk.i64_in _ (by omega)
      have hj0 : ¬ (j : Int) + 1 = 0 := by omega
      have HY := Lib.hid hy
      rw [hx]
      clear hx hy hs ha hd
      go_wp2_with fail
      go_round
      case rel => exact ⟨j + 1, by omega, by rw [HY.out], by go_num⟩
      case measure => simp [intOf]; omega
    · have hjn : j = k := by omega
      subst hjn
      have hk1 : ¬ (j : Int) < (j : Int) := by omega
      have hr := HR.out
      obtain ⟨x, hx⟩ : ∃ x, cho8 n j = x := ⟨_, rfl⟩
      rw [hx] at hr ⊢
      subst hr
      clear HR hx
      go_wp2_with fail
      go_ret
      exact ⟨rfl, rfl⟩

set_option maxRecDepth 4000 in
set_option maxHeartbeats 1000000 in
theorem couplesSeated_any (k : Nat) (ring : Bool) (s : Nat) (hk : k ≤ 6) (hk1 : 1 ≤ k) (hs : s ≤ k) (w : World) :
    Calls Try.prog 41 #[.int .i64 (k : Nat), .bool ring, .int .i64 (s : Nat)] w fun e w' => e = .returned (.int .i64 ((sea8 k ring s : Nat) : Int)) ∧ w = w' := by
  obtain ⟨a, ha⟩ : ∃ a, 2 * k - s = a := ⟨_, rfl⟩
  have C1 := fun w' => choose_any8 a s (by omega) (by omega) w'
  have FK := fun w' => ordersOf_any k (by omega) w'
  obtain ⟨d, hd⟩ : ∃ d, k - s = d := ⟨_, rfl⟩
  have FD := fun w' => ordersOf_any d (by omega) w'
  have hdi : (k : Int) - (s : Int) = (d : Int) := by omega
  have hai : 2 * (k : Int) - (s : Int) = (a : Int) := by omega
  have hR : sea8 k ring s = prs8 k ring s * fac8 k / fac8 d := by rw [← hd]; rfl
  have hP : prs8 k ring s = cho8 a s + if (ring && decide (0 < s)) = true then cho8 (a - 1) (s - 1) else 0 := by rw [← ha]; rfl
  have hpl := sea_le hk ring hs
  have hpl0 := prs_le k hk ring s hs
  have hfd := fac_pos d
  have hfl : fac8 k ≤ 479001600 := fac_le k (by omega)
  obtain ⟨R, hRR⟩ : ∃ R, sea8 k ring s = R := ⟨_, rfl⟩
  have hRl : R ≤ 1440000 := by rw [← hRR]; exact sea_le2 hk ring hs
  rw [hRR] at hR ⊢
  obtain ⟨P, hPP⟩ : ∃ P, prs8 k ring s = P := ⟨_, rfl⟩
  rw [hPP] at hR hP hpl hpl0
  obtain ⟨f, hf⟩ : ∃ f, fac8 k = f := ⟨_, rfl⟩
  rw [hf] at hR hpl FK hfl
  obtain ⟨g, hg⟩ : ∃ g, fac8 d = g := ⟨_, rfl⟩
  rw [hg] at hR hfd FD
  obtain ⟨m, hm⟩ : ∃ m, P * f = m := ⟨_, rfl⟩
  rw [hm] at hR hpl
  have hmi : (P : Int) * (f : Int) = (m : Int) := by rw [← hm]; push_cast; rfl
  have hdv : (m : Int).tdiv (g : Int) = (R : Int) := by rw [hR]; exact (Int.ofNat_tdiv _ _).symm
  have hg0 : ¬ (g : Int) = 0 := by omega
  have hg00 : ¬ g = 0 := by omega
  have hwR : IntKind.i64.wrap (R : Int) = (R : Int) := IntWalk.i64_in _ (by omega)
  have hwm : IntKind.i64.wrap (m : Int) = (m : Int) := IntWalk.i64_in _ (by omega)
  obtain ⟨x, hx⟩ : ∃ x, cho8 a s = x := ⟨_, rfl⟩
  rw [hx] at hP C1
  clear hR hRR hPP hm hf hg hd hfl
  by_cases hc : (ring && decide (0 < s)) = true
  · rw [if_pos hc] at hP
    simp only [Bool.and_eq_true, decide_eq_true_eq] at hc
    obtain ⟨rfl, hs0⟩ := hc
    obtain ⟨b, hb⟩ : ∃ b, a - 1 = b := ⟨_, rfl⟩
    obtain ⟨t, ht⟩ : ∃ t, s - 1 = t := ⟨_, rfl⟩
    have C2 := fun w' => choose_any8 b t (by omega) (by omega) w'
    rw [hb, ht] at hP
    obtain ⟨y, hy⟩ : ∃ y, cho8 b t = y := ⟨_, rfl⟩
    rw [hy] at hP C2
    have hbi : (a : Int) - 1 = (b : Int) := by omega
    have hti : (s : Int) - 1 = (t : Int) := by omega
    have hs0i : (0 : Int) < (s : Int) := by omega
    have hPi : (x : Int) + (y : Int) = (P : Int) := by omega
    have hwP : IntKind.i64.wrap (P : Int) = (P : Int) := IntWalk.i64_in _ (by omega)
    clear hx hy hb ht hP
    replace C1 := Lib.hid C1
    replace C2 := Lib.hid C2
    replace FK := Lib.hid FK
    replace FD := Lib.hid FD
    go_enter Try.func41, Try.ntmps41
    go_wp2_with fail
    refine (C1.out _).mono ?_
    rintro e w1 ⟨rfl, rfl⟩
    go_wp2_with fail
    refine (C2.out _).mono ?_
    rintro e w2 ⟨rfl, rfl⟩
    go_wp2_with fail
    refine (FK.out _).mono ?_
    rintro e w3 ⟨rfl, rfl⟩
    go_wp2_with fail
    refine (FD.out _).mono ?_
    rintro e w4 ⟨rfl, rfl⟩
    go_wp2_with fail
    go_ret
    exact ⟨rfl, rfl⟩
  · rw [if_neg hc] at hP
    have hxP : x = P := by omega
    subst hxP
    clear hx hP
    replace C1 := Lib.hid C1
    replace FK := Lib.hid FK
    replace FD := Lib.hid FD
    cases ring with
    | false =>
      go_enter Try.func41, Try.ntmps41
      go_wp2_with fail
      refine (C1.out _).mono ?_
      rintro e w1 ⟨rfl, rfl⟩
      go_wp2_with fail
      refine (FK.out _).mono ?_
      rintro e w3 ⟨rfl, rfl⟩
      go_wp2_with fail
      refine (FD.out _).mono ?_
      rintro e w4 ⟨rfl, rfl⟩
      go_wp2_with fail
      go_ret
      exact ⟨rfl, rfl⟩
    | true =>
      have hs0 : ¬ (0 : Int) < (s : Int) := by simp at hc; omega
      clear hc
      go_enter Try.func41, Try.ntmps41
      go_wp2_with fail
      refine (C1.out _).mono ?_
      rintro e w1 ⟨rfl, rfl⟩
      go_wp2_with fail
      refine (FK.out _).mono ?_
      rintro e w3 ⟨rfl, rfl⟩
      go_wp2_with fail
      refine (FD.out _).mono ?_
      rintro e w4 ⟨rfl, rfl⟩
      go_wp2_with fail
      go_ret
      exact ⟨rfl, rfl⟩
end Go.Proofs.Yteabodhkgkffiaa
