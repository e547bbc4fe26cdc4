/- Chapter 8: FamilyCount on both sides. -/
import Derived.Test.YteabodhkgkffiaaFamM8
import Derived.Test.YteabodhkgkffiaaFacB8
namespace Go.Proofs.Yteabodhkgkffiaa
open Go.RowKit

theorem famR_none {xs : List Int} {ring : Bool} (h : fam8 0 1 xs = none) : famR xs ring = (0, false) := by unfold famR; rw [h]
theorem famR_some {xs : List Int} {ring : Bool} {p u : Nat} (h : fam8 0 1 xs = some (p, u)) (h2 : (decide (p = 0) || (ring && decide (p < 3))) = true) : famR xs ring = (0, false) := by unfold famR; rw [h]; simp only; rw [if_pos h2]
theorem famR_good {xs : List Int} {ring : Bool} {p u : Nat} (h : fam8 0 1 xs = some (p, u)) (h2 : (decide (p = 0) || (ring && decide (p < 3))) = false) : famR xs ring = (((famV xs.length p u ring : Nat) : Int), true) := by unfold famR; rw [h]; simp only; rw [h2]; rfl


set_option maxRecDepth 4000 in
set_option maxHeartbeats 2000000 in
theorem familyS_any (xs : List Int) (ring : Bool) (q : Option Addr) (cap : Nat) (w : World) (lo hi : Nat) (hin : Ri lo hi w q xs) (hl : xs.length ≤ 1048576) :
    Calls Try.prog 26 #[.slice q xs.length cap, .bool ring] w fun e w' => e = .returned (.tuple #[.int .i64 (famR xs ring).1, .bool (famR xs ring).2]) ∧ Below w.heap.size w w' := by
  have FN := Lib.hid (fun h => famR_none (xs := xs) (ring := ring) h)
  have FS := Lib.hid (fun p u h h2 => famR_some (xs := xs) (ring := ring) (p := p) (u := u) h h2)
  have FG := Lib.hid (fun p u h h2 => famR_good (xs := xs) (ring := ring) (p := p) (u := u) h h2)
  obtain ⟨R, hR⟩ : ∃ R, famR xs ring = R := ⟨_, rfl⟩
  obtain ⟨R1, R2⟩ := R
  rw [hR]
  simp only [hR] at FN FS FG
  show Calls _ _ _ _ fun e w' => e = .returned (.tuple #[.int .i64 R1, .bool R2]) ∧ Below w.heap.size w w'
  have H0 := Lib.hid (Fam8.start xs)
  have HB := Lib.hid (fun k p u x (h : Fam8 xs k p u) => h.bad (x := x))
  have HN := Lib.hid (fun k p u x (h : Fam8 xs k p u) => h.next (x := x))
  have HD := Lib.hid (fun k p u (h : Fam8 xs k p u) => h.done)
  have HC := Lib.hid (fun (h : 0 < xs.length) => hin.int h)
  obtain ⟨m, hm⟩ : ∃ m, xs.length = m := ⟨_, rfl⟩
  rw [hm] at hl HB HN HD HC FG ⊢
  clear hin hR hm
  go_enter Try.func26, Try.ntmps26
  go_wp2_with fail
  go_loop [6, 7, 8] (fun vp vu vi => ∃ j p u : Nat, j ≤ m ∧ vp = .int .i64 (p : Int) ∧ vu = .int .i64 (u : Int) ∧ vi = .int .i64 (j : Int) ∧ Hid (Fam8 xs j p u)) (fun _ _ vi => m - (intOf vi).toNat)
  case atStart => exact ⟨0, 0, 1, Nat.zero_le _, rfl, rfl, rfl, H0⟩
  case round =>
    obtain ⟨j, p, u, hj, rfl, rfl, rfl, HF⟩ := hrel
    clear H0
    have hp12 := HF.out.top
    have hjp := HF.out.low
    have hus := HF.out.small
    by_cases hlt : j < m
    · have hk1 : (j : Int) < (m : Int) := by omega
      obtain ⟨b, off, rfl, -, -, -, hc⟩ := HC.out (by omega)
      have c1 := hc j hlt
      have hbad := HB.out j p u (xs[j]?.getD 0) HF.out hlt rfl
      have hnext := HN.out j p u (xs[j]?.getD 0) HF.out hlt rfl
      obtain ⟨x, hx⟩ : ∃ x, xs[j]?.getD 0 = x := ⟨_, rfl⟩
      rw [hx] at c1 hbad hnext
      clear hc hx HC HB HN HD FS FG
      have IN := fun w' => l1In_any x 1 12 w'
      by_cases h1 : 1 ≤ x
      · by_cases h2 : x ≤ 12
        · obtain ⟨a, rfl⟩ : ∃ a : Nat, x = a := ⟨x.toNat, by omega⟩
          have OR := fun w' => l8Orders_any a (by omega) w'
          have hfl := fac_le a (by omega)
          have hwp : IntKind.i64.wrap ((p : Int) + (a : Int)) = (p : Int) + (a : Int) := IntWalk.i64_in _ (by omega)
          by_cases h3 : (p : Int) + (a : Int) ≤ 12
          · have HX := Lib.hid (hnext h1 h3)
            rw [Int.toNat_natCast] at HX
            have hsm := HX.out.small
            have hmi : (u : Int) * ((fac8 a : Nat) : Int) = ((u * fac8 a : Nat) : Int) := by push_cast; rfl
            obtain ⟨f, hf⟩ : ∃ f, fac8 a = f := ⟨_, rfl⟩
            rw [hf] at OR hsm hmi HX
            obtain ⟨y, hy⟩ : ∃ y, u * f = y := ⟨_, rfl⟩
            rw [hy] at hsm hmi HX
            have hwy : IntKind.i64.wrap (y : Int) = (y : Int) := IntWalk.i64_in _ (by omega)
            rw [decide_eq_true h1, decide_eq_true h2] at IN
            have h3n : ¬ (12 : Int) < (p : Int) + (a : Int) := by omega
            replace IN := Lib.hid IN
            replace OR := Lib.hid OR
            clear hbad hnext hf hy hfl
            go_wp2_with fail
            refine (IN.out _).mono ?_
            rintro e w1 ⟨rfl, rfl⟩
            go_wp2_with fail
            refine (OR.out _).mono ?_
            rintro e w2 ⟨rfl, rfl⟩
            go_wp2_with fail
            go_round
            case rel => exact ⟨j + 1, p + a, y, by omega, by go_num, rfl, by go_num, HX⟩
            case measure => simp [intOf]; omega
          · have hr := FN.out (hbad (fun h => h3 h.2))
            simp only [Prod.mk.injEq] at hr
            obtain ⟨rfl, rfl⟩ := hr
            rw [decide_eq_true h1, decide_eq_true h2] at IN
            have h3n : (12 : Int) < (p : Int) + (a : Int) := by omega
            replace IN := Lib.hid IN
            clear hbad hnext hfl OR
            go_wp2_with fail
            refine (IN.out _).mono ?_
            rintro e w1 ⟨rfl, rfl⟩
            go_wp2_with fail
            go_ret2
            exact ⟨rfl, Below.refl _ _⟩
        · have hr := FN.out (hbad (fun h => by omega))
          simp only [Prod.mk.injEq] at hr
          obtain ⟨rfl, rfl⟩ := hr
          rw [decide_eq_true h1, decide_eq_false h2] at IN
          replace IN := Lib.hid IN
          clear hbad hnext
          go_wp2_with fail
          refine (IN.out _).mono ?_
          rintro e w1 ⟨rfl, rfl⟩
          go_wp2_with fail
          go_ret2
          exact ⟨rfl, Below.refl _ _⟩
      · have hr := FN.out (hbad (fun h => h1 h.1))
        simp only [Prod.mk.injEq] at hr
        obtain ⟨rfl, rfl⟩ := hr
        rw [decide_eq_false h1] at IN
        replace IN := Lib.hid IN
        clear hbad hnext
        go_wp2_with fail
        refine (IN.out _).mono ?_
        rintro e w1 ⟨rfl, rfl⟩
        go_wp2_with fail
        go_ret2
        exact ⟨rfl, Below.refl _ _⟩
    · have hjm : j = m := by omega
      subst hjm
      have hk1 : ¬ (j : Int) < (j : Int) := by omega
      have hdone := HD.out j p u HF.out (Nat.le_refl _)
      have hz := HF.out.zero
      have hzn := HF.out.nil0
      have hpos := HF.out.pos
      have FS2 := FS.out p u hdone
      have FG2 := FG.out p u hdone
      clear HD HN HB FN FS FG HC HF hdone
      by_cases h0 : p = 0
      · have hj0 : j = 0 := hz h0
        have hr := FS2 (by simp [h0])
        simp only [Prod.mk.injEq] at hr
        obtain ⟨rfl, rfl⟩ := hr
        subst h0
        subst hj0
        clear FS2 FG2 hz hzn
        go_wp2_with fail
        go_ret2
        exact ⟨rfl, Below.refl _ _⟩
      · have hj0 : ¬ j = 0 := fun e => h0 (hzn e)
        have hj0i : ¬ (j : Int) = 0 := by omega
        have hp0i : ¬ (p : Int) = 0 := by omega
        cases ring with
        | false =>
          have hr := FG2 (by simp [h0])
          simp only [Prod.mk.injEq] at hr
          obtain ⟨hr1, rfl⟩ := hr
          have OR := fun w' => l8Orders_any j (by omega) w'
          have hfl := fac_le j (by omega)
          have hV : famV j p u false = fac8 j * u := rfl
          rw [hV] at hr1
          have hb := mul_bound8 hfl hus
          have hmi : ((fac8 j : Nat) : Int) * (u : Int) = ((fac8 j * u : Nat) : Int) := by push_cast; rfl
          have hmi2 : (u : Int) * ((fac8 j : Nat) : Int) = ((fac8 j * u : Nat) : Int) := by rw [Int.mul_comm]; exact hmi
          obtain ⟨f, hf⟩ : ∃ f, fac8 j = f := ⟨_, rfl⟩
          rw [hf] at OR hb hmi hmi2 hr1
          obtain ⟨y, hy⟩ : ∃ y, f * u = y := ⟨_, rfl⟩
          rw [hy] at hb hmi hmi2 hr1
          have hwy : IntKind.i64.wrap (y : Int) = (y : Int) := IntWalk.i64_in _ (by omega)
          replace OR := Lib.hid OR
          have HR1 := Lib.hid hr1; clear hr1 FS2 FG2 hz hzn hf hy hV hfl
          go_wp2_with fail
          refine (OR.out _).mono ?_
          rintro e w2 ⟨rfl, rfl⟩
          go_wp2_with fail
          go_ret2
          exact ⟨by rw [HR1.out]; rfl, Below.refl _ _⟩
        | true =>
          by_cases h3 : p < 3
          · have h3i : (p : Int) < 3 := by omega
            have hr := FS2 (by simp [h3])
            simp only [Prod.mk.injEq] at hr
            obtain ⟨rfl, rfl⟩ := hr
            clear FS2 FG2 hz hzn
            go_wp2_with fail
            go_ret2
            exact ⟨rfl, Below.refl _ _⟩
          · have h3i : ¬ (p : Int) < 3 := by omega
            have hr := FG2 (by simp [h0, h3])
            simp only [Prod.mk.injEq] at hr
            obtain ⟨hr1, rfl⟩ := hr
            by_cases hj1 : j = 1
            · have hV : famV j p u true = fac8 1 * u := by subst hj1; rfl
              rw [hV] at hr1
              subst hj1
              have hV2 : fac8 1 * u = u := by show (1 * 1) * u = u; omega
              rw [hV2] at hr1
              have OR := Lib.hid (fun w' => l8Orders_any 1 (by omega) w')
              have hf1 : ((fac8 1 : Nat) : Int) = 1 := rfl
              have hwu : IntKind.i64.wrap (u : Int) = (u : Int) := IntWalk.i64_in _ (by omega)
              have HR1 := Lib.hid hr1; clear hr1 FS2 FG2 hz hzn hV hV2
              go_wp2_with fail
              go_ret2
              exact ⟨by rw [HR1.out]; rfl, Below.refl _ _⟩
            · have hj1i : ¬ (j : Int) = 1 := by omega
              have hj2i : (1 : Int) < (j : Int) := by omega
              obtain ⟨i, rfl⟩ : ∃ i, j = i + 1 := ⟨j - 1, by omega⟩
              have hV : famV (i + 1) p u true = p * fac8 i * u := by unfold famV; rw [if_pos (by simp; omega)]; rfl
              rw [hV] at hr1
              have OR := fun w' => l8Orders_any i (by omega) w'
              have hfl := fac_le i (by omega)
              have hfi : fac8 i ≤ 39916800 := Nat.le_trans (fac_mono (by omega : i ≤ 11)) (by decide)
              have hij : ((i + 1 : Nat) : Int) - 1 = (i : Int) := by omega
              have hij2 : (i : Int) + 1 - 1 = (i : Int) := by omega
              obtain ⟨f, hf⟩ : ∃ f, fac8 i = f := ⟨_, rfl⟩
              rw [hf] at OR hfl hfi hr1
              have hpf : p * f ≤ 12 * 39916800 := Nat.mul_le_mul hp12 hfi
              have hpu : p * u ≤ 12 * 479001600 := Nat.mul_le_mul hp12 hus
              have hb := mul_bound8 (a := p * f) (b := u) (by omega) hus
              have hm1 : (p : Int) * (f : Int) = ((p * f : Nat) : Int) := by push_cast; rfl
              have hm2 : (u : Int) * (p : Int) = ((p * u : Nat) : Int) := by push_cast; rw [Int.mul_comm]
              have hm3 : ((p * f : Nat) : Int) * (u : Int) = ((p * f * u : Nat) : Int) := by push_cast; rfl
              have hm4 : ((p * u : Nat) : Int) * (f : Int) = ((p * f * u : Nat) : Int) := by push_cast; rw [Int.mul_right_comm]
              obtain ⟨y1, hy1⟩ : ∃ y, p * f = y := ⟨_, rfl⟩
              obtain ⟨y2, hy2⟩ : ∃ y, p * u = y := ⟨_, rfl⟩
              rw [hy1] at hpf hb hm1 hm3 hm4 hr1
              rw [hy2] at hpu hm2 hm4
              obtain ⟨y, hy⟩ : ∃ y, y1 * u = y := ⟨_, rfl⟩
              rw [hy] at hb hm3 hm4 hr1
              have hwy : IntKind.i64.wrap (y : Int) = (y : Int) := IntWalk.i64_in _ (by omega)
              have hwy1 : IntKind.i64.wrap (y1 : Int) = (y1 : Int) := IntWalk.i64_in _ (by omega)
              have hwy2 : IntKind.i64.wrap (y2 : Int) = (y2 : Int) := IntWalk.i64_in _ (by omega)
              have hwi : IntKind.i64.wrap (i : Int) = (i : Int) := IntWalk.i64_in _ (by omega)
              replace OR := Lib.hid OR
              have HR1 := Lib.hid hr1; clear hr1 FS2 FG2 hz hzn hV hf hy hy1 hy2 hfl hfi
              go_wp2_with fail
              refine (OR.out _).mono ?_
              rintro e w2 ⟨rfl, rfl⟩
              go_wp2_with fail
              go_ret2
              exact ⟨by rw [HR1.out]; rfl, Below.refl _ _⟩

set_option maxRecDepth 4000 in
set_option maxHeartbeats 2000000 in
theorem familyI_any (xs : List Int) (ring : Bool) (q : Option Addr) (cap : Nat) (w : World) (lo hi : Nat) (hin : Ri lo hi w q xs) (hl : xs.length ≤ 1048576) :
    Calls Try.prog 27 #[.slice q xs.length cap, .bool ring] w fun e w' => e = .returned (.tuple #[.int .i64 (famR xs ring).1, .bool (famR xs ring).2]) ∧ Below w.heap.size w w' := by
  have FN := Lib.hid (fun h => famR_none (xs := xs) (ring := ring) h)
  have FS := Lib.hid (fun p u h h2 => famR_some (xs := xs) (ring := ring) (p := p) (u := u) h h2)
  have FG := Lib.hid (fun p u h h2 => famR_good (xs := xs) (ring := ring) (p := p) (u := u) h h2)
  obtain ⟨R, hR⟩ : ∃ R, famR xs ring = R := ⟨_, rfl⟩
  obtain ⟨R1, R2⟩ := R
  rw [hR]
  simp only [hR] at FN FS FG
  show Calls _ _ _ _ fun e w' => e = .returned (.tuple #[.int .i64 R1, .bool R2]) ∧ Below w.heap.size w w'
  have H0 := Lib.hid (Fam8.start xs)
  have HB := Lib.hid (fun k p u x (h : Fam8 xs k p u) => h.bad (x := x))
  have HN := Lib.hid (fun k p u x (h : Fam8 xs k p u) => h.next (x := x))
  have HD := Lib.hid (fun k p u (h : Fam8 xs k p u) => h.done)
  have HC := Lib.hid (fun (h : 0 < xs.length) => hin.int h)
  obtain ⟨m, hm⟩ : ∃ m, xs.length = m := ⟨_, rfl⟩
  rw [hm] at hl HB HN HD HC FG ⊢
  clear hin hR hm
  go_enter Try.func27, Try.ntmps27
  go_wp2_with fail
  go_loop [6, 7, 12] (fun vp vu vi => ∃ j p u : Nat, j ≤ m ∧ vp = .int .i64 (p : Int) ∧ vu = .int .i64 (u : Int) ∧ vi = .int .i64 (j : Int) ∧ Hid (Fam8 xs j p u)) (fun _ _ vi => m - (intOf vi).toNat)
  case atStart => exact ⟨0, 0, 1, Nat.zero_le _, rfl, rfl, rfl, H0⟩
  case round =>
    obtain ⟨j, p, u, hj, rfl, rfl, rfl, HF⟩ := hrel
    clear H0
    have hp12 := HF.out.top
    have hjp := HF.out.low
    have hus := HF.out.small
    by_cases hlt : j < m
    · have hk1 : (j : Int) < (m : Int) := by omega
      obtain ⟨b, off, rfl, -, -, -, hc⟩ := HC.out (by omega)
      have c1 := hc j hlt
      have hbad := HB.out j p u (xs[j]?.getD 0) HF.out hlt rfl
      have hnext := HN.out j p u (xs[j]?.getD 0) HF.out hlt rfl
      obtain ⟨x, hx⟩ : ∃ x, xs[j]?.getD 0 = x := ⟨_, rfl⟩
      rw [hx] at c1 hbad hnext
      clear hc hx HC HB HN HD FS FG
      by_cases h1 : 1 ≤ x
      · by_cases h2 : x ≤ 12
        · obtain ⟨a, rfl⟩ : ∃ a : Nat, x = a := ⟨x.toNat, by omega⟩
          have OR := fun w' => ordersOf_any a (by omega) w'
          have hfl := fac_le a (by omega)
          have hwp : IntKind.i64.wrap ((p : Int) + (a : Int)) = (p : Int) + (a : Int) := IntWalk.i64_in _ (by omega)
          by_cases h3 : (p : Int) + (a : Int) ≤ 12
          · have HX := Lib.hid (hnext h1 h3)
            rw [Int.toNat_natCast] at HX
            have hsm := HX.out.small
            have hmi : (u : Int) * ((fac8 a : Nat) : Int) = ((u * fac8 a : Nat) : Int) := by push_cast; rfl
            obtain ⟨f, hf⟩ : ∃ f, fac8 a = f := ⟨_, rfl⟩
            rw [hf] at OR hsm hmi HX
            obtain ⟨y, hy⟩ : ∃ y, u * f = y := ⟨_, rfl⟩
            rw [hy] at hsm hmi HX
            have hwy : IntKind.i64.wrap (y : Int) = (y : Int) := IntWalk.i64_in _ (by omega)
            have h1n : ¬ (a : Int) < 1 := by omega
            have hwq : IntKind.i64.wrap (12 - (p : Int)) = 12 - (p : Int) := IntWalk.i64_in _ (by omega)
            have h3n : ¬ 12 - (p : Int) < (a : Int) := by omega
            replace OR := Lib.hid OR
            clear hbad hnext hf hy hfl
            go_wp2_with fail
            refine (OR.out _).mono ?_
            rintro e w2 ⟨rfl, rfl⟩
            go_wp2_with fail
            go_round
            case rel => exact ⟨j + 1, p + a, y, by omega, by go_num, rfl, by go_num, HX⟩
            case measure => simp [intOf]; omega
          · have hr := FN.out (hbad (fun h => h3 h.2))
            simp only [Prod.mk.injEq] at hr
            obtain ⟨rfl, rfl⟩ := hr
            have h1n : ¬ (a : Int) < 1 := by omega
            have hwq : IntKind.i64.wrap (12 - (p : Int)) = 12 - (p : Int) := IntWalk.i64_in _ (by omega)
            have h3n : 12 - (p : Int) < (a : Int) := by omega
            clear hbad hnext hfl OR
            go_wp2_with fail
            go_ret2
            exact ⟨rfl, Below.refl _ _⟩
        · have hr := FN.out (hbad (fun h => by omega))
          simp only [Prod.mk.injEq] at hr
          obtain ⟨rfl, rfl⟩ := hr
          have h1n : ¬ x < 1 := by omega
          have hwq : IntKind.i64.wrap (12 - (p : Int)) = 12 - (p : Int) := IntWalk.i64_in _ (by omega)
          have h3n : 12 - (p : Int) < x := by omega
          clear hbad hnext
          go_wp2_with fail
          go_ret2
          exact ⟨rfl, Below.refl _ _⟩
      · have hr := FN.out (hbad (fun h => h1 h.1))
        simp only [Prod.mk.injEq] at hr
        obtain ⟨rfl, rfl⟩ := hr
        have h1n : x < 1 := by omega
        clear hbad hnext
        go_wp2_with fail
        go_ret2
        exact ⟨rfl, Below.refl _ _⟩
    · have hjm : j = m := by omega
      subst hjm
      have hk1 : ¬ (j : Int) < (j : Int) := by omega
      have hdone := HD.out j p u HF.out (Nat.le_refl _)
      have hz := HF.out.zero
      have hzn := HF.out.nil0
      have hpos := HF.out.pos
      have FS2 := FS.out p u hdone
      have FG2 := FG.out p u hdone
      clear HD HN HB FN FS FG HC HF hdone
      by_cases h0 : p = 0
      · have hj0 : j = 0 := hz h0
        have hr := FS2 (by simp [h0])
        simp only [Prod.mk.injEq] at hr
        obtain ⟨rfl, rfl⟩ := hr
        subst h0
        subst hj0
        clear FS2 FG2 hz hzn
        go_wp2_with fail
        go_ret2
        exact ⟨rfl, Below.refl _ _⟩
      · have hj0 : ¬ j = 0 := fun e => h0 (hzn e)
        have hj0i : ¬ (j : Int) = 0 := by omega
        have hp0i : ¬ (p : Int) = 0 := by omega
        cases ring with
        | false =>
          have hr := FG2 (by simp [h0])
          simp only [Prod.mk.injEq] at hr
          obtain ⟨hr1, rfl⟩ := hr
          have OR := fun w' => ordersOf_any j (by omega) w'
          have hfl := fac_le j (by omega)
          have hV : famV j p u false = fac8 j * u := rfl
          rw [hV] at hr1
          have hb := mul_bound8 hfl hus
          have hmi : ((fac8 j : Nat) : Int) * (u : Int) = ((fac8 j * u : Nat) : Int) := by push_cast; rfl
          have hmi2 : (u : Int) * ((fac8 j : Nat) : Int) = ((fac8 j * u : Nat) : Int) := by rw [Int.mul_comm]; exact hmi
          obtain ⟨f, hf⟩ : ∃ f, fac8 j = f := ⟨_, rfl⟩
          rw [hf] at OR hb hmi hmi2 hr1
          obtain ⟨y, hy⟩ : ∃ y, f * u = y := ⟨_, rfl⟩
          rw [hy] at hb hmi hmi2 hr1
          have hwy : IntKind.i64.wrap (y : Int) = (y : Int) := IntWalk.i64_in _ (by omega)
          replace OR := Lib.hid OR
          have HR1 := Lib.hid hr1; clear hr1 FS2 FG2 hz hzn hf hy hV hfl
          go_wp2_with fail
          refine (OR.out _).mono ?_
          rintro e w2 ⟨rfl, rfl⟩
          go_wp2_with fail
          go_ret2
          exact ⟨by rw [HR1.out]; rfl, Below.refl _ _⟩
        | true =>
          by_cases h3 : p < 3
          · have h3i : (p : Int) < 3 := by omega
            have hr := FS2 (by simp [h3])
            simp only [Prod.mk.injEq] at hr
            obtain ⟨rfl, rfl⟩ := hr
            clear FS2 FG2 hz hzn
            go_wp2_with fail
            go_ret2
            exact ⟨rfl, Below.refl _ _⟩
          · have h3i : ¬ (p : Int) < 3 := by omega
            have hr := FG2 (by simp [h0, h3])
            simp only [Prod.mk.injEq] at hr
            obtain ⟨hr1, rfl⟩ := hr
            by_cases hj1 : j = 1
            · have hV : famV j p u true = fac8 1 * u := by subst hj1; rfl
              rw [hV] at hr1
              subst hj1
              have hV2 : fac8 1 * u = u := by show (1 * 1) * u = u; omega
              rw [hV2] at hr1
              have OR := Lib.hid (fun w' => ordersOf_any 1 (by omega) w')
              have hf1 : ((fac8 1 : Nat) : Int) = 1 := rfl
              have hwu : IntKind.i64.wrap (u : Int) = (u : Int) := IntWalk.i64_in _ (by omega)
              have HR1 := Lib.hid hr1; clear hr1 FS2 FG2 hz hzn hV hV2
              rw [hf1] at OR
              clear hf1
              go_wp2_with fail
              refine (OR.out _).mono ?_
              rintro e w2 ⟨rfl, rfl⟩
              go_wp2_with fail
              go_ret2
              exact ⟨by rw [HR1.out]; rfl, Below.refl _ _⟩
            · have hj1i : ¬ (j : Int) = 1 := by omega
              have hj2i : (1 : Int) < (j : Int) := by omega
              obtain ⟨i, rfl⟩ : ∃ i, j = i + 1 := ⟨j - 1, by omega⟩
              have hV : famV (i + 1) p u true = p * fac8 i * u := by unfold famV; rw [if_pos (by simp; omega)]; rfl
              rw [hV] at hr1
              have OR := fun w' => ordersOf_any i (by omega) w'
              have hfl := fac_le i (by omega)
              have hfi : fac8 i ≤ 39916800 := Nat.le_trans (fac_mono (by omega : i ≤ 11)) (by decide)
              have hij : ((i + 1 : Nat) : Int) - 1 = (i : Int) := by omega
              have hij2 : (i : Int) + 1 - 1 = (i : Int) := by omega
              obtain ⟨f, hf⟩ : ∃ f, fac8 i = f := ⟨_, rfl⟩
              rw [hf] at OR hfl hfi hr1
              have hpf : p * f ≤ 12 * 39916800 := Nat.mul_le_mul hp12 hfi
              have hpu : p * u ≤ 12 * 479001600 := Nat.mul_le_mul hp12 hus
              have hb := mul_bound8 (a := p * f) (b := u) (by omega) hus
              have hm1 : (p : Int) * (f : Int) = ((p * f : Nat) : Int) := by push_cast; rfl
              have hm2 : (u : Int) * (p : Int) = ((p * u : Nat) : Int) := by push_cast; rw [Int.mul_comm]
              have hm3 : ((p * f : Nat) : Int) * (u : Int) = ((p * f * u : Nat) : Int) := by push_cast; rfl
              have hm4 : ((p * u : Nat) : Int) * (f : Int) = ((p * f * u : Nat) : Int) := by push_cast; rw [Int.mul_right_comm]
              obtain ⟨y1, hy1⟩ : ∃ y, p * f = y := ⟨_, rfl⟩
              obtain ⟨y2, hy2⟩ : ∃ y, p * u = y := ⟨_, rfl⟩
              rw [hy1] at hpf hb hm1 hm3 hm4 hr1
              rw [hy2] at hpu hm2 hm4
              obtain ⟨y, hy⟩ : ∃ y, y1 * u = y := ⟨_, rfl⟩
              rw [hy] at hb hm3 hm4 hr1
              have hwy : IntKind.i64.wrap (y : Int) = (y : Int) := IntWalk.i64_in _ (by omega)
              have hwy1 : IntKind.i64.wrap (y1 : Int) = (y1 : Int) := IntWalk.i64_in _ (by omega)
              have hwy2 : IntKind.i64.wrap (y2 : Int) = (y2 : Int) := IntWalk.i64_in _ (by omega)
              have hwi : IntKind.i64.wrap (i : Int) = (i : Int) := IntWalk.i64_in _ (by omega)
              replace OR := Lib.hid OR
              have HR1 := Lib.hid hr1; clear hr1 FS2 FG2 hz hzn hV hf hy hy1 hy2 hfl hfi
              go_wp2_with fail
              refine (OR.out _).mono ?_
              rintro e w2 ⟨rfl, rfl⟩
              go_wp2_with fail
              go_ret2
              exact ⟨by rw [HR1.out]; rfl, Below.refl _ _⟩

theorem familyCount_both (xs0 : List Int) (a1 : Bool) : ∃ (x0 : Int) (y1 : Bool), (∀ (q0 : Option Addr) (c0 : Nat) (w : World) (lo0 hi0 : Nat), Ri lo0 hi0 w q0 xs0 → xs0.length ≤ 1048576 → xs0.length ≤ c0 → c0 ≤ maxLen → Calls Try.prog 26 #[.slice q0 xs0.length c0, .bool a1] w fun e w' => e = .returned (.tuple #[.int .i64 x0, .bool y1]) ∧ Below w.heap.size w w') ∧ (∀ (q0 : Option Addr) (c0 : Nat) (w : World) (lo0 hi0 : Nat), Ri lo0 hi0 w q0 xs0 → xs0.length ≤ 1048576 → xs0.length ≤ c0 → c0 ≤ maxLen → Calls Try.prog 27 #[.slice q0 xs0.length c0, .bool a1] w fun e w' => e = .returned (.tuple #[.int .i64 x0, .bool y1]) ∧ Below w.heap.size w w') :=
  ⟨(famR xs0 a1).1, (famR xs0 a1).2, fun q c w lo hi h hl _ _ => familyS_any xs0 a1 q c w lo hi h hl, fun q c w lo hi h hl _ _ => familyI_any xs0 a1 q c w lo hi h hl⟩
end Go.Proofs.Yteabodhkgkffiaa
