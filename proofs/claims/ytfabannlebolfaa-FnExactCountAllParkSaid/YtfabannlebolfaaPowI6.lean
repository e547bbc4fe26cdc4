/- Chapter 6, impl side: impl.power, isCarNumber, CountParking, LuckyCounts; both sides. -/
import Derived.Test.YtfabannlebolfaaPow6
import Derived.BigRegion
import Derived.StillTailTactics
namespace Go.Proofs.Ytfabannlebolfaa
open Go.RowKit

set_option maxRecDepth 4000 in
set_option maxHeartbeats 1000000 in
theorem power_any (a n : Nat) (hn : n ≤ 1000) (hb : ∀ j, j ≤ n → a ^ j ≤ 4611686018427387904) (w : World) :
    Calls Try.prog 34 #[.int .i64 (a : Nat), .int .i64 (n : Nat)] w fun e w' => e = .returned (.int .i64 ((a ^ n : Nat) : Int)) ∧ w = w' := by
  have HBD := Lib.hid hb
  obtain ⟨R, hR⟩ : ∃ R, a ^ n = R := ⟨_, rfl⟩
  rw [hR]
  have HR := Lib.hid hR
  clear hR hb
  go_enter Try.func34, Try.ntmps34
  go_wp2_with fail
  go_loop [5, 7] (fun vo vi => ∃ j : Nat, j ≤ n ∧ vo = .int .i64 ((a ^ j : Nat) : Int) ∧ vi = .int .i64 (j : Int)) (fun _ vi => n - (intOf vi).toNat)
  case atStart => exact ⟨0, Nat.zero_le _, rfl, rfl⟩
  case round =>
    obtain ⟨j, hj, rfl, rfl⟩ := hrel
    by_cases hlt : j < n
    · have hk1 : (j : Int) < (n : Int) := by omega
      have hf := HBD.out (j + 1) hlt
      have hm : ((a ^ j : Nat) : Int) * (a : Int) = ((a ^ (j + 1) : Nat) : Int) := by rw [Nat.pow_succ]; push_cast; rfl
      obtain ⟨x, hx⟩ : ∃ x, a ^ j = x := ⟨_, rfl⟩
      obtain ⟨y, hy⟩ : ∃ y, a ^ (j + 1) = y := ⟨_, rfl⟩
      rw [hy] at hf
      rw [hx, hy] at hm
      have hw : IntKind.i64.wrap (y : Int) = (y : Int) := IntWalk.i64_in _ (by omega)
      have HY := Lib.hid hy
      rw [hx]
      clear hx hy
      go_wp2_with fail
      go_round
      case rel => exact ⟨j + 1, by omega, by rw [HY.out], by go_num⟩
      case measure => simp [intOf]; omega
    · have hjn : j = n := by omega
      subst hjn
      have hk1 : ¬ (j : Int) < (j : Int) := by omega
      have hr := HR.out
      obtain ⟨x, hx⟩ : ∃ x, a ^ j = x := ⟨_, rfl⟩
      rw [hx] at hr ⊢
      subst hr
      clear HR hx
      go_wp2_with fail
      go_ret
      exact ⟨rfl, rfl⟩

theorem isCarNumber_any (n : Int) (w : World) :
    Calls Try.prog 35 #[.int .i64 n] w fun e w' => e = .returned (.bool (good6 n)) ∧ w = w' := by
  unfold good6
  by_cases h1 : 1 ≤ n
  · go_enter Try.func35, Try.ntmps35
    go_wp2_with fail
    go_ret
    exact ⟨ret_bool (by simp [h1]), rfl⟩
  · go_enter Try.func35, Try.ntmps35
    go_wp2_with fail
    go_ret
    exact ⟨ret_bool (by simp; omega), rfl⟩

set_option maxRecDepth 4000 in
set_option maxHeartbeats 1000000 in
theorem countParkingI_any (n : Int) (w : World) :
    Calls Try.prog 14 #[.int .i64 n] w fun e w' => e = .returned (.tuple #[.int .i64 (if good6 n then (((n.toNat + 1) ^ (n.toNat - 1) : Nat) : Int) else 0), .bool (good6 n)]) ∧ Below w.heap.size w w' := by
  have IN := fun w' => isCarNumber_any n w'
  cases hg2 : good6 n with
  | false =>
    rw [hg2] at IN
    replace IN := Lib.hid IN
    simp only [Bool.false_eq_true, if_false]
    clear hg2
    go_enter Try.func14, Try.ntmps14
    go_wp2_with fail
    refine (IN.out _).mono ?_
    rintro e w1 ⟨rfl, rfl⟩
    go_wp2_with fail
    go_ret2
    exact ⟨rfl, Below.refl _ _⟩
  | true =>
    rw [hg2] at IN
    replace IN := Lib.hid IN
    obtain ⟨a, rfl, h1, h2⟩ := good6_is hg2
    have P := fun w' => power_any (a + 1) (a - 1) (by omega) (fun j hj => Nat.le_trans (pow_small h2 (by omega)) (by omega)) w'
    simp only [if_true, Int.toNat_natCast]
    obtain ⟨R, hR⟩ : ∃ R, (a + 1) ^ (a - 1) = R := ⟨_, rfl⟩
    rw [hR] at P ⊢
    rw [show ((a + 1 : Nat) : Int) = (a : Int) + 1 by omega, show ((a - 1 : Nat) : Int) = (a : Int) - 1 by omega] at P
    have hw1 : IntKind.i64.wrap ((a : Int) + 1) = (a : Int) + 1 := IntWalk.i64_in _ (by omega)
    have hw2 : IntKind.i64.wrap ((a : Int) - 1) = (a : Int) - 1 := IntWalk.i64_in _ (by omega)
    replace P := Lib.hid P
    clear hg2 hR
    go_enter Try.func14, Try.ntmps14
    go_wp2_with fail
    refine (IN.out _).mono ?_
    rintro e w1 ⟨rfl, rfl⟩
    go_wp2_with fail
    refine (P.out _).mono ?_
    rintro e w2 ⟨rfl, rfl⟩
    go_wp2_with fail
    go_ret2
    exact ⟨rfl, Below.refl _ _⟩

theorem lk_zero (n : Nat) : ∀ j, lkN n j 0 = 0
  | 0 => rfl
  | j + 1 => by show lkN n j 0 * (j + 1) + 0 = 0; rw [lk_zero n j]; simp

set_option maxRecDepth 4000 in
set_option maxHeartbeats 2000000 in
theorem luckyCountsI_any (n : Int) (w : World) :
    Calls Try.prog 20 #[.int .i64 n] w fun e w' => ∃ v, e = .returned (.tuple #[v, .bool (good6 n)]) ∧ Out w.heap.size w' v (if good6 n then ints (nrM (n.toNat + 1) (lkN n.toNat (n.toNat - 1))) else []) ∧ Below w.heap.size w w' := by
  have IN := fun w' => isCarNumber_any n w'
  cases hg2 : good6 n with
  | false =>
    rw [hg2] at IN
    replace IN := Lib.hid IN
    simp only [Bool.false_eq_true, if_false]
    clear hg2
    go_enter Try.func20, Try.ntmps20
    go_wp2_with fail
    refine (IN.out _).mono ?_
    rintro e w1 ⟨rfl, rfl⟩
    have HO := Lib.hid (Out.nilLit w)
    have HB : Hid (Below w.heap.size w (w.alloc (.cells #[] 3))) := (Below.refl _ _).alloc (Nat.le_refl _) _
    go_wp2_with fail
    go_ret2
    exact ⟨_, rfl, HO.out, HB.out⟩
  | true =>
    rw [hg2] at IN
    replace IN := Lib.hid IN
    obtain ⟨n, rfl, h1, h2⟩ := good6_is hg2
    simp only [if_true, Int.toNat_natCast]
    have hmk0 := @run_make_row' Try.prog 22 3 (.int .i64 0) 8 Try.underlying22 infoInt rfl .i64 .i64 (n + 1) (by omega) (by omega)
    rw [madeCells_one, nr_zero] at hmk0
    have hmk := hmk0 w
    rw [show ((n + 1 : Nat) : Int) = (n : Int) + 1 by omega] at hmk
    obtain ⟨w2, hw2⟩ : ∃ w2, w2 = w.alloc (.cells (iv (ints (nrM (n + 1) fun _ => 0))).toArray 3) := ⟨_, rfl⟩
    rw [← hw2] at hmk
    have hO2 : OwnArr w2 w.heap.size 3 (iv (ints (nrM (n + 1) fun _ => 0))) := by rw [hw2]; exact OwnArr.made _ _ _
    have hB2 : Below w.heap.size w w2 := by rw [hw2]; exact (Below.refl _ _).alloc (Nat.le_refl _) _
    have hc1 := hO2.cell 1
    have hf1 := hO2.free 1
    rw [nr_get (by omega)] at hc1
    have hs1 := hO2.set 1 (.int .i64 ((1 : Nat) : Int))
    rw [nr_set] at hs1
    have HO3 : Hid (OwnArr (w2.setCell ⟨w.heap.size, 1, none⟩ (.int .i64 1)) w.heap.size 3 (iv (ints (nrM (n + 1) (lkN n 0))))) := hs1
    have HB3 := Lib.hid (hB2.setCell (p := ⟨w.heap.size, 1, none⟩) (Nat.le_refl _) (.int .i64 1))
    have hw1 : IntKind.i64.wrap ((n : Int) + 1) = (n : Int) + 1 := IntWalk.i64_in _ (by omega)
    have hn1 : (1 : Int) < (n : Int) + 1 := by omega
    obtain ⟨R, hR⟩ : ∃ R, ints (nrM (n + 1) (lkN n (n - 1))) = R := ⟨_, rfl⟩
    rw [hR]
    replace hR := Lib.hid hR
    clear hg2 hmk0 hw2 hO2 hB2 hs1
    go_enter Try.func20, Try.ntmps20
    go_wp2_with fail
    refine (IN.out _).mono ?_
    rintro e w1 ⟨rfl, rfl⟩
    go_wp2_with fail
    clear hmk hc1 hf1 hn1
    go_loopw [5, 6] (fun i _ wr => ∃ (j : Nat), j + 1 ≤ n ∧ i = .int .i64 ((j : Int) + 1) ∧ Hid (OwnArr wr w.heap.size 3 (iv (ints (nrM (n + 1) (lkN n j))))) ∧ Hid (Below w.heap.size w wr)) (fun i _ _ => n + 1 - (intOf i).toNat)
    case atStart => exact ⟨0, by omega, rfl, HO3, HB3⟩
    case round =>
      obtain ⟨j, hj, rfl, HO, HB⟩ := hrel
      clear HO3 HB3
      by_cases hlt : j + 1 < n
      · have hj1 : (j : Int) + 1 < (n : Int) := by omega
        have hwi : IntKind.i64.wrap ((j : Int) + 1 + 1) = (j : Int) + 1 + 1 := IntWalk.i64_in _ (by omega)
        have HO0 : Hid (OwnArr wr w.heap.size 3 (iv (ints (nrM (n + 1) fun p => if p < n + 1 then lkN n j p else lkN n (j + 1) p)))) := by
          show OwnArr _ _ _ _
          rw [nr_congr (G := lkN n j) (fun p hp => by rw [if_pos hp])]
          exact HO.out
        have HLE := Lib.hid (fun k => lk_le n j (by omega) k)
        have HLE2 := Lib.hid (fun k => lk_le n (j + 1) (by omega) k)
        have hpw := pow_small (n := n) (j := j) h2 (by omega)
        have hpw2 := pow_small (n := n) (j := j + 1) h2 (by omega)
        clear HO
        go_wp2_with fail
        go_loopw [6] (fun kv wr => ∃ (t : Nat), 1 ≤ t ∧ t ≤ n + 1 ∧ kv = .int .i64 ((t : Int) - 1) ∧ Hid (OwnArr wr w.heap.size 3 (iv (ints (nrM (n + 1) fun p => if p < t then lkN n j p else lkN n (j + 1) p)))) ∧ Hid (Below w.heap.size w wr)) (fun kv _ => ((intOf kv) + 1).toNat)
        case atStart => exact ⟨n + 1, by omega, Nat.le_refl _, by go_num, HO0, HB⟩
        case round =>
          obtain ⟨t, ht1, ht, rfl, HO, HB⟩ := hrel
          clear HO0
          by_cases ht0 : 1 < t
          · obtain ⟨k, rfl⟩ : ∃ k, t = k + 1 := ⟨t - 1, by omega⟩
            rw [show ((k + 1 : Nat) : Int) - 1 = (k : Int) by omega]
            have hk0 : (0 : Int) ≤ (k : Int) := by omega
            have hk00 : (1 : Int) ≤ (k : Int) := by omega
            have hk1 : (k : Int) < (n : Int) + 1 := by omega
            have hc := HO.out.cell k
            have hf := HO.out.free k
            rw [nr_get (by omega), if_pos (Nat.lt_succ_self k)] at hc
            have hl1 := HLE.out k
            have hl2 := HLE2.out k
            have hst : lkN n (j + 1) k = lkN n j k * (j + 1) + (if k = 0 then 0 else lkN n j (k - 1) * (n - j)) := rfl
            have hset := HO.out.set k (.int .i64 ((lkN n (j + 1) k : Nat) : Int))
            rw [nr_set, nr_congr (G := fun p => if p < k then lkN n j p else lkN n (j + 1) p) (fun p _ => by
              by_cases e : p = k
              · subst e; rw [if_pos rfl, if_neg (Nat.lt_irrefl _)]
              · rw [if_neg e]
                by_cases e2 : p < k
                · rw [if_pos (by omega), if_pos e2]
                · rw [if_neg (by omega), if_neg e2])] at hset
            have HO4 := Lib.hid hset
            have HB4 := Lib.hid (HB.out.setCell (p := ⟨w.heap.size, k, none⟩) (Nat.le_refl _) (.int .i64 ((lkN n (j + 1) k : Nat) : Int)))
            have hwk : IntKind.i64.wrap ((k : Int) - 1) = (k : Int) - 1 := IntWalk.i64_in _ (by omega)
            have hkz : ¬ k = 0 := by omega
            have hkp2 : (0 : Int) ≤ (k : Int) - 1 := by omega
            have hkp3 : (k : Int) - 1 < (n : Int) + 1 := by omega
            obtain ⟨k1, hk1'⟩ : ∃ k1, k - 1 = k1 := ⟨_, rfl⟩
            have hk1e : (k : Int) - 1 = (k1 : Int) := by omega
            have hc1 := HO.out.cell k1
            rw [nr_get (by omega), if_pos (by omega)] at hc1
            have hl3 := HLE.out k1
            rw [if_neg hkz, hk1'] at hst
            obtain ⟨x, hx⟩ : ∃ x, lkN n j k = x := ⟨_, rfl⟩
            obtain ⟨y, hy⟩ : ∃ y, lkN n j k1 = y := ⟨_, rfl⟩
            obtain ⟨z, hz⟩ : ∃ z, lkN n (j + 1) k = z := ⟨_, rfl⟩
            rw [hx] at hc hl1 hst
            rw [hy] at hc1 hl3 hst
            rw [hz] at hl2 hst HO4 HB4
            obtain ⟨a, ha⟩ : ∃ a, x * (j + 1) = a := ⟨_, rfl⟩
            obtain ⟨b, hb⟩ : ∃ b, y * (n - j) = b := ⟨_, rfl⟩
            rw [ha, hb] at hst
            have hma : ((j : Int) + 1) * (x : Int) = (a : Int) := by rw [← ha, Int.mul_comm]; push_cast; rfl
            have hnj : (n : Int) - ((j : Int) + 1) + 1 = ((n - j : Nat) : Int) := by omega
            have hmb : ((n - j : Nat) : Int) * (y : Int) = (b : Int) := by rw [← hb, Int.mul_comm]; push_cast; rfl
            obtain ⟨d, hd⟩ : ∃ d, n - j = d := ⟨_, rfl⟩
            rw [hd] at hnj hmb
            have hwa : IntKind.i64.wrap (a : Int) = (a : Int) := IntWalk.i64_in _ (by omega)
            have hwb : IntKind.i64.wrap (b : Int) = (b : Int) := IntWalk.i64_in _ (by omega)
            have hab : (a : Int) + (b : Int) = (z : Int) := by omega
            have hwz : IntKind.i64.wrap (z : Int) = (z : Int) := IntWalk.i64_in _ (by omega)
            have hwn : IntKind.i64.wrap ((n : Int) - ((j : Int) + 1)) = (n : Int) - ((j : Int) + 1) := IntWalk.i64_in _ (by omega)
            have hwd : IntKind.i64.wrap (d : Int) = (d : Int) := IntWalk.i64_in _ (by omega)
            clear hset hst hx hy hz ha hb hd hk1' HO HB
            go_wp2_with fail
            go_region
            all_goals
              go_wp2_with fail
              go_roundw
              case rel => exact ⟨k, by omega, by omega, by go_num, Lib.hid HO4.out.drew, Lib.hid HB4.out.drew⟩
              case measure => simp [intOf]; omega
          · have ht00 : t = 1 := by omega
            subst ht00
            have HO5 : Hid (OwnArr wr w.heap.size 3 (iv (ints (nrM (n + 1) (lkN n (j + 1)))))) := by
              show OwnArr _ _ _ _
              have := HO.out
              rwa [nr_congr (G := lkN n (j + 1)) (fun p _ => by
                by_cases e : p = 0
                · subst e; rw [if_pos (by omega), lk_zero, lk_zero]
                · rw [if_neg (by omega)])] at this
            clear HO HLE HLE2
            go_wp2_with fail
            go_roundw
            case rel => exact ⟨j + 1, by omega, by go_num, HO5, HB⟩
            case measure => simp [intOf]; omega
      · have hjn : j = n - 1 := by omega
        have hj1 : ¬ (j : Int) + 1 < (n : Int) := by omega
        have hO := HO.out
        rw [hjn, hR.out] at hO
        have HO5 := Lib.hid hO
        have HLR : Hid (R.length = n + 1) := by show _ = _; rw [← hR.out, ints_length, nr_len]
        clear hO HO hR hjn
        go_wp2_with fail
        go_ret2
        exact ⟨_, rfl, out_arr HO5.out (Nat.le_refl _) HLR.out (by unfold maxLen; omega), HB.out⟩
theorem countParking_both (a0 : Int) : ∃ (x0 : Int) (y1 : Bool), (∀  (w : World), Calls Try.prog 13 #[.int .i64 a0] w fun e w' => e = .returned (.tuple #[.int .i64 x0, .bool y1]) ∧ Below w.heap.size w w') ∧ (∀  (w : World), Calls Try.prog 14 #[.int .i64 a0] w fun e w' => e = .returned (.tuple #[.int .i64 x0, .bool y1]) ∧ Below w.heap.size w w') :=
  ⟨_, _, fun w => countParkingS_any a0 w, fun w => countParkingI_any a0 w⟩
theorem luckyCounts_both (a0 : Int) : ∃ (L0 : List Int) (y1 : Bool), L0.length ≤ 1000 ∧ (∀  (w : World), Calls Try.prog 19 #[.int .i64 a0] w fun e w' => ∃ v0, e = .returned (.tuple #[v0, .bool y1]) ∧ Out w.heap.size w' v0 L0 ∧ Below w.heap.size w w') ∧ (∀  (w : World), Calls Try.prog 20 #[.int .i64 a0] w fun e w' => ∃ v0, e = .returned (.tuple #[v0, .bool y1]) ∧ Out w.heap.size w' v0 L0 ∧ Below w.heap.size w w') :=
  ⟨_, _, by
    cases h : good6 a0 with
    | false => simp
    | true =>
      obtain ⟨n, rfl, h1, h2⟩ := good6_is h
      simp only [if_true, ints_length, nr_len, Int.toNat_natCast]
      omega, fun w => luckyCountsS_any a0 w, fun w => luckyCountsI_any a0 w⟩
end Go.Proofs.Ytfabannlebolfaa
