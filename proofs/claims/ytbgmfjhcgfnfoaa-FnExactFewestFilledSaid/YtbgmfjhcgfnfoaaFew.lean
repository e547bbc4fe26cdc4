/- spec.FewestFilled and impl.FewestFilled, for every Row. -/
import Derived.Test.YtbgmfjhcgfnfoaaFewM
import Derived.Test.YtbgmfjhcgfnfoaaBlk
namespace Go.Proofs.Ytbgmfjhcgfnfoaa
open Go.RowKit

set_option maxRecDepth 4000 in
set_option maxHeartbeats 2000000 in
theorem fewI_gen (s : Int) (ring : Bool) (p : Option Addr) (m cap : Nat) (R : List (Nat × Nat)) (B : Bool) (w : World) (BL : Calls Try.prog 24 #[rowV s ring p m cap] (w.alloc (.cells #[.int .i64 s, .bool ring, .slice p m cap] 28)) fun e w' => ∃ v, e = .returned (.tuple #[v, .bool B]) ∧ OutP (w.heap.size + 1) w' v (prs R) ∧ Below (w.heap.size + 1) (w.alloc (.cells #[.int .i64 s, .bool ring, .slice p m cap] 28)) w') (hR : R.length ≤ 24) (hd : ∀ x ∈ R, x.2 ≤ 12) :
    Calls Try.prog 26 #[rowV s ring p m cap] w fun e w' => e = .returned (.tuple #[.int .i64 (lowR R : Nat), .int .i64 (highR s ring R : Nat), .bool B]) ∧ Below w.heap.size w w' := by
  have hb := box_below w s ring p m cap 28
  have HX := Lib.hid (OwnArr.made w 28 [.int .i64 s, .bool ring, .slice p m cap])
  have hs1 : (w.alloc (.cells #[.int .i64 s, .bool ring, .slice p m cap] 28)).heap.size = w.heap.size + 1 := by simp
  have HBL := Lib.hid BL
  have HB := Lib.hid hb
  have HD := Lib.hid hd
  obtain ⟨K, hK⟩ : ∃ K, R.length = K := ⟨_, rfl⟩
  rw [hK] at hR
  have HK := Lib.hid hK
  clear hb BL hd hK
  go_enter Try.func26, Try.ntmps26
  go_wp2_with fail
  refine HBL.out.mono ?_
  rintro e w1 ⟨v, rfl, hO, hb1⟩
  have HX1 := Lib.hid (HX.out.below hb1 (Nat.lt_succ_self _))
  have HB1 := Lib.hid (HB.out.trans (hb1.mono (Nat.le_succ _)))
  obtain ⟨q, c, hv, -, -, hR1, -⟩ := hO.rd
  subst hv
  rw [prs_length, HK.out]
  have HR1 := Lib.hid (hR1.mono (Nat.le_succ _) (Nat.le_refl _) (Nat.le_refl _))
  clear hb1 hO hR1 HX HB HBL hs1
  go_wp2_with fail
  go_loopw [7, 8, 10, 11, 19] (fun lv hv _ _ i wr => ∃ (k : Nat), k ≤ K ∧ i = .int .i64 k ∧ lv = .int .i64 (lowR (R.take k) : Nat) ∧ hv = .int .i64 (highR s ring (R.take k) : Nat) ∧ Hid (OwnArr wr w.heap.size 28 [.int .i64 s, .bool ring, .slice p m cap]) ∧ Hid (Rd w.heap.size w1.heap.size wr q (pcs (prs R))) ∧ Hid (Below w.heap.size w wr)) (fun _ _ _ _ i _ => K - (intOf i).toNat)
  case atStart => exact ⟨0, Nat.zero_le _, rfl, rfl, rfl, HX1, HR1, HB1⟩
  case round =>
    obtain ⟨k, hk, rfl, rfl, rfl, HX, HR, HB⟩ := hrel
    clear HX1 HR1 HB1
    by_cases hlt : k < K
    · have hkl : k < R.length := by have := HK.out; omega
      have hk0 : (0 : Int) ≤ (k : Int) := by omega
      have hk1 : (k : Int) < (K : Int) := by omega
      have hst1 := low_step hkl
      have hst2 := high_step (s := s) (ring := ring) hkl
      have hll := low_le (R := R) k HD.out
      have hhl := high_le (R := R) (s := s) (ring := ring) k HD.out
      have hd := HD.out _ (pair_mem hkl)
      obtain ⟨b, off, rfl, -, hbw, hc⟩ := HR.out.prs (by omega)
      obtain ⟨x0, x1⟩ := hc k hkl
      obtain ⟨a, ha⟩ : ∃ a, (R[k]?.getD (0, 0)).1 = a := ⟨_, rfl⟩
      obtain ⟨d, hdd⟩ : ∃ d, (R[k]?.getD (0, 0)).2 = d := ⟨_, rfl⟩
      rw [ha] at x0
      rw [hdd] at x1 hst1 hst2 hd
      obtain ⟨lo, hlo⟩ : ∃ lo, lowR (R.take k) = lo := ⟨_, rfl⟩
      obtain ⟨hi, hhi⟩ : ∃ hi, highR s ring (R.take k) = hi := ⟨_, rfl⟩
      rw [hlo] at hst1 hll
      rw [hhi] at hst2 hhl
      rw [hlo, hhi]
      have hlo3 : lo ≤ 300 := by omega
      have hhi3 : hi ≤ 300 := by omega
      obtain ⟨n1, n2, n3, n4, n5, n6, n7, n8, n9, n10, n11⟩ := few_nums hd hlo3 hhi3
      have HS1 := Lib.hid hst1
      unfold hiOne at hst2
      have HS2 := Lib.hid hst2
      have HX2 : Hid (OwnArr (wr.alloc (.cells #[.int .i64 (a : Int), .int .i64 (d : Int)] 55)) w.heap.size 28 [.int .i64 s, .bool ring, .slice p m cap]) := HX.out.alloc _
      have HR2 : Hid (Rd w.heap.size w1.heap.size (wr.alloc (.cells #[.int .i64 (a : Int), .int .i64 (d : Int)] 55)) (some ⟨b, off, none⟩) (pcs (prs R))) := HR.out.bel ((Below.refl _ _).alloc (Nat.le_refl _) _)
      have HB2 : Hid (Below w.heap.size w (wr.alloc (.cells #[.int .i64 (a : Int), .int .i64 (d : Int)] 55))) := HB.out.alloc HB.out.size _
      obtain ⟨c0, c1, c2, -⟩ := HX2.out.three
      have y0 : (wr.alloc (.cells #[.int .i64 (a : Int), .int .i64 (d : Int)] 55)).cell? ⟨wr.heap.size, 0, none⟩ = some (.int .i64 (a : Int)) := (OwnArr.made wr 55 [.int .i64 (a : Int), .int .i64 (d : Int)]).cell 0
      have y1 : (wr.alloc (.cells #[.int .i64 (a : Int), .int .i64 (d : Int)] 55)).cell? ⟨wr.heap.size, 1, none⟩ = some (.int .i64 (d : Int)) := (OwnArr.made wr 55 [.int .i64 (a : Int), .int .i64 (d : Int)]).cell 1
      clear hst1 hst2 hll hhl hc ha hdd hlo hhi HX HR HB hkl hlo3 hhi3
      obtain ⟨e3, he3⟩ : ∃ e, (d + 2) / 3 = e := ⟨_, rfl⟩
      obtain ⟨e2, he2⟩ : ∃ e, d / 2 = e := ⟨_, rfl⟩
      obtain ⟨e1, he1⟩ : ∃ e, (d + 1) / 2 = e := ⟨_, rfl⟩
      have HE3 := Lib.hid he3
      have HE2 := Lib.hid he2
      have HE1 := Lib.hid he1
      rw [he3] at n2 n3 n4
      rw [he2] at n5 n6 n7
      rw [he1] at n9 n10 n11
      clear he3 he2 he1 hd
      cases ring with
      | true =>
        by_cases hds : (d : Int) = s
        · have hq : Hid (highR s true (R.take (k + 1)) = hi + e2) := by
            show _ = _
            rw [HS2.out, if_pos (by simpa using hds), HE2.out]
          subst hds
          go_wp2_with fail
          go_roundw
          case rel => exact ⟨k + 1, by omega, by go_num, by rw [HS1.out, HE3.out]; go_num, by rw [hq.out]; go_num, HX2, HR2, HB2⟩
          case measure => simp [intOf]; omega
        · have hq : Hid (highR s true (R.take (k + 1)) = hi + e1) := by
            show _ = _
            rw [HS2.out, if_neg (by simpa using hds), HE1.out]
          have hb : ((d : Int) == s) = false := by simpa using hds
          go_wp2_with fail
          go_roundw
          case rel => exact ⟨k + 1, by omega, by go_num, by rw [HS1.out, HE3.out]; go_num, by rw [hq.out]; go_num, HX2, HR2, HB2⟩
          case measure => simp [intOf]; omega
      | false =>
        have hq : Hid (highR s false (R.take (k + 1)) = hi + e1) := by
          show _ = _
          rw [HS2.out, if_neg (by simp), HE1.out]
        go_wp2_with fail
        go_roundw
        case rel => exact ⟨k + 1, by omega, by go_num, by rw [HS1.out, HE3.out]; go_num, by rw [hq.out]; go_num, HX2, HR2, HB2⟩
        case measure => simp [intOf]; omega
    · have hkm : R.take k = R := List.take_of_length_le (by have := HK.out; omega)
      rw [hkm]
      clear hkm HX HR
      go_wp2_with fail
      go_ret3
      exact ⟨rfl, HB.out⟩

set_option maxRecDepth 4000 in
set_option maxHeartbeats 2000000 in
theorem fewS_gen (s : Int) (ring : Bool) (p : Option Addr) (m cap : Nat) (R : List (Nat × Nat)) (w : World) (RW : ∀ w', Below w.heap.size w w' → Calls Try.prog 42 #[rowV s ring p m cap] w' fun e w'' => e = .returned (.bool true) ∧ Below w'.heap.size w' w'') (BL : ∀ w', Below w.heap.size w w' → Calls Try.prog 43 #[rowV s ring p m cap] w' fun e w'' => ∃ v, e = .returned v ∧ OutP w'.heap.size w'' v (prs R) ∧ Below w'.heap.size w' w'') (hR : R.length ≤ 24) (hd : ∀ x ∈ R, x.2 ≤ 12) :
    Calls Try.prog 25 #[rowV s ring p m cap] w fun e w' => e = .returned (.tuple #[.int .i64 (lowR R : Nat), .int .i64 (highR s ring R : Nat), .bool true]) ∧ Below w.heap.size w w' := by
  have hb := box_below w s ring p m cap 28
  have HX := Lib.hid (OwnArr.made w 28 [.int .i64 s, .bool ring, .slice p m cap])
  have hs1 : (w.alloc (.cells #[.int .i64 s, .bool ring, .slice p m cap] 28)).heap.size = w.heap.size + 1 := by simp
  have HBL := Lib.hid BL
  have HRW := Lib.hid (RW _ hb)
  have HB := Lib.hid hb
  have HD := Lib.hid hd
  obtain ⟨K, hK⟩ : ∃ K, R.length = K := ⟨_, rfl⟩
  rw [hK] at hR
  have HK := Lib.hid hK
  clear hb BL hd hK RW
  go_enter Try.func25, Try.ntmps25
  go_wp2_with fail
  refine HRW.out.mono ?_
  rintro e w0 ⟨rfl, hb0⟩
  have HX0 := Lib.hid (HX.out.below hb0 HX.out.lt)
  have HB0 := Lib.hid (HB.out.trans (hb0.mono HB.out.size))
  clear HX HB hb0 HRW
  obtain ⟨c0, c1, c2, -⟩ := HX0.out.three
  go_wp2_with fail
  refine (HBL.out _ HB0.out).mono ?_
  rintro e w1 ⟨v, rfl, hO, hb1⟩
  have HX1 := Lib.hid (HX0.out.below hb1 HX0.out.lt)
  have HB1 := Lib.hid (HB0.out.trans (hb1.mono HB0.out.size))
  obtain ⟨q, c, hv, -, -, hR1, -⟩ := hO.rd
  subst hv
  rw [prs_length, HK.out]
  have HR1 := Lib.hid (hR1.mono HB0.out.size (Nat.le_refl _) (Nat.le_refl _))
  clear hb1 hO hR1 HX0 HB0 HBL c0 c1 c2 hs1
  go_wp2_with fail
  go_loopw [5, 6, 8, 9] (fun lv hv i _ wr => ∃ (k : Nat), k ≤ K ∧ i = .int .i64 k ∧ lv = .int .i64 (lowR (R.take k) : Nat) ∧ hv = .int .i64 (highR s ring (R.take k) : Nat) ∧ Hid (OwnArr wr w.heap.size 28 [.int .i64 s, .bool ring, .slice p m cap]) ∧ Hid (Rd w.heap.size w1.heap.size wr q (pcs (prs R))) ∧ Hid (Below w.heap.size w wr)) (fun _ _ i _ _ => K - (intOf i).toNat)
  case atStart => exact ⟨0, Nat.zero_le _, rfl, rfl, rfl, HX1, HR1, HB1⟩
  case round =>
    obtain ⟨k, hk, rfl, rfl, rfl, HX, HR, HB⟩ := hrel
    clear HX1 HR1 HB1
    by_cases hlt : k < K
    · have hkl : k < R.length := by have := HK.out; omega
      have hk0 : (0 : Int) ≤ (k : Int) := by omega
      have hk1 : (k : Int) < (K : Int) := by omega
      have hst1 := low_step hkl
      have hst2 := high_step (s := s) (ring := ring) hkl
      have hll := low_le (R := R) k HD.out
      have hhl := high_le (R := R) (s := s) (ring := ring) k HD.out
      have hd := HD.out _ (pair_mem hkl)
      obtain ⟨b, off, rfl, -, hbw, hc⟩ := HR.out.prs (by omega)
      obtain ⟨x0, x1⟩ := hc k hkl
      obtain ⟨a, ha⟩ : ∃ a, (R[k]?.getD (0, 0)).1 = a := ⟨_, rfl⟩
      obtain ⟨d, hdd⟩ : ∃ d, (R[k]?.getD (0, 0)).2 = d := ⟨_, rfl⟩
      rw [ha] at x0
      rw [hdd] at x1 hst1 hst2 hd
      obtain ⟨lo, hlo⟩ : ∃ lo, lowR (R.take k) = lo := ⟨_, rfl⟩
      obtain ⟨hi, hhi⟩ : ∃ hi, highR s ring (R.take k) = hi := ⟨_, rfl⟩
      rw [hlo] at hst1 hll
      rw [hhi] at hst2 hhl
      rw [hlo, hhi]
      have hlo3 : lo ≤ 300 := by omega
      have hhi3 : hi ≤ 300 := by omega
      obtain ⟨n1, n2, n3, n4, n5, n6, n7, n8, n9, n10, n11⟩ := few_nums hd hlo3 hhi3
      have HS1 := Lib.hid hst1
      unfold hiOne at hst2
      have HS2 := Lib.hid hst2
      have HX2 : Hid (OwnArr (wr) w.heap.size 28 [.int .i64 s, .bool ring, .slice p m cap]) := HX.out
      have HR2 : Hid (Rd w.heap.size w1.heap.size (wr) (some ⟨b, off, none⟩) (pcs (prs R))) := HR.out
      have HB2 : Hid (Below w.heap.size w (wr)) := HB.out
      obtain ⟨c0, c1, c2, -⟩ := HX2.out.three
      clear hst1 hst2 hll hhl hc ha hdd hlo hhi HX HR HB hkl hlo3 hhi3
      obtain ⟨e3, he3⟩ : ∃ e, (d + 2) / 3 = e := ⟨_, rfl⟩
      obtain ⟨e2, he2⟩ : ∃ e, d / 2 = e := ⟨_, rfl⟩
      obtain ⟨e1, he1⟩ : ∃ e, (d + 1) / 2 = e := ⟨_, rfl⟩
      have HE3 := Lib.hid he3
      have HE2 := Lib.hid he2
      have HE1 := Lib.hid he1
      rw [he3] at n2 n3 n4
      rw [he2] at n5 n6 n7
      rw [he1] at n9 n10 n11
      clear he3 he2 he1 hd
      cases ring with
      | true =>
        by_cases hds : (d : Int) = s
        · have hq : Hid (highR s true (R.take (k + 1)) = hi + e2) := by
            show _ = _
            rw [HS2.out, if_pos (by simpa using hds), HE2.out]
          subst hds
          go_wp2_with fail
          go_roundw
          case rel => exact ⟨k + 1, by omega, by go_num, by rw [HS1.out, HE3.out]; go_num, by rw [hq.out]; go_num, HX2, HR2, HB2⟩
          case measure => simp [intOf]; omega
        · have hq : Hid (highR s true (R.take (k + 1)) = hi + e1) := by
            show _ = _
            rw [HS2.out, if_neg (by simpa using hds), HE1.out]
          have hb : ((d : Int) == s) = false := by simpa using hds
          go_wp2_with fail
          go_roundw
          case rel => exact ⟨k + 1, by omega, by go_num, by rw [HS1.out, HE3.out]; go_num, by rw [hq.out]; go_num, HX2, HR2, HB2⟩
          case measure => simp [intOf]; omega
      | false =>
        have hq : Hid (highR s false (R.take (k + 1)) = hi + e1) := by
          show _ = _
          rw [HS2.out, if_neg (by simp), HE1.out]
        go_wp2_with fail
        go_roundw
        case rel => exact ⟨k + 1, by omega, by go_num, by rw [HS1.out, HE3.out]; go_num, by rw [hq.out]; go_num, HX2, HR2, HB2⟩
        case measure => simp [intOf]; omega
    · have hkm : R.take k = R := List.take_of_length_le (by have := HK.out; omega)
      rw [hkm]
      clear hkm HX HR
      go_wp2_with fail
      go_ret3
      exact ⟨rfl, HB.out⟩

set_option maxHeartbeats 800000 in
theorem fewS_no (s : Int) (ring : Bool) (p : Option Addr) (cap : Nat) (xs : List Int) (w : World) (lo hi : Nat) (hin : Ri lo hi w p xs) (hlen : xs.length ≤ 1048576) (h : fillB s ring xs = false) :
    Calls Try.prog 25 #[rowV s ring p xs.length cap] w fun e w' => e = .returned (.tuple #[.int .i64 0, .int .i64 0, .bool false]) ∧ Below w.heap.size w w' := by
  have hb := box_below w s ring p xs.length cap 28
  have I := Lib.hid (l4Row_any s ring p cap xs _ lo hi (hin.bel hb) hlen)
  rw [h] at I
  have HB := Lib.hid hb
  clear hb hin h
  go_enter Try.func25, Try.ntmps25
  go_wp2_with fail
  refine I.out.mono ?_
  rintro e w1 ⟨rfl, hb1⟩
  have HB1 := HB.out.trans (hb1.mono HB.out.size)
  clear I HB hb1
  go_wp2_with fail
  go_ret3
  exact ⟨rfl, HB1⟩

theorem fewestFilled_both (s : Int) (ring : Bool) (xs : List Int) : ∃ (X Y : Int) (B : Bool),
    (∀ (p : Option Addr) (cap : Nat) (w : World) (lo hi : Nat), Ri lo hi w p xs → xs.length ≤ 1048576 → Calls Try.prog 25 #[rowV s ring p xs.length cap] w fun e w' => e = .returned (.tuple #[.int .i64 X, .int .i64 Y, .bool B]) ∧ Below w.heap.size w w') ∧
    (∀ (p : Option Addr) (cap : Nat) (w : World) (lo hi : Nat), Ri lo hi w p xs → xs.length ≤ 1048576 → Calls Try.prog 26 #[rowV s ring p xs.length cap] w fun e w' => e = .returned (.tuple #[.int .i64 X, .int .i64 Y, .bool B]) ∧ Below w.heap.size w w') := by
  cases h : fillB s ring xs with
  | true =>
    obtain ⟨n, S, rfl, rfl, h2, hn, h3⟩ := fillB_is h
    refine ⟨(lowR (runsM n ring fun k => !lonM n ring S k) : Nat), (highR n ring (runsM n ring fun k => !lonM n ring S k) : Nat), true, fun p cap w lo hi hin hl => ?_, fun p cap w lo hi hin _ => ?_⟩
    · exact fewS_gen n ring p _ cap _ w (fun w' h' => by have := l4Row_any n ring p cap _ w' lo hi (hin.below h' hin.top) hl; rwa [h] at this) (fun w' h' => blkS_any n ring p cap S w' lo hi (hin.below h' hin.top) h2 (by omega)) (by have := runs_len n ring (fun k => !lonM n ring S k); omega) (runs_le hn)
    · refine fewI_gen n ring p _ cap _ true w ?_ (by have := runs_len n ring (fun k => !lonM n ring S k); omega) (runs_le hn)
      have hb := box_below w n ring p (ints (tk n S)).length cap 28
      have := blocksI_ok n ring p cap S _ lo hi (hin.bel hb) h2 hn h3
      rwa [show (w.alloc (.cells #[Value.int .i64 n, Value.bool ring, Value.slice p (ints (tk n S)).length cap] 28)).heap.size = w.heap.size + 1 from by simp] at this
  | false =>
    refine ⟨0, 0, false, fun p cap w lo hi hin hl => fewS_no s ring p cap xs w lo hi hin hl h, fun p cap w lo hi hin hl => ?_⟩
    refine fewI_gen s ring p _ cap [] false w ?_ (by simp) (by simp)
    have hb := box_below w s ring p xs.length cap 28
    have := blocksI_no s ring p cap xs _ lo hi (hin.bel hb) hl h
    rwa [show (w.alloc (.cells #[Value.int .i64 s, Value.bool ring, Value.slice p xs.length cap] 28)).heap.size = w.heap.size + 1 from by simp] at this
end Go.Proofs.Ytbgmfjhcgfnfoaa
