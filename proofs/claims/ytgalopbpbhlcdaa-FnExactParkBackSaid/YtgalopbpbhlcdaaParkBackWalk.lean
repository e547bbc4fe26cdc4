/- FnExactParkBack's walk: for all arguments both functions give the same, in memory of the call's own. -/
import Derived.Test.YtgalopbpbhlcdaaPkB6
import Derived.Test.YtgalopbpbhlcdaaLst
import Derived.Test.YtgalopbpbhlcdaaRowLaw
import Derived.Test.YtgalopbpbhlcdaaHeldRow
import Derived.Deep.DeepCutAuto
import Derived.Deep.RegionWith
namespace Go.Proofs.Ytgalopbpbhlcdaa.parkBack
open Go.RowKit

set_option maxRecDepth 4000 in
set_option maxHeartbeats 8000000 in
theorem walk (s0 : Int) (r0 : Bool) (q0 : Option Addr) (c0 : Nat) (xs0 : List Int) (q1 : Option Addr) (c1 : Nat) (xs1 : List Int) (a2 : Int) (w : World) (hin0 : Ri 0 w.heap.size w q0 xs0) (hlen0 : xs0.length ≤ 9223372036854775807) (_ : -9223372036854775808 ≤ s0 ∧ s0 ≤ 9223372036854775807) (_ : ∀ x ∈ xs0, -9223372036854775808 ≤ x ∧ x ≤ 9223372036854775807) (hin1 : Ri 0 w.heap.size w q1 xs1) (hlen1 : xs1.length ≤ 9223372036854775807) (_ : -9223372036854775808 ≤ a2 ∧ a2 ≤ 9223372036854775807) :
    Calls Try.prog 4 #[rowV s0 r0 q0 xs0.length c0, .slice q1 xs1.length c1, .int .i64 a2] w fun e w' => e = .returned (.bool true) ∧ Below w.heap.size w w' := by
  have E_0 := Lib.hid (Env.start (s := s0) (ring := r0) (cap := c0) hin0)
  have SZ := fun w' => szRow_any s0 r0 q0 xs0.length c0 w' hlen0
  have N1_0 := Lib.hid (hin1.bel ((Below.refl w.heap.size w).alloc (Nat.le_refl _) (.cells #[.int .i64 s0, .bool r0, .slice q0 xs0.length c0] 24)))
  clear hin0 hin1
  by_cases hl1 : xs1.length ≤ 1048576
  case neg =>
    have hg1 : (1048576 : Int) < (xs1.length : Int) := by omega
    go_enter Try.func4, Try.ntmps4
    go_wp2_with fail
    go_ret
    exact ⟨rfl, E_0.out.bel⟩
  have hg1 : ¬ (1048576 : Int) < (xs1.length : Int) := by omega
  by_cases hl0 : xs0.length ≤ 1048576
  case neg =>
    rw [if_neg hl0] at SZ
    replace SZ := Lib.hid SZ
    go_enter Try.func4, Try.ntmps4
    go_wp2_with fail
    refine (SZ.out _).mono ?_
    rintro e w1 ⟨rfl, hb1⟩
    have E1 := Lib.hid (E_0.out.next hb1)
    go_wp2_with fail
    go_ret
    exact ⟨rfl, E1.out.bel⟩
  rw [if_pos hl0] at SZ
  replace SZ := Lib.hid SZ
  have h0 : ¬ (1048576 - (xs0.length : Int) < 0) := by omega
  obtain ⟨L0, x1, y1, L1, y2, hL0, hL1, S, I⟩ := parkBack_both s0 r0 xs0 xs1 a2
  replace S := Lib.hid S
  replace I := Lib.hid I
  obtain ⟨n0, hn0⟩ : ∃ n, L0.length = n := ⟨_, rfl⟩
  rw [hn0] at hL0
  replace hn0 := Lib.hid hn0
  obtain ⟨n1, hn1⟩ : ∃ n, L1.length = n := ⟨_, rfl⟩
  rw [hn1] at hL1
  replace hn1 := Lib.hid hn1
  go_enter Try.func4, Try.ntmps4
  go_wp2_with fail
  refine (SZ.out _).mono ?_
  rintro e w1 ⟨rfl, hb⟩
  have E_1 := Lib.hid (E_0.out.next hb)
  have N1_1 := Lib.hid (N1_0.out.bel hb)
  clear E_0 N1_0 hb SZ
  obtain ⟨a0', a1', a2', -⟩ := E_1.out.box.three
  go_wp2_with fail
  refine (toRow_any s0 r0 q0 c0 xs0 _ _ _ E_1.out.inn hl0).mono ?_
  rintro e w2 ⟨bs0, hms0, hns0', rfl, hos0, hb⟩
  clear a0' a1' a2'
  have E_2 := Lib.hid (E_1.out.next hb)
  have N1_2 := Lib.hid (N1_1.out.bel hb)
  clear E_1 N1_1 hb
  have Ks0 := Lib.hid (Rd.of_own hos0 hms0 hns0' (Nat.le_refl _) xs0.length)
  rw [List.take_of_length_le (by rw [iv_length]; exact Nat.le_refl _)] at Ks0
  clear hos0 hms0 hns0'
  go_wp2_with fail
  refine (toI_any q1 c1 xs1 _ _ _ N1_2.out hl1).mono ?_
  rintro e w3 ⟨bs1, hms1, hns1', rfl, hos1, hb⟩
  have E_3 := Lib.hid (E_2.out.next hb)
  have N1_3 := Lib.hid (N1_2.out.bel hb)
  have Ks0_3 := Lib.hid (Ks0.out.bel hb)
  clear E_2 N1_2 Ks0 hb
  have Ks1 := Lib.hid (Rd.of_own hos1 hms1 hns1' (Nat.le_refl _) xs1.length)
  rw [List.take_of_length_le (by rw [iv_length]; exact Nat.le_refl _)] at Ks1
  clear hos1 hms1 hns1'
  go_wp2_with fail
  refine (S.out _ _ _ _ _ _ _ _ _ Ks0_3.out hl0 (Nat.le_refl _) (by unfold maxLen; omega) Ks1.out hl1 (Nat.le_refl _) (by unfold maxLen; omega)).mono ?_
  rintro e w4 ⟨v0', v1', rfl, hO0, hO1, hb⟩
  obtain ⟨ps0, ks0, rfl, -, -, hR0, hW0⟩ := hO0.rd
  obtain ⟨ps1, ks1, rfl, -, -, hR1, hW1⟩ := hO1.rd
  have hbA1 := (Below.refl _ w4).alloc (Nat.le_refl _) (.cells #[.int .i64 x1, .bool y1, .slice ps1 L1.length ks1] 26)
  have hsqs := hb.size
  have E_4 := Lib.hid (E_3.out.next hb)
  have N1_4 := Lib.hid (N1_3.out.bel hb)
  have Ks0_4 := Lib.hid (Ks0_3.out.bel hb)
  have Ks1_4 := Lib.hid (Ks1.out.bel hb)
  clear E_3 N1_3 Ks0_3 Ks1 hb
  have Rs0 := Lib.hid hR0
  clear hO0 hR0 hW0
  have Rs1 := Lib.hid hR1
  clear hO1 hR1 hW1
  have hszs1 : w4.heap.size + 1 ≤ (w4.alloc (.cells #[.int .i64 x1, .bool y1, .slice ps1 L1.length ks1] 26)).heap.size := by simp
  have hsus1 : (w4.alloc (.cells #[.int .i64 x1, .bool y1, .slice ps1 L1.length ks1] 26)).heap.size ≤ w4.heap.size + 1 := by simp
  have hX := OwnArr.made w4 26 [.int .i64 x1, .bool y1, .slice ps1 L1.length ks1]
  have E_5 := Lib.hid (E_4.out.next hbA1)
  have N1_5 := Lib.hid (N1_4.out.bel hbA1)
  have Ks0_5 := Lib.hid (Ks0_4.out.bel hbA1)
  have Ks1_5 := Lib.hid (Ks1_4.out.bel hbA1)
  have Rs0_5 := Lib.hid (Rs0.out.bel hbA1)
  have Rs1_5 := Lib.hid (Rs1.out.bel hbA1)
  clear E_4 N1_4 Ks0_4 Ks1_4 Rs0 Rs1 hbA1
  have Bs1 := Lib.hid hX
  clear hX
  simp only [hn0.out, hn1.out] at E_5 N1_5 Ks0_5 Ks1_5 Rs0_5 Rs1_5 Bs1 hszs1 hsus1 ⊢
  clear Ks0_5
  clear Ks1_5
  have hz0 := E_5.out.bel.size
  have hz1 := E_5.out.box.lt
  have hz2_1 := Bs1.out.lt
  obtain ⟨a0', a1', a2', -⟩ := E_5.out.box.three
  go_wp2_with fail
  refine (toRow_any s0 r0 q0 c0 xs0 _ _ _ E_5.out.inn hl0).mono ?_
  rintro e w6 ⟨bx0, hmx, hnx, rfl, hox, hb⟩
  clear a0' a1' a2'
  have hbx := (Below.refl _ w6).alloc (Nat.le_refl _) (.cells #[.int .i64 s0, .bool r0, .slice (some ⟨bx0, 0, none⟩) xs0.length xs0.length] 26)
  have C0 := Lib.hid (Cpy.made (s := s0) (ring := r0) hox hmx)
  have hszx : w6.heap.size + 1 ≤ (w6.alloc (.cells #[.int .i64 s0, .bool r0, .slice (some ⟨bx0, 0, none⟩) xs0.length xs0.length] 26)).heap.size := by simp
  have hsux : (w6.alloc (.cells #[.int .i64 s0, .bool r0, .slice (some ⟨bx0, 0, none⟩) xs0.length xs0.length] 26)).heap.size ≤ w6.heap.size + 1 := by simp
  have hsx0 := hb.size
  clear hox hmx hnx
  have E_6 := Lib.hid (E_5.out.next hb)
  have N1_6 := Lib.hid (N1_5.out.bel hb)
  have Rs0_6 := Lib.hid (Rs0_5.out.bel hb)
  have Rs1_6 := Lib.hid (Rs1_5.out.bel hb)
  have Bs1_6 := Lib.hid (Bs1.out.below hb Bs1.out.lt)
  clear E_5 N1_5 Rs0_5 Rs1_5 Bs1 hb
  have E_7 := Lib.hid (E_6.out.next hbx)
  have N1_7 := Lib.hid (N1_6.out.bel hbx)
  have Rs0_7 := Lib.hid (Rs0_6.out.bel hbx)
  have Rs1_7 := Lib.hid (Rs1_6.out.bel hbx)
  have Bs1_7 := Lib.hid (Bs1_6.out.below hbx Bs1_6.out.lt)
  clear E_6 N1_6 Rs0_6 Rs1_6 Bs1_6 hbx
  go_wp2_with fail
  refine (toI_any q1 c1 xs1 _ _ _ N1_7.out hl1).mono ?_
  rintro e w7 ⟨bx1, hmx, hnx, rfl, hox, hb⟩
  have D1 : Hid (Lcp _ w7.heap.size bx1 xs1 w7) := ⟨hox, hmx, hnx, Nat.le_refl _⟩
  have hsx1 := hb.size
  clear hox hmx hnx
  have E_8 := Lib.hid (E_7.out.next hb)
  have N1_8 := Lib.hid (N1_7.out.bel hb)
  have Rs0_8 := Lib.hid (Rs0_7.out.bel hb)
  have Rs1_8 := Lib.hid (Rs1_7.out.bel hb)
  have Bs1_8 := Lib.hid (Bs1_7.out.below hb Bs1_7.out.lt)
  have C0_8 := Lib.hid (C0.out.next hb)
  clear E_7 N1_7 Rs0_7 Rs1_7 Bs1_7 C0 hb
  obtain ⟨x0', x1', x2', -⟩ := C0_8.out.box.three
  go_wp2_with fail
  refine (I.out _ _ _ _ _ _ _ _ _ C0_8.out.ri hl0 (Nat.le_refl _) (by unfold maxLen; omega) D1.out.ri hl1 (Nat.le_refl _) (by unfold maxLen; omega)).mono ?_
  rintro e w8 ⟨v0', v1', rfl, hO0, hO1, hSP, hb⟩
  obtain ⟨pg0, kg0, rfl, -, -, hR0, -⟩ := hO0.rd
  obtain ⟨pg1, kg1, rfl, -, -, hR1, -⟩ := hO1.rd
  obtain ⟨Mg', hM1g, hM2g, hW0, hW1⟩ := hSP
  replace hW0 := hW0 _ _ rfl
  replace hW1 := hW1 _ _ rfl
  have hbA1 := (Below.refl _ w8).alloc (Nat.le_refl _) (.cells #[.int .i64 x1, .bool y1, .slice pg1 L1.length kg1] 26)
  have hsqg := hb.size
  have E_9 := Lib.hid (E_8.out.next hb)
  have N1_9 := Lib.hid (N1_8.out.bel hb)
  have Rs0_9 := Lib.hid (Rs0_8.out.bel hb)
  have Rs1_9 := Lib.hid (Rs1_8.out.bel hb)
  have Bs1_9 := Lib.hid (Bs1_8.out.below hb Bs1_8.out.lt)
  have C0_9 := Lib.hid (C0_8.out.next hb)
  have D1_9 := Lib.hid (D1.out.next hb)
  clear E_8 N1_8 Rs0_8 Rs1_8 Bs1_8 C0_8 D1 hb
  have Rg0 := Lib.hid hR0
  have Og0 := Lib.hid hW0
  clear hO0 hR0 hW0
  have Rg1 := Lib.hid hR1
  have Og1 := Lib.hid hW1
  clear hO1 hR1 hW1
  have hszg1 : w8.heap.size + 1 ≤ (w8.alloc (.cells #[.int .i64 x1, .bool y1, .slice pg1 L1.length kg1] 26)).heap.size := by simp
  have hsug1 : (w8.alloc (.cells #[.int .i64 x1, .bool y1, .slice pg1 L1.length kg1] 26)).heap.size ≤ w8.heap.size + 1 := by simp
  have hX := OwnArr.made w8 26 [.int .i64 x1, .bool y1, .slice pg1 L1.length kg1]
  have E_10 := Lib.hid (E_9.out.next hbA1)
  have N1_10 := Lib.hid (N1_9.out.bel hbA1)
  have Rs0_10 := Lib.hid (Rs0_9.out.bel hbA1)
  have Rs1_10 := Lib.hid (Rs1_9.out.bel hbA1)
  have Bs1_10 := Lib.hid (Bs1_9.out.below hbA1 Bs1_9.out.lt)
  have C0_10 := Lib.hid (C0_9.out.next hbA1)
  have D1_10 := Lib.hid (D1_9.out.next hbA1)
  have Rg0_10 := Lib.hid (Rg0.out.bel hbA1)
  have Og0_10 := Lib.hid (Og0.out.bel hbA1)
  have Rg1_10 := Lib.hid (Rg1.out.bel hbA1)
  have Og1_10 := Lib.hid (Og1.out.bel hbA1)
  clear E_9 N1_9 Rs0_9 Rs1_9 Bs1_9 C0_9 D1_9 Rg0 Og0 Rg1 Og1 hbA1
  have Bg1 := Lib.hid hX
  clear hX
  simp only [hn0.out, hn1.out] at E_10 N1_10 Rs0_10 Rs1_10 Bs1_10 C0_10 D1_10 Rg0_10 Og0_10 Rg1_10 Og1_10 Bg1 hszg1 hsug1 ⊢
  clear x0' x1' x2'
  have hzg := E_10.out.bel.size
  have EQ0 := Lib.hid (fun (qa qb : Option Addr) (ca cb : Nat) (w' : World) (l1 h1 l2 h2 : Nat) (x : Ri l1 h1 w' qa L0) (y : Ri l2 h2 w' qb L0) => eqI_same qa qb ca cb L0 w' l1 h1 l2 h2 x y (by rw [hn0.out]; omega))
  rw [hn0.out] at EQ0
  have EQ1 := Lib.hid (fun (qa qb : Option Addr) (ca cb : Nat) (w' : World) (l1 h1 l2 h2 : Nat) (x : Ri l1 h1 w' qa L1) (y : Ri l2 h2 w' qb L1) => eqRow_same x1 y1 qa qb ca cb L1 w' l1 h1 l2 h2 x y (by rw [hn1.out]; omega))
  rw [hn1.out] at EQ1
  obtain ⟨fg10, fg11, fg12, -⟩ := Bg1.out.three
  obtain ⟨fs10, fs11, fs12, -⟩ := Bs1_10.out.three
  go_wp2_with fail
  refine (EQ0.out _ _ _ _ _ _ _ _ _ Rg0_10.out Rs0_10.out).mono ?_
  rintro e w10 ⟨rfl, hb⟩
  clear fg10 fg11 fg12
  clear fs10 fs11 fs12
  have E_11 := Lib.hid (E_10.out.next hb)
  have N1_11 := Lib.hid (N1_10.out.bel hb)
  have Rs0_11 := Lib.hid (Rs0_10.out.bel hb)
  have Rs1_11 := Lib.hid (Rs1_10.out.bel hb)
  have Bs1_11 := Lib.hid (Bs1_10.out.below hb Bs1_10.out.lt)
  have C0_11 := Lib.hid (C0_10.out.next hb)
  have D1_11 := Lib.hid (D1_10.out.next hb)
  have Rg0_11 := Lib.hid (Rg0_10.out.bel hb)
  have Og0_11 := Lib.hid (Og0_10.out.bel hb)
  have Rg1_11 := Lib.hid (Rg1_10.out.bel hb)
  have Og1_11 := Lib.hid (Og1_10.out.bel hb)
  have Bg1_11 := Lib.hid (Bg1.out.below hb Bg1.out.lt)
  clear E_10 N1_10 Rs0_10 Rs1_10 Bs1_10 C0_10 D1_10 Rg0_10 Og0_10 Rg1_10 Og1_10 Bg1 hb
  obtain ⟨fg10, fg11, fg12, -⟩ := Bg1_11.out.three
  obtain ⟨fs10, fs11, fs12, -⟩ := Bs1_11.out.three
  go_wp2_with fail
  refine (EQ1.out _ _ _ _ _ _ _ _ _ Rg1_11.out Rs1_11.out).mono ?_
  rintro e w11 ⟨rfl, hb⟩
  clear fg10 fg11 fg12
  clear fs10 fs11 fs12
  have E_12 := Lib.hid (E_11.out.next hb)
  have N1_12 := Lib.hid (N1_11.out.bel hb)
  have Rs0_12 := Lib.hid (Rs0_11.out.bel hb)
  have Rs1_12 := Lib.hid (Rs1_11.out.bel hb)
  have Bs1_12 := Lib.hid (Bs1_11.out.below hb Bs1_11.out.lt)
  have C0_12 := Lib.hid (C0_11.out.next hb)
  have D1_12 := Lib.hid (D1_11.out.next hb)
  have Rg0_12 := Lib.hid (Rg0_11.out.bel hb)
  have Og0_12 := Lib.hid (Og0_11.out.bel hb)
  have Rg1_12 := Lib.hid (Rg1_11.out.bel hb)
  have Og1_12 := Lib.hid (Og1_11.out.bel hb)
  have Bg1_12 := Lib.hid (Bg1_11.out.below hb Bg1_11.out.lt)
  clear E_11 N1_11 Rs0_11 Rs1_11 Bs1_11 C0_11 D1_11 Rg0_11 Og0_11 Rg1_11 Og1_11 Bg1_11 hb
  obtain ⟨a0', a1', a2', -⟩ := E_12.out.box.three
  obtain ⟨x0', x1', x2', -⟩ := C0_12.out.box.three
  go_upto_region 13 with fail
  go_cut [71] (fun v wx => v = .bool false ∧ Hid (Below w11.heap.size w11 wx))
  case first =>
    have hE := E_12.out.next ((Below.refl _ w11).drew)
    have hC := C0_12.out.next ((Below.refl _ w11).drew)
    have T6 := Lib.hid (toRow_any s0 r0 q0 c0 xs0 w11.drew _ _ hE.inn hl0)
    have HC := Lib.hid hC
    have HW := Lib.hid ((Below.refl w11.heap.size w11).drew)
    clear hE hC
    go_region_with (first
      | (go_at_call 11; refine T6.out.mono ?_; rintro e wx ⟨bz, hmz, hnz, rfl, hoz, hbz⟩; have HW8 := Lib.hid (HW.out.trans hbz); have CX := Lib.hid (HC.out.next hbz); have PX := Lib.hid (Rd.of_own hoz hmz hnz (Nat.le_refl _) xs0.length); rw [List.take_of_length_le (by rw [iv_length]; exact Nat.le_refl _)] at PX; obtain ⟨d0, d1, d2, -⟩ := CX.out.box.three; clear hoz hbz)
      | (go_at_call 15; refine (eqRow_same s0 r0 _ _ _ _ xs0 _ _ _ _ _ CX.out.ri PX.out (by omega)).mono ?_; rintro e wy ⟨rfl, hby⟩; have HW9 := Lib.hid (HW8.out.trans (hby.mono HW8.out.size))))
    all_goals
      go_wp2_with fail
      go_meet
      exact ⟨rfl, HW9⟩
  case rest =>
  obtain ⟨rfl, HW⟩ := hcut
  obtain ⟨w14, rfl⟩ : ∃ w14 : World, w14 = wc := ⟨_, rfl⟩
  have hb := HW.out
  clear a0' a1' a2' x0' x1' x2' HW
  have E_13 := Lib.hid (E_12.out.next hb)
  have N1_13 := Lib.hid (N1_12.out.bel hb)
  have Rs0_13 := Lib.hid (Rs0_12.out.bel hb)
  have Rs1_13 := Lib.hid (Rs1_12.out.bel hb)
  have Bs1_13 := Lib.hid (Bs1_12.out.below hb Bs1_12.out.lt)
  have C0_13 := Lib.hid (C0_12.out.next hb)
  have D1_13 := Lib.hid (D1_12.out.next hb)
  have Rg0_13 := Lib.hid (Rg0_12.out.bel hb)
  have Og0_13 := Lib.hid (Og0_12.out.bel hb)
  have Rg1_13 := Lib.hid (Rg1_12.out.bel hb)
  have Og1_13 := Lib.hid (Og1_12.out.bel hb)
  have Bg1_13 := Lib.hid (Bg1_12.out.below hb Bg1_12.out.lt)
  clear E_12 N1_12 Rs0_12 Rs1_12 Bs1_12 C0_12 D1_12 Rg0_12 Og0_12 Rg1_12 Og1_12 Bg1_12 hb
  go_wp2_with fail
  refine (toI_any q1 c1 xs1 _ _ _ N1_13.out hl1).mono ?_
  rintro e w15 ⟨by1, hmy, hny, rfl, hoy, hb⟩
  have E_14 := Lib.hid (E_13.out.next hb)
  have N1_14 := Lib.hid (N1_13.out.bel hb)
  have Rs0_14 := Lib.hid (Rs0_13.out.bel hb)
  have Rs1_14 := Lib.hid (Rs1_13.out.bel hb)
  have Bs1_14 := Lib.hid (Bs1_13.out.below hb Bs1_13.out.lt)
  have C0_14 := Lib.hid (C0_13.out.next hb)
  have D1_14 := Lib.hid (D1_13.out.next hb)
  have Rg0_14 := Lib.hid (Rg0_13.out.bel hb)
  have Og0_14 := Lib.hid (Og0_13.out.bel hb)
  have Rg1_14 := Lib.hid (Rg1_13.out.bel hb)
  have Og1_14 := Lib.hid (Og1_13.out.bel hb)
  have Bg1_14 := Lib.hid (Bg1_13.out.below hb Bg1_13.out.lt)
  clear E_13 N1_13 Rs0_13 Rs1_13 Bs1_13 C0_13 D1_13 Rg0_13 Og0_13 Rg1_13 Og1_13 Bg1_13 hb
  have Y1 := Lib.hid (Rd.of_own hoy hmy hny (Nat.le_refl _) xs1.length)
  rw [List.take_of_length_le (by rw [iv_length]; exact Nat.le_refl _)] at Y1
  clear hoy hmy hny
  go_wp2_with fail
  refine (eqI_same _ _ _ _ xs1 _ _ _ _ _ D1_14.out.ri Y1.out (by omega)).mono ?_
  rintro e w16 ⟨rfl, hb⟩
  clear Y1
  have E_15 := Lib.hid (E_14.out.next hb)
  have N1_15 := Lib.hid (N1_14.out.bel hb)
  have Rs0_15 := Lib.hid (Rs0_14.out.bel hb)
  have Rs1_15 := Lib.hid (Rs1_14.out.bel hb)
  have Bs1_15 := Lib.hid (Bs1_14.out.below hb Bs1_14.out.lt)
  have C0_15 := Lib.hid (C0_14.out.next hb)
  have D1_15 := Lib.hid (D1_14.out.next hb)
  have Rg0_15 := Lib.hid (Rg0_14.out.bel hb)
  have Og0_15 := Lib.hid (Og0_14.out.bel hb)
  have Rg1_15 := Lib.hid (Rg1_14.out.bel hb)
  have Og1_15 := Lib.hid (Og1_14.out.bel hb)
  have Bg1_15 := Lib.hid (Bg1_14.out.below hb Bg1_14.out.lt)
  clear E_14 N1_14 Rs0_14 Rs1_14 Bs1_14 C0_14 D1_14 Rg0_14 Og0_14 Rg1_14 Og1_14 Bg1_14 hb
  obtain ⟨x0', x1', x2', -⟩ := C0_15.out.box.three
  have MK := Lib.hid (markRow_any s0 r0 (some ⟨bx0, 0, none⟩) _ _ xs0.length xs0.length 1 w16 C0_15.out.own (by omega))
  obtain ⟨M0, hM0⟩ : ∃ K, 1 + xs0.length = K := ⟨_, rfl⟩
  rw [hM0] at MK
  have hK0 : ¬ (M0 : Int) < 0 := by omega
  go_wp2_with fail
  refine MK.out.mono ?_
  rintro e w17 ⟨rfl, -, -, hk⟩
  clear x0' x1' x2'
  have E_16 := Lib.hid (E_15.out.keep hk (by first | omega | (simp; done) | (simp; omega)))
  have N1_16 := Lib.hid (N1_15.out.keep hk (by first | (left; omega) | (right; omega) | (left; simp; done) | (right; simp; done) | (left; simp; omega) | (right; simp; omega)))
  have Rs0_16 := Lib.hid (Rs0_15.out.keep hk (by first | (left; omega) | (right; omega) | (left; simp; done) | (right; simp; done) | (left; simp; omega) | (right; simp; omega)))
  have Rs1_16 := Lib.hid (Rs1_15.out.keep hk (by first | (left; omega) | (right; omega) | (left; simp; done) | (right; simp; done) | (left; simp; omega) | (right; simp; omega)))
  have Bs1_16 := Lib.hid (stayL Bs1_15.out hk (by first | (left; omega) | (right; omega) | (left; simp; done) | (right; simp; done) | (left; simp; omega) | (right; simp; omega)))
  have D1_16 := Lib.hid (D1_15.out.keep hk (by first | omega | (simp; done) | (simp; omega)))
  have Rg0_16 := Lib.hid (Rg0_15.out.keep hk (by first | (left; omega) | (right; omega) | (left; simp; done) | (right; simp; done) | (left; simp; omega) | (right; simp; omega)))
  have Og0_16 := Lib.hid (Og0_15.out.keep hk (by first | (left; omega) | (right; omega) | (left; simp; done) | (right; simp; done) | (left; simp; omega) | (right; simp; omega)))
  have Rg1_16 := Lib.hid (Rg1_15.out.keep hk (by first | (left; omega) | (right; omega) | (left; simp; done) | (right; simp; done) | (left; simp; omega) | (right; simp; omega)))
  have Og1_16 := Lib.hid (Og1_15.out.keep hk (by first | (left; omega) | (right; omega) | (left; simp; done) | (right; simp; done) | (left; simp; omega) | (right; simp; omega)))
  have Bg1_16 := Lib.hid (stayL Bg1_15.out hk (by first | (left; omega) | (right; omega) | (left; simp; done) | (right; simp; done) | (left; simp; omega) | (right; simp; omega)))
  clear E_15 N1_15 Rs0_15 Rs1_15 Bs1_15 D1_15 Rg0_15 Og0_15 Rg1_15 Og1_15 Bg1_15 hk C0_15
  clear MK
  have MK := Lib.hid (markI_any (some ⟨bx1, 0, none⟩) _ _ xs1.length xs1.length M0 w17 D1_16.out.own (by omega))
  obtain ⟨M1, hM1⟩ : ∃ K, M0 + xs1.length = K := ⟨_, rfl⟩
  rw [hM1] at MK
  have hK1 : ¬ (M1 : Int) < 0 := by omega
  go_wp2_with fail
  refine MK.out.mono ?_
  rintro e w18 ⟨rfl, -, -, hk⟩
  have E_17 := Lib.hid (E_16.out.keep hk (by first | omega | (simp; done) | (simp; omega)))
  have N1_17 := Lib.hid (N1_16.out.keep hk (by first | (left; omega) | (right; omega) | (left; simp; done) | (right; simp; done) | (left; simp; omega) | (right; simp; omega)))
  have Rs0_17 := Lib.hid (Rs0_16.out.keep hk (by first | (left; omega) | (right; omega) | (left; simp; done) | (right; simp; done) | (left; simp; omega) | (right; simp; omega)))
  have Rs1_17 := Lib.hid (Rs1_16.out.keep hk (by first | (left; omega) | (right; omega) | (left; simp; done) | (right; simp; done) | (left; simp; omega) | (right; simp; omega)))
  have Bs1_17 := Lib.hid (stayL Bs1_16.out hk (by first | (left; omega) | (right; omega) | (left; simp; done) | (right; simp; done) | (left; simp; omega) | (right; simp; omega)))
  have Rg0_17 := Lib.hid (Rg0_16.out.keep hk (by first | (left; omega) | (right; omega) | (left; simp; done) | (right; simp; done) | (left; simp; omega) | (right; simp; omega)))
  have Og0_17 := Lib.hid (Og0_16.out.keep hk (by first | (left; omega) | (right; omega) | (left; simp; done) | (right; simp; done) | (left; simp; omega) | (right; simp; omega)))
  have Rg1_17 := Lib.hid (Rg1_16.out.keep hk (by first | (left; omega) | (right; omega) | (left; simp; done) | (right; simp; done) | (left; simp; omega) | (right; simp; omega)))
  have Og1_17 := Lib.hid (Og1_16.out.keep hk (by first | (left; omega) | (right; omega) | (left; simp; done) | (right; simp; done) | (left; simp; omega) | (right; simp; omega)))
  have Bg1_17 := Lib.hid (stayL Bg1_16.out hk (by first | (left; omega) | (right; omega) | (left; simp; done) | (right; simp; done) | (left; simp; omega) | (right; simp; omega)))
  clear E_16 N1_16 Rs0_16 Rs1_16 Bs1_16 Rg0_16 Og0_16 Rg1_16 Og1_16 Bg1_16 hk D1_16
  clear MK
  obtain ⟨fg10, fg11, fg12, -⟩ := Bg1_17.out.three
  obtain ⟨fs10, fs11, fs12, -⟩ := Bs1_17.out.three
  go_wp2_with fail
  refine (EQ0.out _ _ _ _ _ _ _ _ _ Rg0_17.out Rs0_17.out).mono ?_
  rintro e w19 ⟨rfl, hb⟩
  clear fg10 fg11 fg12
  clear fs10 fs11 fs12
  have E_18 := Lib.hid (E_17.out.next hb)
  have N1_18 := Lib.hid (N1_17.out.bel hb)
  have Rs0_18 := Lib.hid (Rs0_17.out.bel hb)
  have Rs1_18 := Lib.hid (Rs1_17.out.bel hb)
  have Bs1_18 := Lib.hid (Bs1_17.out.below hb Bs1_17.out.lt)
  have Rg0_18 := Lib.hid (Rg0_17.out.bel hb)
  have Og0_18 := Lib.hid (Og0_17.out.bel hb)
  have Rg1_18 := Lib.hid (Rg1_17.out.bel hb)
  have Og1_18 := Lib.hid (Og1_17.out.bel hb)
  have Bg1_18 := Lib.hid (Bg1_17.out.below hb Bg1_17.out.lt)
  clear E_17 N1_17 Rs0_17 Rs1_17 Bs1_17 Rg0_17 Og0_17 Rg1_17 Og1_17 Bg1_17 hb
  obtain ⟨fg10, fg11, fg12, -⟩ := Bg1_18.out.three
  obtain ⟨fs10, fs11, fs12, -⟩ := Bs1_18.out.three
  go_wp2_with fail
  refine (EQ1.out _ _ _ _ _ _ _ _ _ Rg1_18.out Rs1_18.out).mono ?_
  rintro e w20 ⟨rfl, hb⟩
  clear fg10 fg11 fg12
  clear fs10 fs11 fs12
  have E_19 := Lib.hid (E_18.out.next hb)
  have N1_19 := Lib.hid (N1_18.out.bel hb)
  have Rs0_19 := Lib.hid (Rs0_18.out.bel hb)
  have Rs1_19 := Lib.hid (Rs1_18.out.bel hb)
  have Bs1_19 := Lib.hid (Bs1_18.out.below hb Bs1_18.out.lt)
  have Rg0_19 := Lib.hid (Rg0_18.out.bel hb)
  have Og0_19 := Lib.hid (Og0_18.out.bel hb)
  have Rg1_19 := Lib.hid (Rg1_18.out.bel hb)
  have Og1_19 := Lib.hid (Og1_18.out.bel hb)
  have Bg1_19 := Lib.hid (Bg1_18.out.below hb Bg1_18.out.lt)
  clear E_18 N1_18 Rs0_18 Rs1_18 Bs1_18 Rg0_18 Og0_18 Rg1_18 Og1_18 Bg1_18 hb
  clear Rg0_19
  clear Rg1_19
  have MI := Lib.hid (markI_any pg0 _ _ n0 kg0 1 w20 Og0_19.out (by omega))
  obtain ⟨Q0, hQ0⟩ : ∃ M, 1 + n0 = M := ⟨_, rfl⟩
  rw [hQ0] at MI
  have hQ00 : ¬ (Q0 : Int) < 0 := by omega
  go_wp2_with fail
  refine MI.out.mono ?_
  rintro e w21 ⟨rfl, hq, -, hk⟩
  have E_20 := Lib.hid (E_19.out.keep hk (by first | omega | (simp; done) | (simp; omega)))
  have N1_20 := Lib.hid (N1_19.out.keep hk (by first | (left; omega) | (right; omega) | (left; simp; done) | (right; simp; done) | (left; simp; omega) | (right; simp; omega)))
  have Rs0_20 := Lib.hid (Rs0_19.out.keep hk (by first | (left; omega) | (right; omega) | (left; simp; done) | (right; simp; done) | (left; simp; omega) | (right; simp; omega)))
  have Rs1_20 := Lib.hid (Rs1_19.out.keep hk (by first | (left; omega) | (right; omega) | (left; simp; done) | (right; simp; done) | (left; simp; omega) | (right; simp; omega)))
  have Bs1_20 := Lib.hid (stayL Bs1_19.out hk (by first | (left; omega) | (right; omega) | (left; simp; done) | (right; simp; done) | (left; simp; omega) | (right; simp; omega)))
  have Og1_20 := Lib.hid (Og1_19.out.keep hk (by first | (left; omega) | (right; omega) | (left; simp; done) | (right; simp; done) | (left; simp; omega) | (right; simp; omega)))
  have Bg1_20 := Lib.hid (stayL Bg1_19.out hk (by first | (left; omega) | (right; omega) | (left; simp; done) | (right; simp; done) | (left; simp; omega) | (right; simp; omega)))
  clear E_19 N1_19 Rs0_19 Rs1_19 Bs1_19 Og1_19 Bg1_19 hk Og0_19
  have H0 := Lib.hid hq
  clear hq MI
  have HI0 := Lib.hid (fun w' (la ha : Nat) (h : Ri la ha w' pg0 (mk 1 (n0))) => heldI_any pg0 la ha n0 kg0 1 w' h (by omega))
  rw [hQ0] at HI0
  obtain ⟨fg10, fg11, fg12, -⟩ := Bg1_20.out.three
  have MI := Lib.hid (markRow_any x1 y1 pg1 _ _ n1 kg1 Q0 w21 Og1_20.out (by omega))
  obtain ⟨Q1, hQ1⟩ : ∃ M, Q0 + n1 = M := ⟨_, rfl⟩
  rw [hQ1] at MI
  have hQ01 : ¬ (Q1 : Int) < 0 := by omega
  go_wp2_with fail
  refine MI.out.mono ?_
  rintro e w22 ⟨rfl, hq, -, hk⟩
  clear fg10 fg11 fg12
  have E_21 := Lib.hid (E_20.out.keep hk (by first | omega | (simp; done) | (simp; omega)))
  have N1_21 := Lib.hid (N1_20.out.keep hk (by first | (left; omega) | (right; omega) | (left; simp; done) | (right; simp; done) | (left; simp; omega) | (right; simp; omega)))
  have Rs0_21 := Lib.hid (Rs0_20.out.keep hk (by first | (left; omega) | (right; omega) | (left; simp; done) | (right; simp; done) | (left; simp; omega) | (right; simp; omega)))
  have Rs1_21 := Lib.hid (Rs1_20.out.keep hk (by first | (left; omega) | (right; omega) | (left; simp; done) | (right; simp; done) | (left; simp; omega) | (right; simp; omega)))
  have Bs1_21 := Lib.hid (stayL Bs1_20.out hk (by first | (left; omega) | (right; omega) | (left; simp; done) | (right; simp; done) | (left; simp; omega) | (right; simp; omega)))
  have Bg1_21 := Lib.hid (stayL Bg1_20.out hk (by first | (left; omega) | (right; omega) | (left; simp; done) | (right; simp; done) | (left; simp; omega) | (right; simp; omega)))
  have H0_21 := Lib.hid (H0.out.keep hk (by first | (left; omega) | (right; omega) | (left; simp; done) | (right; simp; done) | (left; simp; omega) | (right; simp; omega)))
  clear E_20 N1_20 Rs0_20 Rs1_20 Bs1_20 Bg1_20 H0 hk Og1_20
  have H1 := Lib.hid hq
  clear hq MI
  have HI1 := Lib.hid (fun w' (la ha : Nat) (h : Ri la ha w' pg1 (mk Q0 n1)) => heldRow_any x1 y1 pg1 la ha n1 kg1 Q0 w' h (by omega))
  rw [hQ1] at HI1
  obtain ⟨fg10, fg11, fg12, -⟩ := Bg1_21.out.three
  go_wp2_with fail
  refine (HI0.out _ _ _ H0_21.out).mono ?_
  rintro e w23 ⟨rfl, hb⟩
  clear fg10 fg11 fg12
  have E_22 := Lib.hid (E_21.out.next hb)
  have N1_22 := Lib.hid (N1_21.out.bel hb)
  have Rs0_22 := Lib.hid (Rs0_21.out.bel hb)
  have Rs1_22 := Lib.hid (Rs1_21.out.bel hb)
  have Bs1_22 := Lib.hid (Bs1_21.out.below hb Bs1_21.out.lt)
  have Bg1_22 := Lib.hid (Bg1_21.out.below hb Bg1_21.out.lt)
  have H0_22 := Lib.hid (H0_21.out.bel hb)
  have H1_22 := Lib.hid (H1.out.bel hb)
  clear E_21 N1_21 Rs0_21 Rs1_21 Bs1_21 Bg1_21 H0_21 H1 hb
  obtain ⟨fg10, fg11, fg12, -⟩ := Bg1_22.out.three
  go_wp2_with fail
  refine (HI1.out _ _ _ H1_22.out).mono ?_
  rintro e w24 ⟨rfl, hb⟩
  clear fg10 fg11 fg12
  have E_23 := Lib.hid (E_22.out.next hb)
  have N1_23 := Lib.hid (N1_22.out.bel hb)
  have Rs0_23 := Lib.hid (Rs0_22.out.bel hb)
  have Rs1_23 := Lib.hid (Rs1_22.out.bel hb)
  have Bs1_23 := Lib.hid (Bs1_22.out.below hb Bs1_22.out.lt)
  have Bg1_23 := Lib.hid (Bg1_22.out.below hb Bg1_22.out.lt)
  have H0_23 := Lib.hid (H0_22.out.bel hb)
  have H1_23 := Lib.hid (H1_22.out.bel hb)
  clear E_22 N1_22 Rs0_22 Rs1_22 Bs1_22 Bg1_22 H0_22 H1_22 hb
  obtain ⟨a0', a1', a2', -⟩ := E_23.out.box.three
  go_wp2_with fail
  refine (toRow_any s0 r0 q0 c0 xs0 _ _ _ E_23.out.inn hl0).mono ?_
  rintro e w25 ⟨bh0, hmh0, hnh0', rfl, hoh0, hb⟩
  clear a0' a1' a2'
  have E_24 := Lib.hid (E_23.out.next hb)
  have N1_24 := Lib.hid (N1_23.out.bel hb)
  have Rs0_24 := Lib.hid (Rs0_23.out.bel hb)
  have Rs1_24 := Lib.hid (Rs1_23.out.bel hb)
  have Bs1_24 := Lib.hid (Bs1_23.out.below hb Bs1_23.out.lt)
  have Bg1_24 := Lib.hid (Bg1_23.out.below hb Bg1_23.out.lt)
  have H0_24 := Lib.hid (H0_23.out.bel hb)
  have H1_24 := Lib.hid (H1_23.out.bel hb)
  clear E_23 N1_23 Rs0_23 Rs1_23 Bs1_23 Bg1_23 H0_23 H1_23 hb
  have Kh0 := Lib.hid (Rd.of_own hoh0 hmh0 hnh0' (Nat.le_refl _) xs0.length)
  rw [List.take_of_length_le (by rw [iv_length]; exact Nat.le_refl _)] at Kh0
  clear hoh0 hmh0 hnh0'
  go_wp2_with fail
  refine (toI_any q1 c1 xs1 _ _ _ N1_24.out hl1).mono ?_
  rintro e w26 ⟨bh1, hmh1, hnh1', rfl, hoh1, hb⟩
  have E_25 := Lib.hid (E_24.out.next hb)
  have N1_25 := Lib.hid (N1_24.out.bel hb)
  have Rs0_25 := Lib.hid (Rs0_24.out.bel hb)
  have Rs1_25 := Lib.hid (Rs1_24.out.bel hb)
  have Bs1_25 := Lib.hid (Bs1_24.out.below hb Bs1_24.out.lt)
  have Bg1_25 := Lib.hid (Bg1_24.out.below hb Bg1_24.out.lt)
  have H0_25 := Lib.hid (H0_24.out.bel hb)
  have H1_25 := Lib.hid (H1_24.out.bel hb)
  have Kh0_25 := Lib.hid (Kh0.out.bel hb)
  clear E_24 N1_24 Rs0_24 Rs1_24 Bs1_24 Bg1_24 H0_24 H1_24 Kh0 hb
  have Kh1 := Lib.hid (Rd.of_own hoh1 hmh1 hnh1' (Nat.le_refl _) xs1.length)
  rw [List.take_of_length_le (by rw [iv_length]; exact Nat.le_refl _)] at Kh1
  clear hoh1 hmh1 hnh1'
  go_wp2_with fail
  refine (I.out _ _ _ _ _ _ _ _ _ Kh0_25.out hl0 (Nat.le_refl _) (by unfold maxLen; omega) Kh1.out hl1 (Nat.le_refl _) (by unfold maxLen; omega)).mono ?_
  rintro e w27 ⟨v0', v1', rfl, hO0, hO1, hSP, hb⟩
  obtain ⟨ph0, kh0, rfl, -, -, hR0, -⟩ := hO0.rd
  obtain ⟨ph1, kh1, rfl, -, -, hR1, -⟩ := hO1.rd
  obtain ⟨Mh', hM1h, hM2h, hW0, hW1⟩ := hSP
  replace hW0 := hW0 _ _ rfl
  replace hW1 := hW1 _ _ rfl
  have hbA1 := (Below.refl _ w27).alloc (Nat.le_refl _) (.cells #[.int .i64 x1, .bool y1, .slice ph1 L1.length kh1] 26)
  have hsqh := hb.size
  have E_26 := Lib.hid (E_25.out.next hb)
  have N1_26 := Lib.hid (N1_25.out.bel hb)
  have Rs0_26 := Lib.hid (Rs0_25.out.bel hb)
  have Rs1_26 := Lib.hid (Rs1_25.out.bel hb)
  have Bs1_26 := Lib.hid (Bs1_25.out.below hb Bs1_25.out.lt)
  have Bg1_26 := Lib.hid (Bg1_25.out.below hb Bg1_25.out.lt)
  have H0_26 := Lib.hid (H0_25.out.bel hb)
  have H1_26 := Lib.hid (H1_25.out.bel hb)
  have Kh0_26 := Lib.hid (Kh0_25.out.bel hb)
  have Kh1_26 := Lib.hid (Kh1.out.bel hb)
  clear E_25 N1_25 Rs0_25 Rs1_25 Bs1_25 Bg1_25 H0_25 H1_25 Kh0_25 Kh1 hb
  have Rh0 := Lib.hid hR0
  clear hO0 hR0 hW0
  have Rh1 := Lib.hid hR1
  clear hO1 hR1 hW1
  have hszh1 : w27.heap.size + 1 ≤ (w27.alloc (.cells #[.int .i64 x1, .bool y1, .slice ph1 L1.length kh1] 26)).heap.size := by simp
  have hsuh1 : (w27.alloc (.cells #[.int .i64 x1, .bool y1, .slice ph1 L1.length kh1] 26)).heap.size ≤ w27.heap.size + 1 := by simp
  have hX := OwnArr.made w27 26 [.int .i64 x1, .bool y1, .slice ph1 L1.length kh1]
  have E_27 := Lib.hid (E_26.out.next hbA1)
  have N1_27 := Lib.hid (N1_26.out.bel hbA1)
  have Rs0_27 := Lib.hid (Rs0_26.out.bel hbA1)
  have Rs1_27 := Lib.hid (Rs1_26.out.bel hbA1)
  have Bs1_27 := Lib.hid (Bs1_26.out.below hbA1 Bs1_26.out.lt)
  have Bg1_27 := Lib.hid (Bg1_26.out.below hbA1 Bg1_26.out.lt)
  have H0_27 := Lib.hid (H0_26.out.bel hbA1)
  have H1_27 := Lib.hid (H1_26.out.bel hbA1)
  have Kh0_27 := Lib.hid (Kh0_26.out.bel hbA1)
  have Kh1_27 := Lib.hid (Kh1_26.out.bel hbA1)
  have Rh0_27 := Lib.hid (Rh0.out.bel hbA1)
  have Rh1_27 := Lib.hid (Rh1.out.bel hbA1)
  clear E_26 N1_26 Rs0_26 Rs1_26 Bs1_26 Bg1_26 H0_26 H1_26 Kh0_26 Kh1_26 Rh0 Rh1 hbA1
  have Bh1 := Lib.hid hX
  clear hX
  simp only [hn0.out, hn1.out] at E_27 N1_27 Rs0_27 Rs1_27 Bs1_27 Bg1_27 H0_27 H1_27 Kh0_27 Kh1_27 Rh0_27 Rh1_27 Bh1 hszh1 hsuh1 ⊢
  clear Kh0_27
  clear Kh1_27
  obtain ⟨fh10, fh11, fh12, -⟩ := Bh1.out.three
  obtain ⟨fs10, fs11, fs12, -⟩ := Bs1_27.out.three
  go_wp2_with fail
  refine (EQ0.out _ _ _ _ _ _ _ _ _ Rh0_27.out Rs0_27.out).mono ?_
  rintro e w29 ⟨rfl, hb⟩
  clear fh10 fh11 fh12
  clear fs10 fs11 fs12
  have E_28 := Lib.hid (E_27.out.next hb)
  have N1_28 := Lib.hid (N1_27.out.bel hb)
  have Rs0_28 := Lib.hid (Rs0_27.out.bel hb)
  have Rs1_28 := Lib.hid (Rs1_27.out.bel hb)
  have Bs1_28 := Lib.hid (Bs1_27.out.below hb Bs1_27.out.lt)
  have Bg1_28 := Lib.hid (Bg1_27.out.below hb Bg1_27.out.lt)
  have H0_28 := Lib.hid (H0_27.out.bel hb)
  have H1_28 := Lib.hid (H1_27.out.bel hb)
  have Rh0_28 := Lib.hid (Rh0_27.out.bel hb)
  have Rh1_28 := Lib.hid (Rh1_27.out.bel hb)
  have Bh1_28 := Lib.hid (Bh1.out.below hb Bh1.out.lt)
  clear E_27 N1_27 Rs0_27 Rs1_27 Bs1_27 Bg1_27 H0_27 H1_27 Rh0_27 Rh1_27 Bh1 hb
  obtain ⟨fh10, fh11, fh12, -⟩ := Bh1_28.out.three
  obtain ⟨fs10, fs11, fs12, -⟩ := Bs1_28.out.three
  go_wp2_with fail
  refine (EQ1.out _ _ _ _ _ _ _ _ _ Rh1_28.out Rs1_28.out).mono ?_
  rintro e w30 ⟨rfl, hb⟩
  clear fh10 fh11 fh12
  clear fs10 fs11 fs12
  have E_29 := Lib.hid (E_28.out.next hb)
  have N1_29 := Lib.hid (N1_28.out.bel hb)
  have Rs0_29 := Lib.hid (Rs0_28.out.bel hb)
  have Rs1_29 := Lib.hid (Rs1_28.out.bel hb)
  have Bs1_29 := Lib.hid (Bs1_28.out.below hb Bs1_28.out.lt)
  have Bg1_29 := Lib.hid (Bg1_28.out.below hb Bg1_28.out.lt)
  have H0_29 := Lib.hid (H0_28.out.bel hb)
  have H1_29 := Lib.hid (H1_28.out.bel hb)
  have Rh0_29 := Lib.hid (Rh0_28.out.bel hb)
  have Rh1_29 := Lib.hid (Rh1_28.out.bel hb)
  have Bh1_29 := Lib.hid (Bh1_28.out.below hb Bh1_28.out.lt)
  clear E_28 N1_28 Rs0_28 Rs1_28 Bs1_28 Bg1_28 H0_28 H1_28 Rh0_28 Rh1_28 Bh1_28 hb
  clear Rh0_29 Rs0_29
  clear Rh1_29 Rs1_29
  obtain ⟨fg10, fg11, fg12, -⟩ := Bg1_29.out.three
  go_wp2_with fail
  refine (HI0.out _ _ _ H0_29.out).mono ?_
  rintro e w31 ⟨rfl, hb⟩
  clear fg10 fg11 fg12
  have E_30 := Lib.hid (E_29.out.next hb)
  have N1_30 := Lib.hid (N1_29.out.bel hb)
  have Bs1_30 := Lib.hid (Bs1_29.out.below hb Bs1_29.out.lt)
  have Bg1_30 := Lib.hid (Bg1_29.out.below hb Bg1_29.out.lt)
  have H0_30 := Lib.hid (H0_29.out.bel hb)
  have H1_30 := Lib.hid (H1_29.out.bel hb)
  have Bh1_30 := Lib.hid (Bh1_29.out.below hb Bh1_29.out.lt)
  clear E_29 N1_29 Bs1_29 Bg1_29 H0_29 H1_29 Bh1_29 hb
  obtain ⟨fg10, fg11, fg12, -⟩ := Bg1_30.out.three
  go_wp2_with fail
  refine (HI1.out _ _ _ H1_30.out).mono ?_
  rintro e w32 ⟨rfl, hb⟩
  clear fg10 fg11 fg12
  have E_31 := Lib.hid (E_30.out.next hb)
  have N1_31 := Lib.hid (N1_30.out.bel hb)
  have Bs1_31 := Lib.hid (Bs1_30.out.below hb Bs1_30.out.lt)
  have Bg1_31 := Lib.hid (Bg1_30.out.below hb Bg1_30.out.lt)
  have H0_31 := Lib.hid (H0_30.out.bel hb)
  have H1_31 := Lib.hid (H1_30.out.bel hb)
  have Bh1_31 := Lib.hid (Bh1_30.out.below hb Bh1_30.out.lt)
  clear E_30 N1_30 Bs1_30 Bg1_30 H0_30 H1_30 Bh1_30 hb
  go_wp2_with fail
  go_ret
  exact ⟨rfl, E_31.out.bel⟩
end Go.Proofs.Ytgalopbpbhlcdaa.parkBack
