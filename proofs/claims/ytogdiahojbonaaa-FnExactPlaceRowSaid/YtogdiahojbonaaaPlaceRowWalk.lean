/- FnExactPlaceRow's walk: for all arguments both functions give the same, in memory of the call's own. -/
import Derived.Test.YtogdiahojbonaaaPlrI9
import Derived.Test.YtogdiahojbonaaaLst
import Derived.Test.YtogdiahojbonaaaRowLaw
import Derived.Test.YtogdiahojbonaaaHeldRow
import Derived.Deep.DeepCutAuto
import Derived.Deep.RegionWith
namespace Go.Proofs.Ytogdiahojbonaaa.placeRow
open Go.RowKit

set_option maxRecDepth 4000 in
set_option maxHeartbeats 8000000 in
theorem walk (s0 : Int) (r0 : Bool) (q0 : Option Addr) (c0 : Nat) (xs0 : List Int) (q1 : Option Addr) (c1 : Nat) (xs1 : List Int) (a2 : Int) (q3 : Option Addr) (c3 : Nat) (xs3 : List Int) (w : World) (hin0 : Ri 0 w.heap.size w q0 xs0) (hlen0 : xs0.length ≤ 9223372036854775807) (_ : -9223372036854775808 ≤ s0 ∧ s0 ≤ 9223372036854775807) (_ : ∀ x ∈ xs0, -9223372036854775808 ≤ x ∧ x ≤ 9223372036854775807) (hin1 : Ri 0 w.heap.size w q1 xs1) (hlen1 : xs1.length ≤ 9223372036854775807) (_ : -9223372036854775808 ≤ a2 ∧ a2 ≤ 9223372036854775807) (hin3 : Ri 0 w.heap.size w q3 xs3) (hlen3 : xs3.length ≤ 9223372036854775807) (hv3 : ∀ x ∈ xs3, -9223372036854775808 ≤ x ∧ x ≤ 9223372036854775807) :
    Calls Try.prog 8 #[rowV s0 r0 q0 xs0.length c0, .slice q1 xs1.length c1, .int .i64 a2, .slice q3 xs3.length c3] w fun e w' => e = .returned (.bool true) ∧ Below w.heap.size w w' := by
  have E_0 := Lib.hid (Env.start (s := s0) (ring := r0) (cap := c0) hin0)
  have SZ := fun w' => szRow_any s0 r0 q0 xs0.length c0 w' hlen0
  have N1_0 := Lib.hid (hin1.bel ((Below.refl w.heap.size w).alloc (Nat.le_refl _) (.cells #[.int .i64 s0, .bool r0, .slice q0 xs0.length c0] 24)))
  have N3_0 := Lib.hid (hin3.bel ((Below.refl w.heap.size w).alloc (Nat.le_refl _) (.cells #[.int .i64 s0, .bool r0, .slice q0 xs0.length c0] 24)))
  clear hin0 hin1 hin3
  by_cases hl1 : xs1.length ≤ 1048576
  case neg =>
    have hg1 : (1048576 : Int) < (xs1.length : Int) := by omega
    go_enter Try.func8, Try.ntmps8
    go_wp2_with fail
    go_ret
    exact ⟨rfl, E_0.out.bel⟩
  have hg1 : ¬ (1048576 : Int) < (xs1.length : Int) := by omega
  by_cases hl3 : xs3.length ≤ 1048576
  case neg =>
    have hg3 : (1048576 : Int) < (xs3.length : Int) := by omega
    go_enter Try.func8, Try.ntmps8
    go_wp2_with fail
    go_ret
    exact ⟨rfl, E_0.out.bel⟩
  have hg3 : ¬ (1048576 : Int) < (xs3.length : Int) := by omega
  by_cases hl0 : xs0.length ≤ 1048576
  case neg =>
    rw [if_neg hl0] at SZ
    replace SZ := Lib.hid SZ
    go_enter Try.func8, Try.ntmps8
    go_wp2_with fail
    refine (SZ.out _).mono ?_
    rintro e w1 ⟨rfl, hb1⟩
    have E1 := Lib.hid (E_0.out.next hb1)
    go_wp2_with fail
    go_ret
    exact ⟨rfl, E1.out.bel⟩
  rw [if_pos hl0] at SZ
  replace SZ := Lib.hid SZ
  have h0 : ¬ (1048576 - (xs0.length : Int) < 0) := by omega
  obtain ⟨x0, y0, L0, y1, hL0, S, I0⟩ := placeRow_both s0 r0 xs0 xs1 a2 xs3
  have I := I0 hv3
  clear I0 hv3
  replace S := Lib.hid S
  replace I := Lib.hid I
  obtain ⟨n0, hn0⟩ : ∃ n, L0.length = n := ⟨_, rfl⟩
  rw [hn0] at hL0
  replace hn0 := Lib.hid hn0
  go_enter Try.func8, Try.ntmps8
  go_wp2_with fail
  refine (SZ.out _).mono ?_
  rintro e w1 ⟨rfl, hb⟩
  have E_1 := Lib.hid (E_0.out.next hb)
  have N1_1 := Lib.hid (N1_0.out.bel hb)
  have N3_1 := Lib.hid (N3_0.out.bel hb)
  clear E_0 N1_0 N3_0 hb SZ
  obtain ⟨a0', a1', a2', -⟩ := E_1.out.box.three
  go_wp2_with fail
  refine (toRow_any s0 r0 q0 c0 xs0 _ _ _ E_1.out.inn hl0).mono ?_
  rintro e w2 ⟨bs0, hms0, hns0', rfl, hos0, hb⟩
  clear a0' a1' a2'
  have E_2 := Lib.hid (E_1.out.next hb)
  have N1_2 := Lib.hid (N1_1.out.bel hb)
  have N3_2 := Lib.hid (N3_1.out.bel hb)
  clear E_1 N1_1 N3_1 hb
  have Ks0 := Lib.hid (Rd.of_own hos0 hms0 hns0' (Nat.le_refl _) xs0.length)
  rw [List.take_of_length_le (by rw [iv_length]; exact Nat.le_refl _)] at Ks0
  clear hos0 hms0 hns0'
  go_wp2_with fail
  refine (toI_any q1 c1 xs1 _ _ _ N1_2.out hl1).mono ?_
  rintro e w3 ⟨bs1, hms1, hns1', rfl, hos1, hb⟩
  have E_3 := Lib.hid (E_2.out.next hb)
  have N1_3 := Lib.hid (N1_2.out.bel hb)
  have N3_3 := Lib.hid (N3_2.out.bel hb)
  have Ks0_3 := Lib.hid (Ks0.out.bel hb)
  clear E_2 N1_2 N3_2 Ks0 hb
  have Ks1 := Lib.hid (Rd.of_own hos1 hms1 hns1' (Nat.le_refl _) xs1.length)
  rw [List.take_of_length_le (by rw [iv_length]; exact Nat.le_refl _)] at Ks1
  clear hos1 hms1 hns1'
  go_wp2_with fail
  refine (toI_any q3 c3 xs3 _ _ _ N3_3.out hl3).mono ?_
  rintro e w4 ⟨bs3, hms3, hns3', rfl, hos3, hb⟩
  have E_4 := Lib.hid (E_3.out.next hb)
  have N1_4 := Lib.hid (N1_3.out.bel hb)
  have N3_4 := Lib.hid (N3_3.out.bel hb)
  have Ks0_4 := Lib.hid (Ks0_3.out.bel hb)
  have Ks1_4 := Lib.hid (Ks1.out.bel hb)
  clear E_3 N1_3 N3_3 Ks0_3 Ks1 hb
  have Ks3 := Lib.hid (Rd.of_own hos3 hms3 hns3' (Nat.le_refl _) xs3.length)
  rw [List.take_of_length_le (by rw [iv_length]; exact Nat.le_refl _)] at Ks3
  clear hos3 hms3 hns3'
  go_wp2_with fail
  refine (S.out _ _ _ _ _ _ _ _ _ _ _ _ _ Ks0_4.out hl0 (Nat.le_refl _) (by unfold maxLen; omega) Ks1_4.out hl1 (Nat.le_refl _) (by unfold maxLen; omega) Ks3.out hl3 (Nat.le_refl _) (by unfold maxLen; omega)).mono ?_
  rintro e w5 ⟨v0', rfl, hO0, hb⟩
  obtain ⟨ps0, ks0, rfl, -, -, hR0, hW0⟩ := hO0.rd
  have hbA0 := (Below.refl _ w5).alloc (Nat.le_refl _) (.cells #[.int .i64 x0, .bool y0, .slice ps0 L0.length ks0] 28)
  have hsqs := hb.size
  have E_5 := Lib.hid (E_4.out.next hb)
  have N1_5 := Lib.hid (N1_4.out.bel hb)
  have N3_5 := Lib.hid (N3_4.out.bel hb)
  have Ks0_5 := Lib.hid (Ks0_4.out.bel hb)
  have Ks1_5 := Lib.hid (Ks1_4.out.bel hb)
  have Ks3_5 := Lib.hid (Ks3.out.bel hb)
  clear E_4 N1_4 N3_4 Ks0_4 Ks1_4 Ks3 hb
  have Rs0 := Lib.hid hR0
  clear hO0 hR0 hW0
  have hszs0 : w5.heap.size + 1 ≤ (w5.alloc (.cells #[.int .i64 x0, .bool y0, .slice ps0 L0.length ks0] 28)).heap.size := by simp
  have hsus0 : (w5.alloc (.cells #[.int .i64 x0, .bool y0, .slice ps0 L0.length ks0] 28)).heap.size ≤ w5.heap.size + 1 := by simp
  have hX := OwnArr.made w5 28 [.int .i64 x0, .bool y0, .slice ps0 L0.length ks0]
  have E_6 := Lib.hid (E_5.out.next hbA0)
  have N1_6 := Lib.hid (N1_5.out.bel hbA0)
  have N3_6 := Lib.hid (N3_5.out.bel hbA0)
  have Ks0_6 := Lib.hid (Ks0_5.out.bel hbA0)
  have Ks1_6 := Lib.hid (Ks1_5.out.bel hbA0)
  have Ks3_6 := Lib.hid (Ks3_5.out.bel hbA0)
  have Rs0_6 := Lib.hid (Rs0.out.bel hbA0)
  clear E_5 N1_5 N3_5 Ks0_5 Ks1_5 Ks3_5 Rs0 hbA0
  have Bs0 := Lib.hid hX
  clear hX
  rw [hn0.out] at E_6 N1_6 N3_6 Ks0_6 Ks1_6 Ks3_6 Rs0_6 Bs0 hszs0 hsus0 ⊢
  clear Ks0_6
  clear Ks1_6
  clear Ks3_6
  have hz0 := E_6.out.bel.size
  have hz1 := E_6.out.box.lt
  have hz2_0 := Bs0.out.lt
  obtain ⟨a0', a1', a2', -⟩ := E_6.out.box.three
  go_wp2_with fail
  refine (toRow_any s0 r0 q0 c0 xs0 _ _ _ E_6.out.inn hl0).mono ?_
  rintro e w7 ⟨bx0, hmx, hnx, rfl, hox, hb⟩
  clear a0' a1' a2'
  have hbx := (Below.refl _ w7).alloc (Nat.le_refl _) (.cells #[.int .i64 s0, .bool r0, .slice (some ⟨bx0, 0, none⟩) xs0.length xs0.length] 28)
  have C0 := Lib.hid (Cpy.made (s := s0) (ring := r0) hox hmx)
  have hszx : w7.heap.size + 1 ≤ (w7.alloc (.cells #[.int .i64 s0, .bool r0, .slice (some ⟨bx0, 0, none⟩) xs0.length xs0.length] 28)).heap.size := by simp
  have hsux : (w7.alloc (.cells #[.int .i64 s0, .bool r0, .slice (some ⟨bx0, 0, none⟩) xs0.length xs0.length] 28)).heap.size ≤ w7.heap.size + 1 := by simp
  have hsx0 := hb.size
  clear hox hmx hnx
  have E_7 := Lib.hid (E_6.out.next hb)
  have N1_7 := Lib.hid (N1_6.out.bel hb)
  have N3_7 := Lib.hid (N3_6.out.bel hb)
  have Rs0_7 := Lib.hid (Rs0_6.out.bel hb)
  have Bs0_7 := Lib.hid (Bs0.out.below hb Bs0.out.lt)
  clear E_6 N1_6 N3_6 Rs0_6 Bs0 hb
  have E_8 := Lib.hid (E_7.out.next hbx)
  have N1_8 := Lib.hid (N1_7.out.bel hbx)
  have N3_8 := Lib.hid (N3_7.out.bel hbx)
  have Rs0_8 := Lib.hid (Rs0_7.out.bel hbx)
  have Bs0_8 := Lib.hid (Bs0_7.out.below hbx Bs0_7.out.lt)
  clear E_7 N1_7 N3_7 Rs0_7 Bs0_7 hbx
  go_wp2_with fail
  refine (toI_any q1 c1 xs1 _ _ _ N1_8.out hl1).mono ?_
  rintro e w8 ⟨bx1, hmx, hnx, rfl, hox, hb⟩
  have D1 : Hid (Lcp _ w8.heap.size bx1 xs1 w8) := ⟨hox, hmx, hnx, Nat.le_refl _⟩
  have hsx1 := hb.size
  clear hox hmx hnx
  have E_9 := Lib.hid (E_8.out.next hb)
  have N1_9 := Lib.hid (N1_8.out.bel hb)
  have N3_9 := Lib.hid (N3_8.out.bel hb)
  have Rs0_9 := Lib.hid (Rs0_8.out.bel hb)
  have Bs0_9 := Lib.hid (Bs0_8.out.below hb Bs0_8.out.lt)
  have C0_9 := Lib.hid (C0.out.next hb)
  clear E_8 N1_8 N3_8 Rs0_8 Bs0_8 C0 hb
  go_wp2_with fail
  refine (toI_any q3 c3 xs3 _ _ _ N3_9.out hl3).mono ?_
  rintro e w9 ⟨bx3, hmx, hnx, rfl, hox, hb⟩
  have D3 : Hid (Lcp _ w9.heap.size bx3 xs3 w9) := ⟨hox, hmx, hnx, Nat.le_refl _⟩
  have hsx3 := hb.size
  clear hox hmx hnx
  have E_10 := Lib.hid (E_9.out.next hb)
  have N1_10 := Lib.hid (N1_9.out.bel hb)
  have N3_10 := Lib.hid (N3_9.out.bel hb)
  have Rs0_10 := Lib.hid (Rs0_9.out.bel hb)
  have Bs0_10 := Lib.hid (Bs0_9.out.below hb Bs0_9.out.lt)
  have C0_10 := Lib.hid (C0_9.out.next hb)
  have D1_10 := Lib.hid (D1.out.next hb)
  clear E_9 N1_9 N3_9 Rs0_9 Bs0_9 C0_9 D1 hb
  obtain ⟨x0', x1', x2', -⟩ := C0_10.out.box.three
  go_wp2_with fail
  refine (I.out _ _ _ _ _ _ _ _ _ _ _ _ _ C0_10.out.ri hl0 (Nat.le_refl _) (by unfold maxLen; omega) D1_10.out.ri hl1 (Nat.le_refl _) (by unfold maxLen; omega) D3.out.ri hl3 (Nat.le_refl _) (by unfold maxLen; omega)).mono ?_
  rintro e w10 ⟨v0', rfl, hO0, hb⟩
  obtain ⟨pg0, kg0, rfl, -, -, hR0, hW0⟩ := hO0.rd
  have hbA0 := (Below.refl _ w10).alloc (Nat.le_refl _) (.cells #[.int .i64 x0, .bool y0, .slice pg0 L0.length kg0] 28)
  have hsqg := hb.size
  have E_11 := Lib.hid (E_10.out.next hb)
  have N1_11 := Lib.hid (N1_10.out.bel hb)
  have N3_11 := Lib.hid (N3_10.out.bel hb)
  have Rs0_11 := Lib.hid (Rs0_10.out.bel hb)
  have Bs0_11 := Lib.hid (Bs0_10.out.below hb Bs0_10.out.lt)
  have C0_11 := Lib.hid (C0_10.out.next hb)
  have D1_11 := Lib.hid (D1_10.out.next hb)
  have D3_11 := Lib.hid (D3.out.next hb)
  clear E_10 N1_10 N3_10 Rs0_10 Bs0_10 C0_10 D1_10 D3 hb
  have Rg0 := Lib.hid hR0
  have Og0 := Lib.hid hW0
  clear hO0 hR0 hW0
  have hszg0 : w10.heap.size + 1 ≤ (w10.alloc (.cells #[.int .i64 x0, .bool y0, .slice pg0 L0.length kg0] 28)).heap.size := by simp
  have hsug0 : (w10.alloc (.cells #[.int .i64 x0, .bool y0, .slice pg0 L0.length kg0] 28)).heap.size ≤ w10.heap.size + 1 := by simp
  have hX := OwnArr.made w10 28 [.int .i64 x0, .bool y0, .slice pg0 L0.length kg0]
  have E_12 := Lib.hid (E_11.out.next hbA0)
  have N1_12 := Lib.hid (N1_11.out.bel hbA0)
  have N3_12 := Lib.hid (N3_11.out.bel hbA0)
  have Rs0_12 := Lib.hid (Rs0_11.out.bel hbA0)
  have Bs0_12 := Lib.hid (Bs0_11.out.below hbA0 Bs0_11.out.lt)
  have C0_12 := Lib.hid (C0_11.out.next hbA0)
  have D1_12 := Lib.hid (D1_11.out.next hbA0)
  have D3_12 := Lib.hid (D3_11.out.next hbA0)
  have Rg0_12 := Lib.hid (Rg0.out.bel hbA0)
  have Og0_12 := Lib.hid (Og0.out.bel hbA0)
  clear E_11 N1_11 N3_11 Rs0_11 Bs0_11 C0_11 D1_11 D3_11 Rg0 Og0 hbA0
  have Bg0 := Lib.hid hX
  clear hX
  rw [hn0.out] at E_12 N1_12 N3_12 Rs0_12 Bs0_12 C0_12 D1_12 D3_12 Rg0_12 Og0_12 Bg0 hszg0 hsug0 ⊢
  clear x0' x1' x2'
  have hzg := E_12.out.bel.size
  have EQ0 := Lib.hid (fun (qa qb : Option Addr) (ca cb : Nat) (w' : World) (l1 h1 l2 h2 : Nat) (x : Ri l1 h1 w' qa L0) (y : Ri l2 h2 w' qb L0) => eqRow_same x0 y0 qa qb ca cb L0 w' l1 h1 l2 h2 x y (by rw [hn0.out]; omega))
  rw [hn0.out] at EQ0
  obtain ⟨fg00, fg01, fg02, -⟩ := Bg0.out.three
  obtain ⟨fs00, fs01, fs02, -⟩ := Bs0_12.out.three
  go_wp2_with fail
  refine (EQ0.out _ _ _ _ _ _ _ _ _ Rg0_12.out Rs0_12.out).mono ?_
  rintro e w12 ⟨rfl, hb⟩
  clear fg00 fg01 fg02
  clear fs00 fs01 fs02
  have E_13 := Lib.hid (E_12.out.next hb)
  have N1_13 := Lib.hid (N1_12.out.bel hb)
  have N3_13 := Lib.hid (N3_12.out.bel hb)
  have Rs0_13 := Lib.hid (Rs0_12.out.bel hb)
  have Bs0_13 := Lib.hid (Bs0_12.out.below hb Bs0_12.out.lt)
  have C0_13 := Lib.hid (C0_12.out.next hb)
  have D1_13 := Lib.hid (D1_12.out.next hb)
  have D3_13 := Lib.hid (D3_12.out.next hb)
  have Rg0_13 := Lib.hid (Rg0_12.out.bel hb)
  have Og0_13 := Lib.hid (Og0_12.out.bel hb)
  have Bg0_13 := Lib.hid (Bg0.out.below hb Bg0.out.lt)
  clear E_12 N1_12 N3_12 Rs0_12 Bs0_12 C0_12 D1_12 D3_12 Rg0_12 Og0_12 Bg0 hb
  obtain ⟨a0', a1', a2', -⟩ := E_13.out.box.three
  obtain ⟨x0', x1', x2', -⟩ := C0_13.out.box.three
  go_upto_region 16 with fail
  go_cut [71] (fun v wx => v = .bool false ∧ Hid (Below w12.heap.size w12 wx))
  case first =>
    have hE := E_13.out.next ((Below.refl _ w12).drew)
    have hC := C0_13.out.next ((Below.refl _ w12).drew)
    have T6 := Lib.hid (toRow_any s0 r0 q0 c0 xs0 w12.drew _ _ hE.inn hl0)
    have HC := Lib.hid hC
    have HW := Lib.hid ((Below.refl w12.heap.size w12).drew)
    clear hE hC
    go_region_with (first
      | (go_at_call 11; refine T6.out.mono ?_; rintro e wx ⟨bz, hmz, hnz, rfl, hoz, hbz⟩; have HW8 := Lib.hid (HW.out.trans hbz); have CX := Lib.hid (HC.out.next hbz); have PX := Lib.hid (Rd.of_own hoz hmz hnz (Nat.le_refl _) xs0.length); rw [List.take_of_length_le (by rw [iv_length]; exact Nat.le_refl _)] at PX; obtain ⟨d0, d1, d2, -⟩ := CX.out.box.three; clear hoz hbz)
      | (go_at_call 14; refine (eqRow_same s0 r0 _ _ _ _ xs0 _ _ _ _ _ CX.out.ri PX.out (by omega)).mono ?_; rintro e wy ⟨rfl, hby⟩; have HW9 := Lib.hid (HW8.out.trans (hby.mono HW8.out.size))))
    all_goals
      go_wp2_with fail
      go_meet
      exact ⟨rfl, HW9⟩
  case rest =>
  obtain ⟨rfl, HW⟩ := hcut
  obtain ⟨w15, rfl⟩ : ∃ w15 : World, w15 = wc := ⟨_, rfl⟩
  have hb := HW.out
  clear a0' a1' a2' x0' x1' x2' HW
  have E_14 := Lib.hid (E_13.out.next hb)
  have N1_14 := Lib.hid (N1_13.out.bel hb)
  have N3_14 := Lib.hid (N3_13.out.bel hb)
  have Rs0_14 := Lib.hid (Rs0_13.out.bel hb)
  have Bs0_14 := Lib.hid (Bs0_13.out.below hb Bs0_13.out.lt)
  have C0_14 := Lib.hid (C0_13.out.next hb)
  have D1_14 := Lib.hid (D1_13.out.next hb)
  have D3_14 := Lib.hid (D3_13.out.next hb)
  have Rg0_14 := Lib.hid (Rg0_13.out.bel hb)
  have Og0_14 := Lib.hid (Og0_13.out.bel hb)
  have Bg0_14 := Lib.hid (Bg0_13.out.below hb Bg0_13.out.lt)
  clear E_13 N1_13 N3_13 Rs0_13 Bs0_13 C0_13 D1_13 D3_13 Rg0_13 Og0_13 Bg0_13 hb
  go_wp2_with fail
  refine (toI_any q1 c1 xs1 _ _ _ N1_14.out hl1).mono ?_
  rintro e w16 ⟨by1, hmy, hny, rfl, hoy, hb⟩
  have E_15 := Lib.hid (E_14.out.next hb)
  have N1_15 := Lib.hid (N1_14.out.bel hb)
  have N3_15 := Lib.hid (N3_14.out.bel hb)
  have Rs0_15 := Lib.hid (Rs0_14.out.bel hb)
  have Bs0_15 := Lib.hid (Bs0_14.out.below hb Bs0_14.out.lt)
  have C0_15 := Lib.hid (C0_14.out.next hb)
  have D1_15 := Lib.hid (D1_14.out.next hb)
  have D3_15 := Lib.hid (D3_14.out.next hb)
  have Rg0_15 := Lib.hid (Rg0_14.out.bel hb)
  have Og0_15 := Lib.hid (Og0_14.out.bel hb)
  have Bg0_15 := Lib.hid (Bg0_14.out.below hb Bg0_14.out.lt)
  clear E_14 N1_14 N3_14 Rs0_14 Bs0_14 C0_14 D1_14 D3_14 Rg0_14 Og0_14 Bg0_14 hb
  have Y1 := Lib.hid (Rd.of_own hoy hmy hny (Nat.le_refl _) xs1.length)
  rw [List.take_of_length_le (by rw [iv_length]; exact Nat.le_refl _)] at Y1
  clear hoy hmy hny
  go_wp2_with fail
  refine (eqI_same _ _ _ _ xs1 _ _ _ _ _ D1_15.out.ri Y1.out (by omega)).mono ?_
  rintro e w17 ⟨rfl, hb⟩
  clear Y1
  have E_16 := Lib.hid (E_15.out.next hb)
  have N1_16 := Lib.hid (N1_15.out.bel hb)
  have N3_16 := Lib.hid (N3_15.out.bel hb)
  have Rs0_16 := Lib.hid (Rs0_15.out.bel hb)
  have Bs0_16 := Lib.hid (Bs0_15.out.below hb Bs0_15.out.lt)
  have C0_16 := Lib.hid (C0_15.out.next hb)
  have D1_16 := Lib.hid (D1_15.out.next hb)
  have D3_16 := Lib.hid (D3_15.out.next hb)
  have Rg0_16 := Lib.hid (Rg0_15.out.bel hb)
  have Og0_16 := Lib.hid (Og0_15.out.bel hb)
  have Bg0_16 := Lib.hid (Bg0_15.out.below hb Bg0_15.out.lt)
  clear E_15 N1_15 N3_15 Rs0_15 Bs0_15 C0_15 D1_15 D3_15 Rg0_15 Og0_15 Bg0_15 hb
  go_wp2_with fail
  refine (toI_any q3 c3 xs3 _ _ _ N3_16.out hl3).mono ?_
  rintro e w18 ⟨by3, hmy, hny, rfl, hoy, hb⟩
  have E_17 := Lib.hid (E_16.out.next hb)
  have N1_17 := Lib.hid (N1_16.out.bel hb)
  have N3_17 := Lib.hid (N3_16.out.bel hb)
  have Rs0_17 := Lib.hid (Rs0_16.out.bel hb)
  have Bs0_17 := Lib.hid (Bs0_16.out.below hb Bs0_16.out.lt)
  have C0_17 := Lib.hid (C0_16.out.next hb)
  have D1_17 := Lib.hid (D1_16.out.next hb)
  have D3_17 := Lib.hid (D3_16.out.next hb)
  have Rg0_17 := Lib.hid (Rg0_16.out.bel hb)
  have Og0_17 := Lib.hid (Og0_16.out.bel hb)
  have Bg0_17 := Lib.hid (Bg0_16.out.below hb Bg0_16.out.lt)
  clear E_16 N1_16 N3_16 Rs0_16 Bs0_16 C0_16 D1_16 D3_16 Rg0_16 Og0_16 Bg0_16 hb
  have Y3 := Lib.hid (Rd.of_own hoy hmy hny (Nat.le_refl _) xs3.length)
  rw [List.take_of_length_le (by rw [iv_length]; exact Nat.le_refl _)] at Y3
  clear hoy hmy hny
  go_wp2_with fail
  refine (eqI_same _ _ _ _ xs3 _ _ _ _ _ D3_17.out.ri Y3.out (by omega)).mono ?_
  rintro e w19 ⟨rfl, hb⟩
  clear Y3
  have E_18 := Lib.hid (E_17.out.next hb)
  have N1_18 := Lib.hid (N1_17.out.bel hb)
  have N3_18 := Lib.hid (N3_17.out.bel hb)
  have Rs0_18 := Lib.hid (Rs0_17.out.bel hb)
  have Bs0_18 := Lib.hid (Bs0_17.out.below hb Bs0_17.out.lt)
  have C0_18 := Lib.hid (C0_17.out.next hb)
  have D1_18 := Lib.hid (D1_17.out.next hb)
  have D3_18 := Lib.hid (D3_17.out.next hb)
  have Rg0_18 := Lib.hid (Rg0_17.out.bel hb)
  have Og0_18 := Lib.hid (Og0_17.out.bel hb)
  have Bg0_18 := Lib.hid (Bg0_17.out.below hb Bg0_17.out.lt)
  clear E_17 N1_17 N3_17 Rs0_17 Bs0_17 C0_17 D1_17 D3_17 Rg0_17 Og0_17 Bg0_17 hb
  obtain ⟨x0', x1', x2', -⟩ := C0_18.out.box.three
  have MK := Lib.hid (markRow_any s0 r0 (some ⟨bx0, 0, none⟩) _ _ xs0.length xs0.length 1 w19 C0_18.out.own (by omega))
  obtain ⟨M0, hM0⟩ : ∃ K, 1 + xs0.length = K := ⟨_, rfl⟩
  rw [hM0] at MK
  have hK0 : ¬ (M0 : Int) < 0 := by omega
  go_wp2_with fail
  refine MK.out.mono ?_
  rintro e w20 ⟨rfl, -, -, hk⟩
  clear x0' x1' x2'
  have E_19 := Lib.hid (E_18.out.keep hk (by first | omega | (simp; done) | (simp; omega)))
  have N1_19 := Lib.hid (N1_18.out.keep hk (by first | (left; omega) | (right; omega) | (left; simp; done) | (right; simp; done) | (left; simp; omega) | (right; simp; omega)))
  have N3_19 := Lib.hid (N3_18.out.keep hk (by first | (left; omega) | (right; omega) | (left; simp; done) | (right; simp; done) | (left; simp; omega) | (right; simp; omega)))
  have Rs0_19 := Lib.hid (Rs0_18.out.keep hk (by first | (left; omega) | (right; omega) | (left; simp; done) | (right; simp; done) | (left; simp; omega) | (right; simp; omega)))
  have Bs0_19 := Lib.hid (stayL Bs0_18.out hk (by first | (left; omega) | (right; omega) | (left; simp; done) | (right; simp; done) | (left; simp; omega) | (right; simp; omega)))
  have D1_19 := Lib.hid (D1_18.out.keep hk (by first | omega | (simp; done) | (simp; omega)))
  have D3_19 := Lib.hid (D3_18.out.keep hk (by first | omega | (simp; done) | (simp; omega)))
  have Rg0_19 := Lib.hid (Rg0_18.out.keep hk (by first | (left; omega) | (right; omega) | (left; simp; done) | (right; simp; done) | (left; simp; omega) | (right; simp; omega)))
  have Og0_19 := Lib.hid (Og0_18.out.keep hk (by first | (left; omega) | (right; omega) | (left; simp; done) | (right; simp; done) | (left; simp; omega) | (right; simp; omega)))
  have Bg0_19 := Lib.hid (stayL Bg0_18.out hk (by first | (left; omega) | (right; omega) | (left; simp; done) | (right; simp; done) | (left; simp; omega) | (right; simp; omega)))
  clear E_18 N1_18 N3_18 Rs0_18 Bs0_18 D1_18 D3_18 Rg0_18 Og0_18 Bg0_18 hk C0_18
  clear MK
  have MK := Lib.hid (markI_any (some ⟨bx1, 0, none⟩) _ _ xs1.length xs1.length M0 w20 D1_19.out.own (by omega))
  obtain ⟨M1, hM1⟩ : ∃ K, M0 + xs1.length = K := ⟨_, rfl⟩
  rw [hM1] at MK
  have hK1 : ¬ (M1 : Int) < 0 := by omega
  go_wp2_with fail
  refine MK.out.mono ?_
  rintro e w21 ⟨rfl, -, -, hk⟩
  have E_20 := Lib.hid (E_19.out.keep hk (by first | omega | (simp; done) | (simp; omega)))
  have N1_20 := Lib.hid (N1_19.out.keep hk (by first | (left; omega) | (right; omega) | (left; simp; done) | (right; simp; done) | (left; simp; omega) | (right; simp; omega)))
  have N3_20 := Lib.hid (N3_19.out.keep hk (by first | (left; omega) | (right; omega) | (left; simp; done) | (right; simp; done) | (left; simp; omega) | (right; simp; omega)))
  have Rs0_20 := Lib.hid (Rs0_19.out.keep hk (by first | (left; omega) | (right; omega) | (left; simp; done) | (right; simp; done) | (left; simp; omega) | (right; simp; omega)))
  have Bs0_20 := Lib.hid (stayL Bs0_19.out hk (by first | (left; omega) | (right; omega) | (left; simp; done) | (right; simp; done) | (left; simp; omega) | (right; simp; omega)))
  have D3_20 := Lib.hid (D3_19.out.keep hk (by first | omega | (simp; done) | (simp; omega)))
  have Rg0_20 := Lib.hid (Rg0_19.out.keep hk (by first | (left; omega) | (right; omega) | (left; simp; done) | (right; simp; done) | (left; simp; omega) | (right; simp; omega)))
  have Og0_20 := Lib.hid (Og0_19.out.keep hk (by first | (left; omega) | (right; omega) | (left; simp; done) | (right; simp; done) | (left; simp; omega) | (right; simp; omega)))
  have Bg0_20 := Lib.hid (stayL Bg0_19.out hk (by first | (left; omega) | (right; omega) | (left; simp; done) | (right; simp; done) | (left; simp; omega) | (right; simp; omega)))
  clear E_19 N1_19 N3_19 Rs0_19 Bs0_19 D3_19 Rg0_19 Og0_19 Bg0_19 hk D1_19
  clear MK
  have MK := Lib.hid (markI_any (some ⟨bx3, 0, none⟩) _ _ xs3.length xs3.length M1 w21 D3_20.out.own (by omega))
  obtain ⟨M2, hM2⟩ : ∃ K, M1 + xs3.length = K := ⟨_, rfl⟩
  rw [hM2] at MK
  have hK2 : ¬ (M2 : Int) < 0 := by omega
  go_wp2_with fail
  refine MK.out.mono ?_
  rintro e w22 ⟨rfl, -, -, hk⟩
  have E_21 := Lib.hid (E_20.out.keep hk (by first | omega | (simp; done) | (simp; omega)))
  have N1_21 := Lib.hid (N1_20.out.keep hk (by first | (left; omega) | (right; omega) | (left; simp; done) | (right; simp; done) | (left; simp; omega) | (right; simp; omega)))
  have N3_21 := Lib.hid (N3_20.out.keep hk (by first | (left; omega) | (right; omega) | (left; simp; done) | (right; simp; done) | (left; simp; omega) | (right; simp; omega)))
  have Rs0_21 := Lib.hid (Rs0_20.out.keep hk (by first | (left; omega) | (right; omega) | (left; simp; done) | (right; simp; done) | (left; simp; omega) | (right; simp; omega)))
  have Bs0_21 := Lib.hid (stayL Bs0_20.out hk (by first | (left; omega) | (right; omega) | (left; simp; done) | (right; simp; done) | (left; simp; omega) | (right; simp; omega)))
  have Rg0_21 := Lib.hid (Rg0_20.out.keep hk (by first | (left; omega) | (right; omega) | (left; simp; done) | (right; simp; done) | (left; simp; omega) | (right; simp; omega)))
  have Og0_21 := Lib.hid (Og0_20.out.keep hk (by first | (left; omega) | (right; omega) | (left; simp; done) | (right; simp; done) | (left; simp; omega) | (right; simp; omega)))
  have Bg0_21 := Lib.hid (stayL Bg0_20.out hk (by first | (left; omega) | (right; omega) | (left; simp; done) | (right; simp; done) | (left; simp; omega) | (right; simp; omega)))
  clear E_20 N1_20 N3_20 Rs0_20 Bs0_20 Rg0_20 Og0_20 Bg0_20 hk D3_20
  clear MK
  obtain ⟨fg00, fg01, fg02, -⟩ := Bg0_21.out.three
  obtain ⟨fs00, fs01, fs02, -⟩ := Bs0_21.out.three
  go_wp2_with fail
  refine (EQ0.out _ _ _ _ _ _ _ _ _ Rg0_21.out Rs0_21.out).mono ?_
  rintro e w23 ⟨rfl, hb⟩
  clear fg00 fg01 fg02
  clear fs00 fs01 fs02
  have E_22 := Lib.hid (E_21.out.next hb)
  have N1_22 := Lib.hid (N1_21.out.bel hb)
  have N3_22 := Lib.hid (N3_21.out.bel hb)
  have Rs0_22 := Lib.hid (Rs0_21.out.bel hb)
  have Bs0_22 := Lib.hid (Bs0_21.out.below hb Bs0_21.out.lt)
  have Rg0_22 := Lib.hid (Rg0_21.out.bel hb)
  have Og0_22 := Lib.hid (Og0_21.out.bel hb)
  have Bg0_22 := Lib.hid (Bg0_21.out.below hb Bg0_21.out.lt)
  clear E_21 N1_21 N3_21 Rs0_21 Bs0_21 Rg0_21 Og0_21 Bg0_21 hb
  clear Rg0_22
  obtain ⟨fg00, fg01, fg02, -⟩ := Bg0_22.out.three
  have MI := Lib.hid (markRow_any x0 y0 pg0 _ _ n0 kg0 1 w23 Og0_22.out (by omega))
  obtain ⟨Q0, hQ0⟩ : ∃ M, 1 + n0 = M := ⟨_, rfl⟩
  rw [hQ0] at MI
  have hQ00 : ¬ (Q0 : Int) < 0 := by omega
  go_wp2_with fail
  refine MI.out.mono ?_
  rintro e w24 ⟨rfl, hq, -, hk⟩
  clear fg00 fg01 fg02
  have E_23 := Lib.hid (E_22.out.keep hk (by first | omega | (simp; done) | (simp; omega)))
  have N1_23 := Lib.hid (N1_22.out.keep hk (by first | (left; omega) | (right; omega) | (left; simp; done) | (right; simp; done) | (left; simp; omega) | (right; simp; omega)))
  have N3_23 := Lib.hid (N3_22.out.keep hk (by first | (left; omega) | (right; omega) | (left; simp; done) | (right; simp; done) | (left; simp; omega) | (right; simp; omega)))
  have Rs0_23 := Lib.hid (Rs0_22.out.keep hk (by first | (left; omega) | (right; omega) | (left; simp; done) | (right; simp; done) | (left; simp; omega) | (right; simp; omega)))
  have Bs0_23 := Lib.hid (stayL Bs0_22.out hk (by first | (left; omega) | (right; omega) | (left; simp; done) | (right; simp; done) | (left; simp; omega) | (right; simp; omega)))
  have Bg0_23 := Lib.hid (stayL Bg0_22.out hk (by first | (left; omega) | (right; omega) | (left; simp; done) | (right; simp; done) | (left; simp; omega) | (right; simp; omega)))
  clear E_22 N1_22 N3_22 Rs0_22 Bs0_22 Bg0_22 hk Og0_22
  have H0 := Lib.hid hq
  clear hq MI
  have HI0 := Lib.hid (fun w' (la ha : Nat) (h : Ri la ha w' pg0 (mk 1 n0)) => heldRow_any x0 y0 pg0 la ha n0 kg0 1 w' h (by omega))
  rw [hQ0] at HI0
  obtain ⟨fg00, fg01, fg02, -⟩ := Bg0_23.out.three
  go_wp2_with fail
  refine (HI0.out _ _ _ H0.out).mono ?_
  rintro e w25 ⟨rfl, hb⟩
  clear fg00 fg01 fg02
  have E_24 := Lib.hid (E_23.out.next hb)
  have N1_24 := Lib.hid (N1_23.out.bel hb)
  have N3_24 := Lib.hid (N3_23.out.bel hb)
  have Rs0_24 := Lib.hid (Rs0_23.out.bel hb)
  have Bs0_24 := Lib.hid (Bs0_23.out.below hb Bs0_23.out.lt)
  have Bg0_24 := Lib.hid (Bg0_23.out.below hb Bg0_23.out.lt)
  have H0_24 := Lib.hid (H0.out.bel hb)
  clear E_23 N1_23 N3_23 Rs0_23 Bs0_23 Bg0_23 H0 hb
  obtain ⟨a0', a1', a2', -⟩ := E_24.out.box.three
  go_wp2_with fail
  refine (toRow_any s0 r0 q0 c0 xs0 _ _ _ E_24.out.inn hl0).mono ?_
  rintro e w26 ⟨bh0, hmh0, hnh0', rfl, hoh0, hb⟩
  clear a0' a1' a2'
  have E_25 := Lib.hid (E_24.out.next hb)
  have N1_25 := Lib.hid (N1_24.out.bel hb)
  have N3_25 := Lib.hid (N3_24.out.bel hb)
  have Rs0_25 := Lib.hid (Rs0_24.out.bel hb)
  have Bs0_25 := Lib.hid (Bs0_24.out.below hb Bs0_24.out.lt)
  have Bg0_25 := Lib.hid (Bg0_24.out.below hb Bg0_24.out.lt)
  have H0_25 := Lib.hid (H0_24.out.bel hb)
  clear E_24 N1_24 N3_24 Rs0_24 Bs0_24 Bg0_24 H0_24 hb
  have Kh0 := Lib.hid (Rd.of_own hoh0 hmh0 hnh0' (Nat.le_refl _) xs0.length)
  rw [List.take_of_length_le (by rw [iv_length]; exact Nat.le_refl _)] at Kh0
  clear hoh0 hmh0 hnh0'
  go_wp2_with fail
  refine (toI_any q1 c1 xs1 _ _ _ N1_25.out hl1).mono ?_
  rintro e w27 ⟨bh1, hmh1, hnh1', rfl, hoh1, hb⟩
  have E_26 := Lib.hid (E_25.out.next hb)
  have N1_26 := Lib.hid (N1_25.out.bel hb)
  have N3_26 := Lib.hid (N3_25.out.bel hb)
  have Rs0_26 := Lib.hid (Rs0_25.out.bel hb)
  have Bs0_26 := Lib.hid (Bs0_25.out.below hb Bs0_25.out.lt)
  have Bg0_26 := Lib.hid (Bg0_25.out.below hb Bg0_25.out.lt)
  have H0_26 := Lib.hid (H0_25.out.bel hb)
  have Kh0_26 := Lib.hid (Kh0.out.bel hb)
  clear E_25 N1_25 N3_25 Rs0_25 Bs0_25 Bg0_25 H0_25 Kh0 hb
  have Kh1 := Lib.hid (Rd.of_own hoh1 hmh1 hnh1' (Nat.le_refl _) xs1.length)
  rw [List.take_of_length_le (by rw [iv_length]; exact Nat.le_refl _)] at Kh1
  clear hoh1 hmh1 hnh1'
  go_wp2_with fail
  refine (toI_any q3 c3 xs3 _ _ _ N3_26.out hl3).mono ?_
  rintro e w28 ⟨bh3, hmh3, hnh3', rfl, hoh3, hb⟩
  have E_27 := Lib.hid (E_26.out.next hb)
  have N1_27 := Lib.hid (N1_26.out.bel hb)
  have N3_27 := Lib.hid (N3_26.out.bel hb)
  have Rs0_27 := Lib.hid (Rs0_26.out.bel hb)
  have Bs0_27 := Lib.hid (Bs0_26.out.below hb Bs0_26.out.lt)
  have Bg0_27 := Lib.hid (Bg0_26.out.below hb Bg0_26.out.lt)
  have H0_27 := Lib.hid (H0_26.out.bel hb)
  have Kh0_27 := Lib.hid (Kh0_26.out.bel hb)
  have Kh1_27 := Lib.hid (Kh1.out.bel hb)
  clear E_26 N1_26 N3_26 Rs0_26 Bs0_26 Bg0_26 H0_26 Kh0_26 Kh1 hb
  have Kh3 := Lib.hid (Rd.of_own hoh3 hmh3 hnh3' (Nat.le_refl _) xs3.length)
  rw [List.take_of_length_le (by rw [iv_length]; exact Nat.le_refl _)] at Kh3
  clear hoh3 hmh3 hnh3'
  go_wp2_with fail
  refine (I.out _ _ _ _ _ _ _ _ _ _ _ _ _ Kh0_27.out hl0 (Nat.le_refl _) (by unfold maxLen; omega) Kh1_27.out hl1 (Nat.le_refl _) (by unfold maxLen; omega) Kh3.out hl3 (Nat.le_refl _) (by unfold maxLen; omega)).mono ?_
  rintro e w29 ⟨v0', rfl, hO0, hb⟩
  obtain ⟨ph0, kh0, rfl, -, -, hR0, hW0⟩ := hO0.rd
  have hbA0 := (Below.refl _ w29).alloc (Nat.le_refl _) (.cells #[.int .i64 x0, .bool y0, .slice ph0 L0.length kh0] 28)
  have hsqh := hb.size
  have E_28 := Lib.hid (E_27.out.next hb)
  have N1_28 := Lib.hid (N1_27.out.bel hb)
  have N3_28 := Lib.hid (N3_27.out.bel hb)
  have Rs0_28 := Lib.hid (Rs0_27.out.bel hb)
  have Bs0_28 := Lib.hid (Bs0_27.out.below hb Bs0_27.out.lt)
  have Bg0_28 := Lib.hid (Bg0_27.out.below hb Bg0_27.out.lt)
  have H0_28 := Lib.hid (H0_27.out.bel hb)
  have Kh0_28 := Lib.hid (Kh0_27.out.bel hb)
  have Kh1_28 := Lib.hid (Kh1_27.out.bel hb)
  have Kh3_28 := Lib.hid (Kh3.out.bel hb)
  clear E_27 N1_27 N3_27 Rs0_27 Bs0_27 Bg0_27 H0_27 Kh0_27 Kh1_27 Kh3 hb
  have Rh0 := Lib.hid hR0
  clear hO0 hR0 hW0
  have hszh0 : w29.heap.size + 1 ≤ (w29.alloc (.cells #[.int .i64 x0, .bool y0, .slice ph0 L0.length kh0] 28)).heap.size := by simp
  have hsuh0 : (w29.alloc (.cells #[.int .i64 x0, .bool y0, .slice ph0 L0.length kh0] 28)).heap.size ≤ w29.heap.size + 1 := by simp
  have hX := OwnArr.made w29 28 [.int .i64 x0, .bool y0, .slice ph0 L0.length kh0]
  have E_29 := Lib.hid (E_28.out.next hbA0)
  have N1_29 := Lib.hid (N1_28.out.bel hbA0)
  have N3_29 := Lib.hid (N3_28.out.bel hbA0)
  have Rs0_29 := Lib.hid (Rs0_28.out.bel hbA0)
  have Bs0_29 := Lib.hid (Bs0_28.out.below hbA0 Bs0_28.out.lt)
  have Bg0_29 := Lib.hid (Bg0_28.out.below hbA0 Bg0_28.out.lt)
  have H0_29 := Lib.hid (H0_28.out.bel hbA0)
  have Kh0_29 := Lib.hid (Kh0_28.out.bel hbA0)
  have Kh1_29 := Lib.hid (Kh1_28.out.bel hbA0)
  have Kh3_29 := Lib.hid (Kh3_28.out.bel hbA0)
  have Rh0_29 := Lib.hid (Rh0.out.bel hbA0)
  clear E_28 N1_28 N3_28 Rs0_28 Bs0_28 Bg0_28 H0_28 Kh0_28 Kh1_28 Kh3_28 Rh0 hbA0
  have Bh0 := Lib.hid hX
  clear hX
  rw [hn0.out] at E_29 N1_29 N3_29 Rs0_29 Bs0_29 Bg0_29 H0_29 Kh0_29 Kh1_29 Kh3_29 Rh0_29 Bh0 hszh0 hsuh0 ⊢
  clear Kh0_29
  clear Kh1_29
  clear Kh3_29
  obtain ⟨fh00, fh01, fh02, -⟩ := Bh0.out.three
  obtain ⟨fs00, fs01, fs02, -⟩ := Bs0_29.out.three
  go_wp2_with fail
  refine (EQ0.out _ _ _ _ _ _ _ _ _ Rh0_29.out Rs0_29.out).mono ?_
  rintro e w31 ⟨rfl, hb⟩
  clear fh00 fh01 fh02
  clear fs00 fs01 fs02
  have E_30 := Lib.hid (E_29.out.next hb)
  have N1_30 := Lib.hid (N1_29.out.bel hb)
  have N3_30 := Lib.hid (N3_29.out.bel hb)
  have Rs0_30 := Lib.hid (Rs0_29.out.bel hb)
  have Bs0_30 := Lib.hid (Bs0_29.out.below hb Bs0_29.out.lt)
  have Bg0_30 := Lib.hid (Bg0_29.out.below hb Bg0_29.out.lt)
  have H0_30 := Lib.hid (H0_29.out.bel hb)
  have Rh0_30 := Lib.hid (Rh0_29.out.bel hb)
  have Bh0_30 := Lib.hid (Bh0.out.below hb Bh0.out.lt)
  clear E_29 N1_29 N3_29 Rs0_29 Bs0_29 Bg0_29 H0_29 Rh0_29 Bh0 hb
  clear Rh0_30 Rs0_30
  obtain ⟨fg00, fg01, fg02, -⟩ := Bg0_30.out.three
  go_wp2_with fail
  refine (HI0.out _ _ _ H0_30.out).mono ?_
  rintro e w32 ⟨rfl, hb⟩
  clear fg00 fg01 fg02
  have E_31 := Lib.hid (E_30.out.next hb)
  have N1_31 := Lib.hid (N1_30.out.bel hb)
  have N3_31 := Lib.hid (N3_30.out.bel hb)
  have Bs0_31 := Lib.hid (Bs0_30.out.below hb Bs0_30.out.lt)
  have Bg0_31 := Lib.hid (Bg0_30.out.below hb Bg0_30.out.lt)
  have H0_31 := Lib.hid (H0_30.out.bel hb)
  have Bh0_31 := Lib.hid (Bh0_30.out.below hb Bh0_30.out.lt)
  clear E_30 N1_30 N3_30 Bs0_30 Bg0_30 H0_30 Bh0_30 hb
  go_wp2_with fail
  go_ret
  exact ⟨rfl, E_31.out.bel⟩
end Go.Proofs.Ytogdiahojbonaaa.placeRow
