/- FnExactFirstPlacing's walk: for all arguments both functions give the same, in memory of the call's own. -/
import Derived.Test.YtogdiahojbonaaaFpcB9
import Derived.Test.YtogdiahojbonaaaLst
import Derived.Test.YtogdiahojbonaaaRowLaw
import Derived.Test.YtogdiahojbonaaaHeldRow
import Derived.Deep.DeepCutAuto
import Derived.Deep.RegionWith
namespace Go.Proofs.Ytogdiahojbonaaa.firstPlacing
open Go.RowKit

set_option maxRecDepth 4000 in
set_option maxHeartbeats 8000000 in
theorem walk (s0 : Int) (r0 : Bool) (q0 : Option Addr) (c0 : Nat) (xs0 : List Int) (q1 : Option Addr) (c1 : Nat) (xs1 : List Int) (a2 : Int) (w : World) (hin0 : Ri 0 w.heap.size w q0 xs0) (hlen0 : xs0.length ≤ 9223372036854775807) (_ : -9223372036854775808 ≤ s0 ∧ s0 ≤ 9223372036854775807) (_ : ∀ x ∈ xs0, -9223372036854775808 ≤ x ∧ x ≤ 9223372036854775807) (hin1 : Ri 0 w.heap.size w q1 xs1) (hlen1 : xs1.length ≤ 9223372036854775807) (ha2 : -9223372036854775808 ≤ a2 ∧ a2 ≤ 9223372036854775807) :
    Calls Try.prog 6 #[rowV s0 r0 q0 xs0.length c0, .slice q1 xs1.length c1, .int .i64 a2] w fun e w' => e = .returned (.bool true) ∧ Below w.heap.size w w' := by
  have E_0 := Lib.hid (Env.start (s := s0) (ring := r0) (cap := c0) hin0)
  have SZ := fun w' => szRow_any s0 r0 q0 xs0.length c0 w' hlen0
  have N1_0 := Lib.hid (hin1.bel ((Below.refl w.heap.size w).alloc (Nat.le_refl _) (.cells #[.int .i64 s0, .bool r0, .slice q0 xs0.length c0] 24)))
  clear hin0 hin1
  by_cases hl1 : xs1.length ≤ 1048576
  case neg =>
    have hg1 : (1048576 : Int) < (xs1.length : Int) := by omega
    go_enter Try.func6, Try.ntmps6
    go_wp2_with fail
    go_ret
    exact ⟨rfl, E_0.out.bel⟩
  have hg1 : ¬ (1048576 : Int) < (xs1.length : Int) := by omega
  by_cases hl0 : xs0.length ≤ 1048576
  case neg =>
    rw [if_neg hl0] at SZ
    replace SZ := Lib.hid SZ
    go_enter Try.func6, Try.ntmps6
    go_wp2_with fail
    refine (SZ.out _).mono ?_
    rintro e w1 ⟨rfl, hb1⟩
    have E1 := Lib.hid (E_0.out.next hb1)
    go_wp2_with fail
    go_ret
    exact ⟨rfl, E1.out.bel⟩
  rw [if_pos hl0] at SZ
  replace SZ := Lib.hid SZ
  have h0 : ¬ (1048576 - (xs0.length : Int) < 0) := by omega
  obtain ⟨L0, y1, hL0, S, I0⟩ := firstPlacing_both s0 r0 xs0 xs1 a2
  have I := I0 ha2.2
  clear I0
  replace S := Lib.hid S
  replace I := Lib.hid I
  obtain ⟨n0, hn0⟩ : ∃ n, L0.length = n := ⟨_, rfl⟩
  rw [hn0] at hL0
  replace hn0 := Lib.hid hn0
  go_enter Try.func6, Try.ntmps6
  go_wp2_with fail
  refine (SZ.out _).mono ?_
  rintro e w1 ⟨rfl, hb⟩
  have E_1 := Lib.hid (E_0.out.next hb)
  have N1_1 := Lib.hid (N1_0.out.bel hb)
  clear E_0 N1_0 hb SZ
  obtain ⟨a0', a1', a2', -⟩ := E_1.out.box.three
  go_wp2_with fail
  refine (toRow_any s0 r0 q0 c0 xs0 _ _ _ E_1.out.inn hl0).mono ?_
  rintro e w2 ⟨bs0, hms0, hns0', rfl, hos0, hb⟩
  clear a0' a1' a2'
  have E_2 := Lib.hid (E_1.out.next hb)
  have N1_2 := Lib.hid (N1_1.out.bel hb)
  clear E_1 N1_1 hb
  have Ks0 := Lib.hid (Rd.of_own hos0 hms0 hns0' (Nat.le_refl _) xs0.length)
  rw [List.take_of_length_le (by rw [iv_length]; exact Nat.le_refl _)] at Ks0
  clear hos0 hms0 hns0'
  go_wp2_with fail
  refine (toI_any q1 c1 xs1 _ _ _ N1_2.out hl1).mono ?_
  rintro e w3 ⟨bs1, hms1, hns1', rfl, hos1, hb⟩
  have E_3 := Lib.hid (E_2.out.next hb)
  have N1_3 := Lib.hid (N1_2.out.bel hb)
  have Ks0_3 := Lib.hid (Ks0.out.bel hb)
  clear E_2 N1_2 Ks0 hb
  have Ks1 := Lib.hid (Rd.of_own hos1 hms1 hns1' (Nat.le_refl _) xs1.length)
  rw [List.take_of_length_le (by rw [iv_length]; exact Nat.le_refl _)] at Ks1
  clear hos1 hms1 hns1'
  go_wp2_with fail
  refine (S.out _ _ _ _ _ _ _ _ _ Ks0_3.out hl0 (Nat.le_refl _) (by unfold maxLen; omega) Ks1.out hl1 (Nat.le_refl _) (by unfold maxLen; omega)).mono ?_
  rintro e w4 ⟨v0', rfl, hO0, hb⟩
  obtain ⟨ps0, ks0, rfl, -, -, hR0, hW0⟩ := hO0.rd
  have hsqs := hb.size
  have E_4 := Lib.hid (E_3.out.next hb)
  have N1_4 := Lib.hid (N1_3.out.bel hb)
  have Ks0_4 := Lib.hid (Ks0_3.out.bel hb)
  have Ks1_4 := Lib.hid (Ks1.out.bel hb)
  clear E_3 N1_3 Ks0_3 Ks1 hb
  have Rs0 := Lib.hid hR0
  clear hO0 hR0 hW0
  rw [hn0.out]
  clear Ks0_4
  clear Ks1_4
  have hz0 := E_4.out.bel.size
  have hz1 := E_4.out.box.lt
  obtain ⟨a0', a1', a2', -⟩ := E_4.out.box.three
  go_wp2_with fail
  refine (toRow_any s0 r0 q0 c0 xs0 _ _ _ E_4.out.inn hl0).mono ?_
  rintro e w5 ⟨bx0, hmx, hnx, rfl, hox, hb⟩
  clear a0' a1' a2'
  have hbx := (Below.refl _ w5).alloc (Nat.le_refl _) (.cells #[.int .i64 s0, .bool r0, .slice (some ⟨bx0, 0, none⟩) xs0.length xs0.length] 28)
  have C0 := Lib.hid (Cpy.made (s := s0) (ring := r0) hox hmx)
  have hszx : w5.heap.size + 1 ≤ (w5.alloc (.cells #[.int .i64 s0, .bool r0, .slice (some ⟨bx0, 0, none⟩) xs0.length xs0.length] 28)).heap.size := by simp
  have hsux : (w5.alloc (.cells #[.int .i64 s0, .bool r0, .slice (some ⟨bx0, 0, none⟩) xs0.length xs0.length] 28)).heap.size ≤ w5.heap.size + 1 := by simp
  have hsx0 := hb.size
  clear hox hmx hnx
  have E_5 := Lib.hid (E_4.out.next hb)
  have N1_5 := Lib.hid (N1_4.out.bel hb)
  have Rs0_5 := Lib.hid (Rs0.out.bel hb)
  clear E_4 N1_4 Rs0 hb
  have E_6 := Lib.hid (E_5.out.next hbx)
  have N1_6 := Lib.hid (N1_5.out.bel hbx)
  have Rs0_6 := Lib.hid (Rs0_5.out.bel hbx)
  clear E_5 N1_5 Rs0_5 hbx
  go_wp2_with fail
  refine (toI_any q1 c1 xs1 _ _ _ N1_6.out hl1).mono ?_
  rintro e w6 ⟨bx1, hmx, hnx, rfl, hox, hb⟩
  have D1 : Hid (Lcp _ w6.heap.size bx1 xs1 w6) := ⟨hox, hmx, hnx, Nat.le_refl _⟩
  have hsx1 := hb.size
  clear hox hmx hnx
  have E_7 := Lib.hid (E_6.out.next hb)
  have N1_7 := Lib.hid (N1_6.out.bel hb)
  have Rs0_7 := Lib.hid (Rs0_6.out.bel hb)
  have C0_7 := Lib.hid (C0.out.next hb)
  clear E_6 N1_6 Rs0_6 C0 hb
  obtain ⟨x0', x1', x2', -⟩ := C0_7.out.box.three
  go_wp2_with fail
  refine (I.out _ _ _ _ _ _ _ _ _ C0_7.out.ri hl0 (Nat.le_refl _) (by unfold maxLen; omega) D1.out.ri hl1 (Nat.le_refl _) (by unfold maxLen; omega)).mono ?_
  rintro e w7 ⟨v0', rfl, hO0, hb⟩
  obtain ⟨pg0, kg0, rfl, -, -, hR0, hW0⟩ := hO0.rd
  have hsqg := hb.size
  have E_8 := Lib.hid (E_7.out.next hb)
  have N1_8 := Lib.hid (N1_7.out.bel hb)
  have Rs0_8 := Lib.hid (Rs0_7.out.bel hb)
  have C0_8 := Lib.hid (C0_7.out.next hb)
  have D1_8 := Lib.hid (D1.out.next hb)
  clear E_7 N1_7 Rs0_7 C0_7 D1 hb
  have Rg0 := Lib.hid hR0
  have Og0 := Lib.hid hW0
  clear hO0 hR0 hW0
  rw [hn0.out] at Og0 ⊢
  clear x0' x1' x2'
  have hzg := E_8.out.bel.size
  have EQ0 := Lib.hid (fun (qa qb : Option Addr) (ca cb : Nat) (w' : World) (l1 h1 l2 h2 : Nat) (x : Ri l1 h1 w' qa L0) (y : Ri l2 h2 w' qb L0) => eqI_same qa qb ca cb L0 w' l1 h1 l2 h2 x y (by rw [hn0.out]; omega))
  rw [hn0.out] at EQ0
  go_wp2_with fail
  refine (EQ0.out _ _ _ _ _ _ _ _ _ Rg0.out Rs0_8.out).mono ?_
  rintro e w8 ⟨rfl, hb⟩
  have E_9 := Lib.hid (E_8.out.next hb)
  have N1_9 := Lib.hid (N1_8.out.bel hb)
  have Rs0_9 := Lib.hid (Rs0_8.out.bel hb)
  have C0_9 := Lib.hid (C0_8.out.next hb)
  have D1_9 := Lib.hid (D1_8.out.next hb)
  have Rg0_9 := Lib.hid (Rg0.out.bel hb)
  have Og0_9 := Lib.hid (Og0.out.bel hb)
  clear E_8 N1_8 Rs0_8 C0_8 D1_8 Rg0 Og0 hb
  obtain ⟨a0', a1', a2', -⟩ := E_9.out.box.three
  obtain ⟨x0', x1', x2', -⟩ := C0_9.out.box.three
  go_upto_region 13 with fail
  go_cut [60] (fun v wx => v = .bool false ∧ Hid (Below w8.heap.size w8 wx))
  case first =>
    have hE := E_9.out.next ((Below.refl _ w8).drew)
    have hC := C0_9.out.next ((Below.refl _ w8).drew)
    have T6 := Lib.hid (toRow_any s0 r0 q0 c0 xs0 w8.drew _ _ hE.inn hl0)
    have HC := Lib.hid hC
    have HW := Lib.hid ((Below.refl w8.heap.size w8).drew)
    clear hE hC
    go_region_with (first
      | (go_at_call 11; refine T6.out.mono ?_; rintro e wx ⟨bz, hmz, hnz, rfl, hoz, hbz⟩; have HW8 := Lib.hid (HW.out.trans hbz); have CX := Lib.hid (HC.out.next hbz); have PX := Lib.hid (Rd.of_own hoz hmz hnz (Nat.le_refl _) xs0.length); rw [List.take_of_length_le (by rw [iv_length]; exact Nat.le_refl _)] at PX; obtain ⟨d0, d1, d2, -⟩ := CX.out.box.three; clear hoz hbz)
      | (go_at_call 14; refine (eqRow_same s0 r0 _ _ _ _ xs0 _ _ _ _ _ CX.out.ri PX.out (by omega)).mono ?_; rintro e wy ⟨rfl, hby⟩; have HW9 := Lib.hid (HW8.out.trans (hby.mono HW8.out.size))))
    all_goals
      go_wp2_with fail
      go_meet
      exact ⟨rfl, HW9⟩
  case rest =>
  obtain ⟨rfl, HW⟩ := hcut
  obtain ⟨w11, rfl⟩ : ∃ w11 : World, w11 = wc := ⟨_, rfl⟩
  have hb := HW.out
  clear a0' a1' a2' x0' x1' x2' HW
  have E_10 := Lib.hid (E_9.out.next hb)
  have N1_10 := Lib.hid (N1_9.out.bel hb)
  have Rs0_10 := Lib.hid (Rs0_9.out.bel hb)
  have C0_10 := Lib.hid (C0_9.out.next hb)
  have D1_10 := Lib.hid (D1_9.out.next hb)
  have Rg0_10 := Lib.hid (Rg0_9.out.bel hb)
  have Og0_10 := Lib.hid (Og0_9.out.bel hb)
  clear E_9 N1_9 Rs0_9 C0_9 D1_9 Rg0_9 Og0_9 hb
  go_wp2_with fail
  refine (toI_any q1 c1 xs1 _ _ _ N1_10.out hl1).mono ?_
  rintro e w12 ⟨by1, hmy, hny, rfl, hoy, hb⟩
  have E_11 := Lib.hid (E_10.out.next hb)
  have N1_11 := Lib.hid (N1_10.out.bel hb)
  have Rs0_11 := Lib.hid (Rs0_10.out.bel hb)
  have C0_11 := Lib.hid (C0_10.out.next hb)
  have D1_11 := Lib.hid (D1_10.out.next hb)
  have Rg0_11 := Lib.hid (Rg0_10.out.bel hb)
  have Og0_11 := Lib.hid (Og0_10.out.bel hb)
  clear E_10 N1_10 Rs0_10 C0_10 D1_10 Rg0_10 Og0_10 hb
  have Y1 := Lib.hid (Rd.of_own hoy hmy hny (Nat.le_refl _) xs1.length)
  rw [List.take_of_length_le (by rw [iv_length]; exact Nat.le_refl _)] at Y1
  clear hoy hmy hny
  go_wp2_with fail
  refine (eqI_same _ _ _ _ xs1 _ _ _ _ _ D1_11.out.ri Y1.out (by omega)).mono ?_
  rintro e w13 ⟨rfl, hb⟩
  clear Y1
  have E_12 := Lib.hid (E_11.out.next hb)
  have N1_12 := Lib.hid (N1_11.out.bel hb)
  have Rs0_12 := Lib.hid (Rs0_11.out.bel hb)
  have C0_12 := Lib.hid (C0_11.out.next hb)
  have D1_12 := Lib.hid (D1_11.out.next hb)
  have Rg0_12 := Lib.hid (Rg0_11.out.bel hb)
  have Og0_12 := Lib.hid (Og0_11.out.bel hb)
  clear E_11 N1_11 Rs0_11 C0_11 D1_11 Rg0_11 Og0_11 hb
  obtain ⟨x0', x1', x2', -⟩ := C0_12.out.box.three
  have MK := Lib.hid (markRow_any s0 r0 (some ⟨bx0, 0, none⟩) _ _ xs0.length xs0.length 1 w13 C0_12.out.own (by omega))
  obtain ⟨M0, hM0⟩ : ∃ K, 1 + xs0.length = K := ⟨_, rfl⟩
  rw [hM0] at MK
  have hK0 : ¬ (M0 : Int) < 0 := by omega
  go_wp2_with fail
  refine MK.out.mono ?_
  rintro e w14 ⟨rfl, -, -, hk⟩
  clear x0' x1' x2'
  have E_13 := Lib.hid (E_12.out.keep hk (by first | omega | (simp; done) | (simp; omega)))
  have N1_13 := Lib.hid (N1_12.out.keep hk (by first | (left; omega) | (right; omega) | (left; simp; done) | (right; simp; done) | (left; simp; omega) | (right; simp; omega)))
  have Rs0_13 := Lib.hid (Rs0_12.out.keep hk (by first | (left; omega) | (right; omega) | (left; simp; done) | (right; simp; done) | (left; simp; omega) | (right; simp; omega)))
  have D1_13 := Lib.hid (D1_12.out.keep hk (by first | omega | (simp; done) | (simp; omega)))
  have Rg0_13 := Lib.hid (Rg0_12.out.keep hk (by first | (left; omega) | (right; omega) | (left; simp; done) | (right; simp; done) | (left; simp; omega) | (right; simp; omega)))
  have Og0_13 := Lib.hid (Og0_12.out.keep hk (by first | (left; omega) | (right; omega) | (left; simp; done) | (right; simp; done) | (left; simp; omega) | (right; simp; omega)))
  clear E_12 N1_12 Rs0_12 D1_12 Rg0_12 Og0_12 hk C0_12
  clear MK
  have MK := Lib.hid (markI_any (some ⟨bx1, 0, none⟩) _ _ xs1.length xs1.length M0 w14 D1_13.out.own (by omega))
  obtain ⟨M1, hM1⟩ : ∃ K, M0 + xs1.length = K := ⟨_, rfl⟩
  rw [hM1] at MK
  have hK1 : ¬ (M1 : Int) < 0 := by omega
  go_wp2_with fail
  refine MK.out.mono ?_
  rintro e w15 ⟨rfl, -, -, hk⟩
  have E_14 := Lib.hid (E_13.out.keep hk (by first | omega | (simp; done) | (simp; omega)))
  have N1_14 := Lib.hid (N1_13.out.keep hk (by first | (left; omega) | (right; omega) | (left; simp; done) | (right; simp; done) | (left; simp; omega) | (right; simp; omega)))
  have Rs0_14 := Lib.hid (Rs0_13.out.keep hk (by first | (left; omega) | (right; omega) | (left; simp; done) | (right; simp; done) | (left; simp; omega) | (right; simp; omega)))
  have Rg0_14 := Lib.hid (Rg0_13.out.keep hk (by first | (left; omega) | (right; omega) | (left; simp; done) | (right; simp; done) | (left; simp; omega) | (right; simp; omega)))
  have Og0_14 := Lib.hid (Og0_13.out.keep hk (by first | (left; omega) | (right; omega) | (left; simp; done) | (right; simp; done) | (left; simp; omega) | (right; simp; omega)))
  clear E_13 N1_13 Rs0_13 Rg0_13 Og0_13 hk D1_13
  clear MK
  go_wp2_with fail
  refine (EQ0.out _ _ _ _ _ _ _ _ _ Rg0_14.out Rs0_14.out).mono ?_
  rintro e w16 ⟨rfl, hb⟩
  have E_15 := Lib.hid (E_14.out.next hb)
  have N1_15 := Lib.hid (N1_14.out.bel hb)
  have Rs0_15 := Lib.hid (Rs0_14.out.bel hb)
  have Rg0_15 := Lib.hid (Rg0_14.out.bel hb)
  have Og0_15 := Lib.hid (Og0_14.out.bel hb)
  clear E_14 N1_14 Rs0_14 Rg0_14 Og0_14 hb
  clear Rg0_15
  have MI := Lib.hid (markI_any pg0 _ _ n0 kg0 1 w16 Og0_15.out (by omega))
  obtain ⟨Q0, hQ0⟩ : ∃ M, 1 + n0 = M := ⟨_, rfl⟩
  rw [hQ0] at MI
  have hQ00 : ¬ (Q0 : Int) < 0 := by omega
  go_wp2_with fail
  refine MI.out.mono ?_
  rintro e w17 ⟨rfl, hq, -, hk⟩
  have E_16 := Lib.hid (E_15.out.keep hk (by first | omega | (simp; done) | (simp; omega)))
  have N1_16 := Lib.hid (N1_15.out.keep hk (by first | (left; omega) | (right; omega) | (left; simp; done) | (right; simp; done) | (left; simp; omega) | (right; simp; omega)))
  have Rs0_16 := Lib.hid (Rs0_15.out.keep hk (by first | (left; omega) | (right; omega) | (left; simp; done) | (right; simp; done) | (left; simp; omega) | (right; simp; omega)))
  clear E_15 N1_15 Rs0_15 hk Og0_15
  have H0 := Lib.hid hq
  clear hq MI
  have HI0 := Lib.hid (fun w' (la ha : Nat) (h : Ri la ha w' pg0 (mk 1 (n0))) => heldI_any pg0 la ha n0 kg0 1 w' h (by omega))
  rw [hQ0] at HI0
  go_wp2_with fail
  refine (HI0.out _ _ _ H0.out).mono ?_
  rintro e w18 ⟨rfl, hb⟩
  have E_17 := Lib.hid (E_16.out.next hb)
  have N1_17 := Lib.hid (N1_16.out.bel hb)
  have Rs0_17 := Lib.hid (Rs0_16.out.bel hb)
  have H0_17 := Lib.hid (H0.out.bel hb)
  clear E_16 N1_16 Rs0_16 H0 hb
  obtain ⟨a0', a1', a2', -⟩ := E_17.out.box.three
  go_wp2_with fail
  refine (toRow_any s0 r0 q0 c0 xs0 _ _ _ E_17.out.inn hl0).mono ?_
  rintro e w19 ⟨bh0, hmh0, hnh0', rfl, hoh0, hb⟩
  clear a0' a1' a2'
  have E_18 := Lib.hid (E_17.out.next hb)
  have N1_18 := Lib.hid (N1_17.out.bel hb)
  have Rs0_18 := Lib.hid (Rs0_17.out.bel hb)
  have H0_18 := Lib.hid (H0_17.out.bel hb)
  clear E_17 N1_17 Rs0_17 H0_17 hb
  have Kh0 := Lib.hid (Rd.of_own hoh0 hmh0 hnh0' (Nat.le_refl _) xs0.length)
  rw [List.take_of_length_le (by rw [iv_length]; exact Nat.le_refl _)] at Kh0
  clear hoh0 hmh0 hnh0'
  go_wp2_with fail
  refine (toI_any q1 c1 xs1 _ _ _ N1_18.out hl1).mono ?_
  rintro e w20 ⟨bh1, hmh1, hnh1', rfl, hoh1, hb⟩
  have E_19 := Lib.hid (E_18.out.next hb)
  have N1_19 := Lib.hid (N1_18.out.bel hb)
  have Rs0_19 := Lib.hid (Rs0_18.out.bel hb)
  have H0_19 := Lib.hid (H0_18.out.bel hb)
  have Kh0_19 := Lib.hid (Kh0.out.bel hb)
  clear E_18 N1_18 Rs0_18 H0_18 Kh0 hb
  have Kh1 := Lib.hid (Rd.of_own hoh1 hmh1 hnh1' (Nat.le_refl _) xs1.length)
  rw [List.take_of_length_le (by rw [iv_length]; exact Nat.le_refl _)] at Kh1
  clear hoh1 hmh1 hnh1'
  go_wp2_with fail
  refine (I.out _ _ _ _ _ _ _ _ _ Kh0_19.out hl0 (Nat.le_refl _) (by unfold maxLen; omega) Kh1.out hl1 (Nat.le_refl _) (by unfold maxLen; omega)).mono ?_
  rintro e w21 ⟨v0', rfl, hO0, hb⟩
  obtain ⟨ph0, kh0, rfl, -, -, hR0, hW0⟩ := hO0.rd
  have hsqh := hb.size
  have E_20 := Lib.hid (E_19.out.next hb)
  have N1_20 := Lib.hid (N1_19.out.bel hb)
  have Rs0_20 := Lib.hid (Rs0_19.out.bel hb)
  have H0_20 := Lib.hid (H0_19.out.bel hb)
  have Kh0_20 := Lib.hid (Kh0_19.out.bel hb)
  have Kh1_20 := Lib.hid (Kh1.out.bel hb)
  clear E_19 N1_19 Rs0_19 H0_19 Kh0_19 Kh1 hb
  have Rh0 := Lib.hid hR0
  clear hO0 hR0 hW0
  rw [hn0.out]
  clear Kh0_20
  clear Kh1_20
  go_wp2_with fail
  refine (EQ0.out _ _ _ _ _ _ _ _ _ Rh0.out Rs0_20.out).mono ?_
  rintro e w22 ⟨rfl, hb⟩
  have E_21 := Lib.hid (E_20.out.next hb)
  have N1_21 := Lib.hid (N1_20.out.bel hb)
  have Rs0_21 := Lib.hid (Rs0_20.out.bel hb)
  have H0_21 := Lib.hid (H0_20.out.bel hb)
  have Rh0_21 := Lib.hid (Rh0.out.bel hb)
  clear E_20 N1_20 Rs0_20 H0_20 Rh0 hb
  clear Rh0_21 Rs0_21
  go_wp2_with fail
  refine (HI0.out _ _ _ H0_21.out).mono ?_
  rintro e w23 ⟨rfl, hb⟩
  have E_22 := Lib.hid (E_21.out.next hb)
  have N1_22 := Lib.hid (N1_21.out.bel hb)
  have H0_22 := Lib.hid (H0_21.out.bel hb)
  clear E_21 N1_21 H0_21 hb
  go_wp2_with fail
  go_ret
  exact ⟨rfl, E_22.out.bel⟩
end Go.Proofs.Ytogdiahojbonaaa.firstPlacing
