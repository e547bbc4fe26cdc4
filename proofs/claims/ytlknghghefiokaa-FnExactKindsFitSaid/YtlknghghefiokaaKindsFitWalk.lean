/- FnExactKindsFit's walk: for every Row, every Rule and every list both functions give the same. -/
import Derived.Test.YtlknghghefiokaaKfI8
import Derived.Test.YtlknghghefiokaaRowLaw
import Derived.Test.YtlknghghefiokaaRulLaw
import Derived.Test.YtlknghghefiokaaLst
import Derived.Deep.DeepCutAuto
import Derived.Deep.RegionWith
import Derived.Deep.RegionHeld3
namespace Go.Proofs.Ytlknghghefiokaa.kindsFit
open Go.RowKit

set_option maxRecDepth 4000 in
set_option maxHeartbeats 8000000 in
theorem walk (s0 : Int) (r0 : Bool) (q0 : Option Addr) (c0 : Nat) (xs0 : List Int) (s1 : Int) (q1 : Option Addr) (c1 : Nat) (xs1 : List Int) (q2 : Option Addr) (c2 : Nat) (xs2 : List Int) (w : World)
    (hin0 : Ri 0 w.heap.size w q0 xs0) (hlen0 : xs0.length ≤ 9223372036854775807) (_ : -9223372036854775808 ≤ s0 ∧ s0 ≤ 9223372036854775807) (_ : ∀ x ∈ xs0, -9223372036854775808 ≤ x ∧ x ≤ 9223372036854775807)
    (hin1 : Ri 0 w.heap.size w q1 xs1) (hlen1 : xs1.length ≤ 9223372036854775807) (_ : -9223372036854775808 ≤ s1 ∧ s1 ≤ 9223372036854775807) (_ : ∀ x ∈ xs1, -9223372036854775808 ≤ x ∧ x ≤ 9223372036854775807)
    (hin2 : Ri 0 w.heap.size w q2 xs2) (hlen2 : xs2.length ≤ 9223372036854775807) :
    Calls Try.prog 4 #[rowV s0 r0 q0 xs0.length c0, ruleV s1 q1 xs1.length c1, .slice q2 xs2.length c2] w fun e w' => e = .returned (.bool true) ∧ Below w.heap.size w w' := by
  have hba : Below w.heap.size w (w.alloc (.cells #[.int .i64 s0, .bool r0, .slice q0 xs0.length c0] 32)) := (Below.refl _ _).alloc (Nat.le_refl _) _
  have hbb : Below w.heap.size w ((w.alloc (.cells #[.int .i64 s0, .bool r0, .slice q0 xs0.length c0] 32)).alloc (.cells #[.int .i64 s1, .slice q1 xs1.length c1] 24)) := hba.alloc (by simp) _
  have E_0 := Lib.hid ((Env.start (s := s0) (ring := r0) (cap := c0) hin0).next ((Below.refl _ _).alloc (Nat.le_refl _) (.cells #[.int .i64 s1, .slice q1 xs1.length c1] 24)))
  have U_0 : Hid (EnvU w 0 w.heap.size (w.heap.size + 1) s1 q1 c1 xs1 ((w.alloc (.cells #[.int .i64 s0, .bool r0, .slice q0 xs0.length c0] 32)).alloc (.cells #[.int .i64 s1, .slice q1 xs1.length c1] 24))) := ⟨hin1.bel hbb, Nat.le_refl _, OwnArr.mk' rfl (by simp), hbb, Nat.le_succ _⟩
  have N_0 := Lib.hid (hin2.bel hbb)
  clear hin0 hin1 hin2 hba hbb
  by_cases hl2 : xs2.length ≤ 1048576
  case neg =>
    have hg2 : (1048576 : Int) < (xs2.length : Int) := by omega
    go_enter Try.func4, Try.ntmps4
    go_wp2_with fail
    go_ret
    exact ⟨rfl, E_0.out.bel⟩
  have hg2 : ¬ (1048576 : Int) < (xs2.length : Int) := by omega
  have SZ := fun w' => szRow_any s0 r0 q0 xs0.length c0 w' hlen0
  by_cases hl0 : xs0.length ≤ 1048576
  case neg =>
    rw [if_neg hl0] at SZ
    replace SZ := Lib.hid SZ
    obtain ⟨a0', a1', a2', -⟩ := E_0.out.box.three
    go_enter Try.func4, Try.ntmps4
    go_wp2_with fail
    refine (SZ.out _).mono ?_
    rintro e w1 ⟨rfl, hb1⟩
    have E1 := Lib.hid (E_0.out.next hb1)
    clear a0' a1' a2'
    go_wp2_with fail
    go_ret
    exact ⟨rfl, E1.out.bel⟩
  rw [if_pos hl0] at SZ
  have h0 : ¬ (1048576 - (xs0.length : Int) < 0) := by omega
  have SU := fun w' => szRule_any s1 q1 xs1.length c1 (1048576 - (xs0.length : Int)) w' hlen1 (by omega)
  by_cases hl1' : (xs1.length : Int) ≤ 1048576 - (xs0.length : Int)
  case neg =>
    rw [if_neg hl1'] at SU
    replace SZ := Lib.hid SZ
    replace SU := Lib.hid SU
    obtain ⟨a0', a1', a2', -⟩ := E_0.out.box.three
    clear hl1'
    go_enter Try.func4, Try.ntmps4
    go_wp2_with fail
    refine (SZ.out _).mono ?_
    rintro e w1 ⟨rfl, hb1⟩
    have E1 := Lib.hid (E_0.out.next hb1)
    have U1 := Lib.hid (U_0.out.next hb1)
    obtain ⟨b0', b1', -⟩ := U1.out.box.two
    clear a0' a1' a2'
    go_wp2_with fail
    refine (SU.out _).mono ?_
    rintro e w2 ⟨rfl, hb2⟩
    have E2 := Lib.hid (E1.out.next hb2)
    clear b0' b1'
    go_wp2_with fail
    go_ret
    exact ⟨rfl, E2.out.bel⟩
  rw [if_pos hl1'] at SU
  have hl1 : xs1.length ≤ 1048576 := by omega
  have h1 : ¬ (1048576 - (xs0.length : Int) - (xs1.length : Int) < 0) := by omega
  obtain ⟨y0, y1, S, I⟩ := kindsFit_both s0 r0 xs0 s1 xs1 xs2
  replace S := Lib.hid S
  replace I := Lib.hid I
  replace SZ := Lib.hid SZ
  replace SU := Lib.hid SU
  obtain ⟨a0', a1', a2', -⟩ := E_0.out.box.three
  clear hl1'
  go_enter Try.func4, Try.ntmps4
  go_wp2_with fail
  refine (SZ.out _).mono ?_
  rintro e w1 ⟨rfl, hb⟩
  have E_1 := Lib.hid (E_0.out.next hb)
  have U_1 := Lib.hid (U_0.out.next hb)
  have N_1 := Lib.hid (N_0.out.bel hb)
  obtain ⟨b0', b1', -⟩ := U_1.out.box.two
  clear a0' a1' a2' E_0 U_0 N_0 SZ hb
  go_wp2_with fail
  refine (SU.out _).mono ?_
  rintro e w2 ⟨rfl, hb⟩
  have E_2 := Lib.hid (E_1.out.next hb)
  have U_2 := Lib.hid (U_1.out.next hb)
  have N_2 := Lib.hid (N_1.out.bel hb)
  clear b0' b1' E_1 U_1 N_1 SU hb
  obtain ⟨a0, a1, a2, -⟩ := E_2.out.box.three
  obtain ⟨b0, b1, -⟩ := U_2.out.box.two
  go_upto_region 10 with fail
  go_cut [8, 9] (fun v u wx => v = .bool y0 ∧ u = .bool y1 ∧ Hid (Below w2.heap.size w2 wx))
  case first =>
    have HD0 := Lib.hid ((Below.refl w2.heap.size w2).drew)
    have TA := Lib.hid (fun (w' : World) (h' : Below w2.heap.size w2 w') => toRow_any s0 r0 q0 c0 xs0 w' _ _ (E_2.out.next h').inn hl0)
    have TB := Lib.hid (fun (w' : World) (h' : Below w2.heap.size w2 w') => toRule_any s1 q1 c1 xs1 w' _ _ (U_2.out.next h').inn hl1)
    have TC := Lib.hid (fun (w' : World) (h' : Below w2.heap.size w2 w') => toI_any q2 c2 xs2 w' _ _ (N_2.out.bel h') hl2)
    have CEL : Hid (∀ w', Below w2.heap.size w2 w' → w'.cell? ⟨w.heap.size, 0, none⟩ = some (.int .i64 s0) ∧ w'.cell? ⟨w.heap.size, 1, none⟩ = some (.bool r0) ∧ w'.cell? ⟨w.heap.size, 2, none⟩ = some (.slice q0 xs0.length c0) ∧ w'.cell? ⟨w.heap.size + 1, 0, none⟩ = some (.int .i64 s1) ∧ w'.cell? ⟨w.heap.size + 1, 1, none⟩ = some (.slice q1 xs1.length c1)) := by
      intro w' h'
      obtain ⟨e0, e1, e2, -⟩ := (E_2.out.next h').box.three
      obtain ⟨e3, e4, -⟩ := (U_2.out.next h').box.two
      exact ⟨e0, e1, e2, e3, e4⟩
    have S0' := CEL.out w2.drew HD0.out
    clear a0 a1 a2 b0 b1
    go_region_held3 (fun w' => w'.cell? ⟨w.heap.size, 0, none⟩ = some (.int .i64 s0) ∧ w'.cell? ⟨w.heap.size, 1, none⟩ = some (.bool r0) ∧ w'.cell? ⟨w.heap.size, 2, none⟩ = some (.slice q0 xs0.length c0) ∧ w'.cell? ⟨w.heap.size + 1, 0, none⟩ = some (.int .i64 s1) ∧ w'.cell? ⟨w.heap.size + 1, 1, none⟩ = some (.slice q1 xs1.length c1)) ((first | exact S0' | exact S1' | exact S2' | exact S3' | exact S4')) (first
      | (go_at_call 15; refine (TA.out _ HD0.out).mono ?_; rintro e wA ⟨bA, hmA, hnA, rfl, hoA, hbA⟩; have HB1 := Lib.hid (HD0.out.trans (hbA.mono HD0.out.size)); have PA := Lib.hid (Rd.of_own hoA (Nat.zero_le _) hnA (Nat.le_refl _) xs0.length); rw [List.take_of_length_le (by rw [iv_length]; exact Nat.le_refl _)] at PA; have S1' := CEL.out wA HB1.out; clear hmA hnA hoA hbA TA)
      | (go_at_call 10; refine (TB.out _ HB1.out).mono ?_; rintro e wB ⟨bB, hmB, hnB, rfl, hoB, hbB⟩; have HB2 := Lib.hid (HB1.out.trans (hbB.mono HB1.out.size)); have PB := Lib.hid (Rd.of_own hoB (Nat.zero_le _) hnB (Nat.le_refl _) xs1.length); rw [List.take_of_length_le (by rw [iv_length]; exact Nat.le_refl _)] at PB; have PA2 := Lib.hid (PA.out.bel hbB); have S2' := CEL.out wB HB2.out; clear hmB hnB hoB hbB TB)
      | (go_at_call 16; refine (TC.out _ HB2.out).mono ?_; rintro e wC ⟨bC, hmC, hnC, rfl, hoC, hbC⟩; have HB3 := Lib.hid (HB2.out.trans (hbC.mono HB2.out.size)); have PC := Lib.hid (Rd.of_own hoC (Nat.zero_le _) hnC (Nat.le_refl _) xs2.length); rw [List.take_of_length_le (by rw [iv_length]; exact Nat.le_refl _)] at PC; have PA3 := Lib.hid (PA2.out.bel hbC); have PB3 := Lib.hid (PB.out.bel hbC); have S3' := CEL.out wC HB3.out; clear hmC hnC hoC hbC TC)
      | (go_at_call 14; refine (S.out _ _ _ _ _ _ _ _ _ _ _ _ _ PA3.out PB3.out PC.out hl0 hl1 hl2).mono ?_; rintro e wD ⟨rfl, hbD⟩; have HB4 := Lib.hid (HB3.out.trans (hbD.mono HB3.out.size)); have S4' := CEL.out wD HB4.out; clear hbD))
    all_goals
      go_wp2_with fail
      go_meet
      exact ⟨rfl, rfl, HB4⟩
  case rest =>
  obtain ⟨rfl, rfl, HW⟩ := hcut
  obtain ⟨w3, rfl⟩ : ∃ w3 : World, w3 = wc := ⟨_, rfl⟩
  have E_3 := Lib.hid (E_2.out.next HW.out)
  have U_3 := Lib.hid (U_2.out.next HW.out)
  have N_3 := Lib.hid (N_2.out.bel HW.out)
  clear E_2 U_2 N_2 HW S a0 a1 a2 b0 b1
  obtain ⟨a0, a1, a2, -⟩ := E_3.out.box.three
  go_wp2_with fail
  refine (toRow_any s0 r0 q0 c0 xs0 _ _ _ E_3.out.inn hl0).mono ?_
  rintro e w4 ⟨b4, hm4, hn4, rfl, ho4, hb⟩
  have hbx := (Below.refl _ w4).alloc (Nat.le_refl _) (.cells #[.int .i64 s0, .bool r0, .slice (some ⟨b4, 0, none⟩) xs0.length xs0.length] 36)
  have C_5 := Lib.hid (Cpy.made (s := s0) (ring := r0) ho4 hm4)
  have E_5 := Lib.hid ((E_3.out.next hb).next hbx)
  have U_5 := Lib.hid ((U_3.out.next hb).next hbx)
  have N_5 := Lib.hid ((N_3.out.bel hb).bel hbx)
  clear E_3 U_3 N_3 hb hbx ho4 a0 a1 a2
  obtain ⟨b0, b1, -⟩ := U_5.out.box.two
  go_wp2_with fail
  refine (toRule_any s1 q1 c1 xs1 _ _ _ U_5.out.inn hl1).mono ?_
  rintro e w6 ⟨b6, hm6, hn6, rfl, ho6, hb⟩
  have hbx := (Below.refl _ w6).alloc (Nat.le_refl _) (.cells #[.int .i64 s1, .slice (some ⟨b6, 0, none⟩) xs1.length xs1.length] 27)
  have V_7 := Lib.hid (CpyU.made (s := s1) ho6 hm6)
  have C_7 := Lib.hid ((C_5.out.next hb).next hbx)
  have E_7 := Lib.hid ((E_5.out.next hb).next hbx)
  have U_7 := Lib.hid ((U_5.out.next hb).next hbx)
  have N_7 := Lib.hid ((N_5.out.bel hb).bel hbx)
  clear C_5 E_5 U_5 N_5 hb hbx ho6 b0 b1
  go_wp2_with fail
  refine (toI_any q2 c2 xs2 _ _ _ N_7.out hl2).mono ?_
  rintro e w8 ⟨b8, hm8, hn8, rfl, ho8, hb⟩
  have D_8 : Hid (Lcp _ w8.heap.size b8 xs2 w8) := ⟨ho8, hm8, hn8, Nat.le_refl _⟩
  have C_8 := Lib.hid (C_7.out.next hb)
  have V_8 := Lib.hid (V_7.out.next hb)
  have E_8 := Lib.hid (E_7.out.next hb)
  have U_8 := Lib.hid (U_7.out.next hb)
  have N_8 := Lib.hid (N_7.out.bel hb)
  clear C_7 V_7 E_7 U_7 N_7 hb ho8
  obtain ⟨x0, x1, x2, -⟩ := C_8.out.box.three
  obtain ⟨z0, z1, -⟩ := V_8.out.box.two
  go_wp2_with fail
  refine (I.out _ _ _ _ _ _ _ _ _ _ _ _ _ C_8.out.ri V_8.out.ri D_8.out.ri hl0 hl1 hl2).mono ?_
  rintro e w9 ⟨rfl, hb⟩
  have D_9 := Lib.hid (D_8.out.next hb)
  have C_9 := Lib.hid (C_8.out.next hb)
  have V_9 := Lib.hid (V_8.out.next hb)
  have E_9 := Lib.hid (E_8.out.next hb)
  have U_9 := Lib.hid (U_8.out.next hb)
  have N_9 := Lib.hid (N_8.out.bel hb)
  clear C_8 V_8 E_8 U_8 N_8 D_8 hb I x0 x1 x2 z0 z1
  obtain ⟨a0, a1, a2, -⟩ := E_9.out.box.three
  obtain ⟨x0, x1, x2, -⟩ := C_9.out.box.three
  go_upto_region 17 with fail
  go_cut [63] (fun v wx => v = .bool false ∧ Hid (Below w9.heap.size w9 wx))
  case first =>
    have hE := E_9.out.next ((Below.refl _ w9).drew)
    have hC := C_9.out.next ((Below.refl _ w9).drew)
    have T6 := Lib.hid (toRow_any s0 r0 q0 c0 xs0 w9.drew _ _ hE.inn hl0)
    have HC := Lib.hid hC
    have HW := Lib.hid ((Below.refl w9.heap.size w9).drew)
    clear hE hC
    go_region_with (first
      | (go_at_call 15; refine T6.out.mono ?_; rintro e wx ⟨bz, hmz, hnz, rfl, hoz, hbz⟩; have HW8 := Lib.hid (HW.out.trans hbz); have CX := Lib.hid (HC.out.next hbz); have PX := Lib.hid (Rd.of_own hoz hmz hnz (Nat.le_refl _) xs0.length); rw [List.take_of_length_le (by rw [iv_length]; exact Nat.le_refl _)] at PX; obtain ⟨d0, d1, d2, -⟩ := CX.out.box.three; clear hoz hbz)
      | (go_at_call 18; refine (eqRow_same s0 r0 _ _ _ _ xs0 _ _ _ _ _ CX.out.ri PX.out hlen0).mono ?_; rintro e wy ⟨rfl, hby⟩; have HW9 := Lib.hid (HW8.out.trans (hby.mono HW8.out.size))))
    all_goals
      go_wp2_with fail
      go_meet
      exact ⟨rfl, HW9⟩
  case rest =>
  obtain ⟨rfl, HW⟩ := hcut
  obtain ⟨w10, rfl⟩ : ∃ w10 : World, w10 = wc := ⟨_, rfl⟩
  have D_10 := Lib.hid (D_9.out.next HW.out)
  have V_10 := Lib.hid (V_9.out.next HW.out)
  have E_10 := Lib.hid (E_9.out.next HW.out)
  have U_10 := Lib.hid (U_9.out.next HW.out)
  have N_10 := Lib.hid (N_9.out.bel HW.out)
  clear C_9 V_9 E_9 U_9 N_9 D_9 HW a0 a1 a2 x0 x1 x2
  obtain ⟨b0, b1, -⟩ := U_10.out.box.two
  obtain ⟨z0, z1, -⟩ := V_10.out.box.two
  go_upto_region 19 with fail
  go_cut [68] (fun v wx => v = .bool false ∧ Hid (Below w10.heap.size w10 wx))
  case first =>
    have hE := U_10.out.next ((Below.refl _ w10).drew)
    have hC := V_10.out.next ((Below.refl _ w10).drew)
    have T6 := Lib.hid (toRule_any s1 q1 c1 xs1 w10.drew _ _ hE.inn hl1)
    have HC := Lib.hid hC
    have HW := Lib.hid ((Below.refl w10.heap.size w10).drew)
    clear hE hC
    go_region_with (first
      | (go_at_call 10; refine T6.out.mono ?_; rintro e wx ⟨bz, hmz, hnz, rfl, hoz, hbz⟩; have HW8 := Lib.hid (HW.out.trans hbz); have CX := Lib.hid (HC.out.next hbz); have PX := Lib.hid (Rd.of_own hoz hmz hnz (Nat.le_refl _) xs1.length); rw [List.take_of_length_le (by rw [iv_length]; exact Nat.le_refl _)] at PX; obtain ⟨d0, d1, -⟩ := CX.out.box.two; clear hoz hbz)
      | (go_at_call 12; refine (eqRule_same s1 _ _ _ _ xs1 _ _ _ _ _ CX.out.ri PX.out hlen1).mono ?_; rintro e wy ⟨rfl, hby⟩; have HW9 := Lib.hid (HW8.out.trans (hby.mono HW8.out.size))))
    all_goals
      go_wp2_with fail
      go_meet
      exact ⟨rfl, HW9⟩
  case rest =>
  obtain ⟨rfl, HW⟩ := hcut
  obtain ⟨w11, rfl⟩ : ∃ w11 : World, w11 = wc := ⟨_, rfl⟩
  have D_11 := Lib.hid (D_10.out.next HW.out)
  have E_11 := Lib.hid (E_10.out.next HW.out)
  have N_11 := Lib.hid (N_10.out.bel HW.out)
  clear V_10 E_10 U_10 N_10 D_10 HW b0 b1 z0 z1
  go_wp2_with fail
  refine (toI_any q2 c2 xs2 _ _ _ N_11.out hl2).mono ?_
  rintro e w12 ⟨by1, hmy, hny, rfl, hoy, hb⟩
  have D_12 := Lib.hid (D_11.out.next hb)
  have E_12 := Lib.hid (E_11.out.next hb)
  have Y1 := Lib.hid (Rd.of_own hoy hmy hny (Nat.le_refl _) xs2.length)
  rw [List.take_of_length_le (by rw [iv_length]; exact Nat.le_refl _)] at Y1
  clear hoy hmy hny D_11 E_11 N_11 hb
  go_wp2_with fail
  refine (eqI_same _ _ _ _ xs2 _ _ _ _ _ D_12.out.ri Y1.out (by omega)).mono ?_
  rintro e w13 ⟨rfl, hb⟩
  have E_13 := Lib.hid (E_12.out.next hb)
  clear Y1 D_12 E_12 hb
  go_wp2_with fail
  go_ret
  exact ⟨rfl, E_13.out.bel⟩
end Go.Proofs.Ytlknghghefiokaa.kindsFit
