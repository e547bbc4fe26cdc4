/- FnExactCountPlacings's walk: for all arguments both functions give the same, in memory of the call's own. -/
import Derived.Test.YtogdiahojbonaaaFpcB9
import Derived.Test.YtogdiahojbonaaaLst
import Derived.Test.YtogdiahojbonaaaRowLaw
import Derived.Test.YtogdiahojbonaaaHeldRow
import Derived.Deep.DeepCutAuto
import Derived.Deep.RegionWith
namespace Go.Proofs.Ytogdiahojbonaaa.countPlacings
open Go.RowKit

set_option maxRecDepth 4000 in
set_option maxHeartbeats 8000000 in
theorem walk (s0 : Int) (r0 : Bool) (q0 : Option Addr) (c0 : Nat) (xs0 : List Int) (q1 : Option Addr) (c1 : Nat) (xs1 : List Int) (a2 : Int) (w : World) (hin0 : Ri 0 w.heap.size w q0 xs0) (hlen0 : xs0.length ≤ 9223372036854775807) (_ : -9223372036854775808 ≤ s0 ∧ s0 ≤ 9223372036854775807) (_ : ∀ x ∈ xs0, -9223372036854775808 ≤ x ∧ x ≤ 9223372036854775807) (hin1 : Ri 0 w.heap.size w q1 xs1) (hlen1 : xs1.length ≤ 9223372036854775807) (ha2 : -9223372036854775808 ≤ a2 ∧ a2 ≤ 9223372036854775807) :
    Calls Try.prog 7 #[rowV s0 r0 q0 xs0.length c0, .slice q1 xs1.length c1, .int .i64 a2] w fun e w' => e = .returned (.bool true) ∧ Below w.heap.size w w' := by
  have E_0 := Lib.hid (Env.start (s := s0) (ring := r0) (cap := c0) hin0)
  have SZ := fun w' => szRow_any s0 r0 q0 xs0.length c0 w' hlen0
  have N1_0 := Lib.hid (hin1.bel ((Below.refl w.heap.size w).alloc (Nat.le_refl _) (.cells #[.int .i64 s0, .bool r0, .slice q0 xs0.length c0] 24)))
  clear hin0 hin1
  by_cases hl1 : xs1.length ≤ 1048576
  case neg =>
    have hg1 : (1048576 : Int) < (xs1.length : Int) := by omega
    go_enter Try.func7, Try.ntmps7
    go_wp2_with fail
    go_ret
    exact ⟨rfl, E_0.out.bel⟩
  have hg1 : ¬ (1048576 : Int) < (xs1.length : Int) := by omega
  by_cases hl0 : xs0.length ≤ 1048576
  case neg =>
    rw [if_neg hl0] at SZ
    replace SZ := Lib.hid SZ
    go_enter Try.func7, Try.ntmps7
    go_wp2_with fail
    refine (SZ.out _).mono ?_
    rintro e w1 ⟨rfl, hb1⟩
    have E1 := Lib.hid (E_0.out.next hb1)
    go_wp2_with fail
    go_ret
    exact ⟨rfl, E1.out.bel⟩
  rw [if_pos hl0] at SZ
  replace SZ := Lib.hid SZ
  have h0 : ¬ (1048576 - (xs0.length : Int) < 0) := by omega
  obtain ⟨x0, y1, S, I0⟩ := countPlacings_both s0 r0 xs0 xs1 a2
  have I := I0 ha2.2
  clear I0
  replace S := Lib.hid S
  replace I := Lib.hid I
  go_enter Try.func7, Try.ntmps7
  go_wp2_with fail
  refine (SZ.out _).mono ?_
  rintro e w1 ⟨rfl, hb⟩
  have E_1 := Lib.hid (E_0.out.next hb)
  have N1_1 := Lib.hid (N1_0.out.bel hb)
  clear E_0 N1_0 hb SZ
  obtain ⟨a0', a1', a2', -⟩ := E_1.out.box.three
  go_wp2_with fail
  refine (toRow_any s0 r0 q0 c0 xs0 _ _ _ E_1.out.inn hl0).mono ?_
  rintro e w2 ⟨bs0, hms0, hns0', rfl, hos0, hb⟩
  clear a0' a1' a2'
  have E_2 := Lib.hid (E_1.out.next hb)
  have N1_2 := Lib.hid (N1_1.out.bel hb)
  clear E_1 N1_1 hb
  have Ks0 := Lib.hid (Rd.of_own hos0 hms0 hns0' (Nat.le_refl _) xs0.length)
  rw [List.take_of_length_le (by rw [iv_length]; exact Nat.le_refl _)] at Ks0
  clear hos0 hms0 hns0'
  go_wp2_with fail
  refine (toI_any q1 c1 xs1 _ _ _ N1_2.out hl1).mono ?_
  rintro e w3 ⟨bs1, hms1, hns1', rfl, hos1, hb⟩
  have E_3 := Lib.hid (E_2.out.next hb)
  have N1_3 := Lib.hid (N1_2.out.bel hb)
  have Ks0_3 := Lib.hid (Ks0.out.bel hb)
  clear E_2 N1_2 Ks0 hb
  have Ks1 := Lib.hid (Rd.of_own hos1 hms1 hns1' (Nat.le_refl _) xs1.length)
  rw [List.take_of_length_le (by rw [iv_length]; exact Nat.le_refl _)] at Ks1
  clear hos1 hms1 hns1'
  go_wp2_with fail
  refine (S.out _ _ _ _ _ _ _ _ _ Ks0_3.out hl0 (Nat.le_refl _) (by unfold maxLen; omega) Ks1.out hl1 (Nat.le_refl _) (by unfold maxLen; omega)).mono ?_
  rintro e w4 ⟨rfl, hb⟩
  have hsqs := hb.size
  have E_4 := Lib.hid (E_3.out.next hb)
  have N1_4 := Lib.hid (N1_3.out.bel hb)
  have Ks0_4 := Lib.hid (Ks0_3.out.bel hb)
  have Ks1_4 := Lib.hid (Ks1.out.bel hb)
  clear E_3 N1_3 Ks0_3 Ks1 hb
  clear Ks0_4
  clear Ks1_4
  have hz0 := E_4.out.bel.size
  have hz1 := E_4.out.box.lt
  obtain ⟨a0', a1', a2', -⟩ := E_4.out.box.three
  go_wp2_with fail
  refine (toRow_any s0 r0 q0 c0 xs0 _ _ _ E_4.out.inn hl0).mono ?_
  rintro e w5 ⟨bx0, hmx, hnx, rfl, hox, hb⟩
  clear a0' a1' a2'
  have hbx := (Below.refl _ w5).alloc (Nat.le_refl _) (.cells #[.int .i64 s0, .bool r0, .slice (some ⟨bx0, 0, none⟩) xs0.length xs0.length] 28)
  have C0 := Lib.hid (Cpy.made (s := s0) (ring := r0) hox hmx)
  have hszx : w5.heap.size + 1 ≤ (w5.alloc (.cells #[.int .i64 s0, .bool r0, .slice (some ⟨bx0, 0, none⟩) xs0.length xs0.length] 28)).heap.size := by simp
  have hsux : (w5.alloc (.cells #[.int .i64 s0, .bool r0, .slice (some ⟨bx0, 0, none⟩) xs0.length xs0.length] 28)).heap.size ≤ w5.heap.size + 1 := by simp
  have hsx0 := hb.size
  clear hox hmx hnx
  have E_5 := Lib.hid (E_4.out.next hb)
  have N1_5 := Lib.hid (N1_4.out.bel hb)
  clear E_4 N1_4 hb
  have E_6 := Lib.hid (E_5.out.next hbx)
  have N1_6 := Lib.hid (N1_5.out.bel hbx)
  clear E_5 N1_5 hbx
  go_wp2_with fail
  refine (toI_any q1 c1 xs1 _ _ _ N1_6.out hl1).mono ?_
  rintro e w6 ⟨bx1, hmx, hnx, rfl, hox, hb⟩
  have D1 : Hid (Lcp _ w6.heap.size bx1 xs1 w6) := ⟨hox, hmx, hnx, Nat.le_refl _⟩
  have hsx1 := hb.size
  clear hox hmx hnx
  have E_7 := Lib.hid (E_6.out.next hb)
  have N1_7 := Lib.hid (N1_6.out.bel hb)
  have C0_7 := Lib.hid (C0.out.next hb)
  clear E_6 N1_6 C0 hb
  obtain ⟨x0', x1', x2', -⟩ := C0_7.out.box.three
  go_wp2_with fail
  refine (I.out _ _ _ _ _ _ _ _ _ C0_7.out.ri hl0 (Nat.le_refl _) (by unfold maxLen; omega) D1.out.ri hl1 (Nat.le_refl _) (by unfold maxLen; omega)).mono ?_
  rintro e w7 ⟨rfl, hb⟩
  have hsqg := hb.size
  have E_8 := Lib.hid (E_7.out.next hb)
  have N1_8 := Lib.hid (N1_7.out.bel hb)
  have C0_8 := Lib.hid (C0_7.out.next hb)
  have D1_8 := Lib.hid (D1.out.next hb)
  clear E_7 N1_7 C0_7 D1 hb
  clear x0' x1' x2'
  have hzg := E_8.out.bel.size
  go_wp2_with fail
  obtain ⟨a0', a1', a2', -⟩ := E_8.out.box.three
  obtain ⟨x0', x1', x2', -⟩ := C0_8.out.box.three
  go_upto_region 13 with fail
  go_cut [54] (fun v wx => v = .bool false ∧ Hid (Below w7.heap.size w7 wx))
  case first =>
    have hE := E_8.out.next ((Below.refl _ w7).drew)
    have hC := C0_8.out.next ((Below.refl _ w7).drew)
    have T6 := Lib.hid (toRow_any s0 r0 q0 c0 xs0 w7.drew _ _ hE.inn hl0)
    have HC := Lib.hid hC
    have HW := Lib.hid ((Below.refl w7.heap.size w7).drew)
    clear hE hC
    go_region_with (first
      | (go_at_call 11; refine T6.out.mono ?_; rintro e wx ⟨bz, hmz, hnz, rfl, hoz, hbz⟩; have HW8 := Lib.hid (HW.out.trans hbz); have CX := Lib.hid (HC.out.next hbz); have PX := Lib.hid (Rd.of_own hoz hmz hnz (Nat.le_refl _) xs0.length); rw [List.take_of_length_le (by rw [iv_length]; exact Nat.le_refl _)] at PX; obtain ⟨d0, d1, d2, -⟩ := CX.out.box.three; clear hoz hbz)
      | (go_at_call 14; refine (eqRow_same s0 r0 _ _ _ _ xs0 _ _ _ _ _ CX.out.ri PX.out (by omega)).mono ?_; rintro e wy ⟨rfl, hby⟩; have HW9 := Lib.hid (HW8.out.trans (hby.mono HW8.out.size))))
    all_goals
      go_wp2_with fail
      go_meet
      exact ⟨rfl, HW9⟩
  case rest =>
  obtain ⟨rfl, HW⟩ := hcut
  obtain ⟨w10, rfl⟩ : ∃ w10 : World, w10 = wc := ⟨_, rfl⟩
  have hb := HW.out
  clear a0' a1' a2' x0' x1' x2' HW
  have E_9 := Lib.hid (E_8.out.next hb)
  have N1_9 := Lib.hid (N1_8.out.bel hb)
  have C0_9 := Lib.hid (C0_8.out.next hb)
  have D1_9 := Lib.hid (D1_8.out.next hb)
  clear E_8 N1_8 C0_8 D1_8 hb
  go_wp2_with fail
  refine (toI_any q1 c1 xs1 _ _ _ N1_9.out hl1).mono ?_
  rintro e w11 ⟨by1, hmy, hny, rfl, hoy, hb⟩
  have E_10 := Lib.hid (E_9.out.next hb)
  have N1_10 := Lib.hid (N1_9.out.bel hb)
  have C0_10 := Lib.hid (C0_9.out.next hb)
  have D1_10 := Lib.hid (D1_9.out.next hb)
  clear E_9 N1_9 C0_9 D1_9 hb
  have Y1 := Lib.hid (Rd.of_own hoy hmy hny (Nat.le_refl _) xs1.length)
  rw [List.take_of_length_le (by rw [iv_length]; exact Nat.le_refl _)] at Y1
  clear hoy hmy hny
  go_wp2_with fail
  refine (eqI_same _ _ _ _ xs1 _ _ _ _ _ D1_10.out.ri Y1.out (by omega)).mono ?_
  rintro e w12 ⟨rfl, hb⟩
  clear Y1
  have E_11 := Lib.hid (E_10.out.next hb)
  have N1_11 := Lib.hid (N1_10.out.bel hb)
  have C0_11 := Lib.hid (C0_10.out.next hb)
  have D1_11 := Lib.hid (D1_10.out.next hb)
  clear E_10 N1_10 C0_10 D1_10 hb
  go_wp2_with fail
  go_ret
  exact ⟨rfl, E_11.out.bel⟩
end Go.Proofs.Ytogdiahojbonaaa.countPlacings
