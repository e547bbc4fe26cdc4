/- FnExactCountSpaced's walk: for all arguments both functions give the same, in memory of the call's own. -/
import Derived.Test.YtoedcklgpmhnnaaCspB9
import Derived.Test.YtoedcklgpmhnnaaLst
import Derived.Test.YtoedcklgpmhnnaaRowLaw
import Derived.Test.YtoedcklgpmhnnaaHeldRow
import Derived.Deep.DeepCutAuto
import Derived.Deep.RegionWith
namespace Go.Proofs.Ytoedcklgpmhnnaa.countSpaced
open Go.RowKit

set_option maxRecDepth 4000 in
set_option maxHeartbeats 8000000 in
theorem walk (s0 : Int) (r0 : Bool) (q0 : Option Addr) (c0 : Nat) (xs0 : List Int) (a1 : Int) (a2 : Int) (w : World) (hin0 : Ri 0 w.heap.size w q0 xs0) (hlen0 : xs0.length ≤ 9223372036854775807) (_ : -9223372036854775808 ≤ s0 ∧ s0 ≤ 9223372036854775807) (_ : ∀ x ∈ xs0, -9223372036854775808 ≤ x ∧ x ≤ 9223372036854775807) (_ : -9223372036854775808 ≤ a1 ∧ a1 ≤ 9223372036854775807) (_ : -9223372036854775808 ≤ a2 ∧ a2 ≤ 9223372036854775807) :
    Calls Try.prog 4 #[rowV s0 r0 q0 xs0.length c0, .int .i64 a1, .int .i64 a2] w fun e w' => e = .returned (.bool true) ∧ Below w.heap.size w w' := by
  have E_0 := Lib.hid (Env.start (s := s0) (ring := r0) (cap := c0) hin0)
  have SZ := fun w' => szRow_any s0 r0 q0 xs0.length c0 w' hlen0
  clear hin0
  by_cases hl0 : xs0.length ≤ 1048576
  case neg =>
    rw [if_neg hl0] at SZ
    replace SZ := Lib.hid SZ
    go_enter Try.func4, Try.ntmps4
    go_wp2_with fail
    refine (SZ.out _).mono ?_
    rintro e w1 ⟨rfl, hb1⟩
    have E1 := Lib.hid (E_0.out.next hb1)
    go_wp2_with fail
    go_ret
    exact ⟨rfl, E1.out.bel⟩
  rw [if_pos hl0] at SZ
  replace SZ := Lib.hid SZ
  have h0 : ¬ (1048576 - (xs0.length : Int) < 0) := by omega
  obtain ⟨x0, y1, S, I⟩ := countSpaced_both s0 r0 xs0 a1 a2
  replace S := Lib.hid S
  replace I := Lib.hid I
  go_enter Try.func4, Try.ntmps4
  go_wp2_with fail
  refine (SZ.out _).mono ?_
  rintro e w1 ⟨rfl, hb⟩
  have E_1 := Lib.hid (E_0.out.next hb)
  clear E_0 hb SZ
  obtain ⟨a0', a1', a2', -⟩ := E_1.out.box.three
  go_wp2_with fail
  refine (toRow_any s0 r0 q0 c0 xs0 _ _ _ E_1.out.inn hl0).mono ?_
  rintro e w2 ⟨bs0, hms0, hns0', rfl, hos0, hb⟩
  clear a0' a1' a2'
  have E_2 := Lib.hid (E_1.out.next hb)
  clear E_1 hb
  have Ks0 := Lib.hid (Rd.of_own hos0 hms0 hns0' (Nat.le_refl _) xs0.length)
  rw [List.take_of_length_le (by rw [iv_length]; exact Nat.le_refl _)] at Ks0
  clear hos0 hms0 hns0'
  go_wp2_with fail
  refine (S.out _ _ _ _ _ Ks0.out hl0 (Nat.le_refl _) (by unfold maxLen; omega)).mono ?_
  rintro e w3 ⟨rfl, hb⟩
  have hsqs := hb.size
  have E_3 := Lib.hid (E_2.out.next hb)
  have Ks0_3 := Lib.hid (Ks0.out.bel hb)
  clear E_2 Ks0 hb
  clear Ks0_3
  have hz0 := E_3.out.bel.size
  have hz1 := E_3.out.box.lt
  obtain ⟨a0', a1', a2', -⟩ := E_3.out.box.three
  go_wp2_with fail
  refine (toRow_any s0 r0 q0 c0 xs0 _ _ _ E_3.out.inn hl0).mono ?_
  rintro e w4 ⟨bx0, hmx, hnx, rfl, hox, hb⟩
  clear a0' a1' a2'
  have hbx := (Below.refl _ w4).alloc (Nat.le_refl _) (.cells #[.int .i64 s0, .bool r0, .slice (some ⟨bx0, 0, none⟩) xs0.length xs0.length] 28)
  have C0 := Lib.hid (Cpy.made (s := s0) (ring := r0) hox hmx)
  have hszx : w4.heap.size + 1 ≤ (w4.alloc (.cells #[.int .i64 s0, .bool r0, .slice (some ⟨bx0, 0, none⟩) xs0.length xs0.length] 28)).heap.size := by simp
  have hsux : (w4.alloc (.cells #[.int .i64 s0, .bool r0, .slice (some ⟨bx0, 0, none⟩) xs0.length xs0.length] 28)).heap.size ≤ w4.heap.size + 1 := by simp
  have hsx0 := hb.size
  clear hox hmx hnx
  have E_4 := Lib.hid (E_3.out.next hb)
  clear E_3 hb
  have E_5 := Lib.hid (E_4.out.next hbx)
  clear E_4 hbx
  obtain ⟨x0', x1', x2', -⟩ := C0.out.box.three
  go_wp2_with fail
  refine (I.out _ _ _ _ _ C0.out.ri hl0 (Nat.le_refl _) (by unfold maxLen; omega)).mono ?_
  rintro e w5 ⟨rfl, hb⟩
  have hsqg := hb.size
  have E_6 := Lib.hid (E_5.out.next hb)
  have C0_6 := Lib.hid (C0.out.next hb)
  clear E_5 C0 hb
  clear x0' x1' x2'
  have hzg := E_6.out.bel.size
  go_wp2_with fail
  obtain ⟨a0', a1', a2', -⟩ := E_6.out.box.three
  obtain ⟨x0', x1', x2', -⟩ := C0_6.out.box.three
  go_upto_region 10 with fail
  go_cut [47] (fun v wx => v = .bool false ∧ Hid (Below w5.heap.size w5 wx))
  case first =>
    have hE := E_6.out.next ((Below.refl _ w5).drew)
    have hC := C0_6.out.next ((Below.refl _ w5).drew)
    have T6 := Lib.hid (toRow_any s0 r0 q0 c0 xs0 w5.drew _ _ hE.inn hl0)
    have HC := Lib.hid hC
    have HW := Lib.hid ((Below.refl w5.heap.size w5).drew)
    clear hE hC
    go_region_with (first
      | (go_at_call 11; refine T6.out.mono ?_; rintro e wx ⟨bz, hmz, hnz, rfl, hoz, hbz⟩; have HW8 := Lib.hid (HW.out.trans hbz); have CX := Lib.hid (HC.out.next hbz); have PX := Lib.hid (Rd.of_own hoz hmz hnz (Nat.le_refl _) xs0.length); rw [List.take_of_length_le (by rw [iv_length]; exact Nat.le_refl _)] at PX; obtain ⟨d0, d1, d2, -⟩ := CX.out.box.three; clear hoz hbz)
      | (go_at_call 14; refine (eqRow_same s0 r0 _ _ _ _ xs0 _ _ _ _ _ CX.out.ri PX.out (by omega)).mono ?_; rintro e wy ⟨rfl, hby⟩; have HW9 := Lib.hid (HW8.out.trans (hby.mono HW8.out.size))))
    all_goals
      go_wp2_with fail
      go_meet
      exact ⟨rfl, HW9⟩
  case rest =>
  obtain ⟨rfl, HW⟩ := hcut
  obtain ⟨w8, rfl⟩ : ∃ w8 : World, w8 = wc := ⟨_, rfl⟩
  have hb := HW.out
  clear a0' a1' a2' x0' x1' x2' HW
  have E_7 := Lib.hid (E_6.out.next hb)
  have C0_7 := Lib.hid (C0_6.out.next hb)
  clear E_6 C0_6 hb
  go_wp2_with fail
  go_ret
  exact ⟨rfl, E_7.out.bel⟩
end Go.Proofs.Ytoedcklgpmhnnaa.countSpaced
