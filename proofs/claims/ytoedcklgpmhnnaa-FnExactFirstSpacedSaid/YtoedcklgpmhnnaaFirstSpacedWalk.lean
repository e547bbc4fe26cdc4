/- FnExactFirstSpaced's walk: for all arguments both functions give the same, in memory of the call's own. -/
import Derived.Test.YtoedcklgpmhnnaaSpbI9
import Derived.Test.YtoedcklgpmhnnaaLst
import Derived.Test.YtoedcklgpmhnnaaRowLaw
import Derived.Test.YtoedcklgpmhnnaaHeldRow
import Derived.Deep.DeepCutAuto
import Derived.Deep.RegionWith
namespace Go.Proofs.Ytoedcklgpmhnnaa.firstSpaced
open Go.RowKit

set_option maxRecDepth 4000 in
set_option maxHeartbeats 8000000 in
theorem walk (s0 : Int) (r0 : Bool) (q0 : Option Addr) (c0 : Nat) (xs0 : List Int) (a1 : Int) (a2 : Int) (w : World) (hin0 : Ri 0 w.heap.size w q0 xs0) (hlen0 : xs0.length ≤ 9223372036854775807) (_ : -9223372036854775808 ≤ s0 ∧ s0 ≤ 9223372036854775807) (_ : ∀ x ∈ xs0, -9223372036854775808 ≤ x ∧ x ≤ 9223372036854775807) (_ : -9223372036854775808 ≤ a1 ∧ a1 ≤ 9223372036854775807) (_ : -9223372036854775808 ≤ a2 ∧ a2 ≤ 9223372036854775807) :
    Calls Try.prog 5 #[rowV s0 r0 q0 xs0.length c0, .int .i64 a1, .int .i64 a2] w fun e w' => e = .returned (.bool true) ∧ Below w.heap.size w w' := by
  have E_0 := Lib.hid (Env.start (s := s0) (ring := r0) (cap := c0) hin0)
  have SZ := fun w' => szRow_any s0 r0 q0 xs0.length c0 w' hlen0
  clear hin0
  by_cases hl0 : xs0.length ≤ 1048576
  case neg =>
    rw [if_neg hl0] at SZ
    replace SZ := Lib.hid SZ
    go_enter Try.func5, Try.ntmps5
    go_wp2_with fail
    refine (SZ.out _).mono ?_
    rintro e w1 ⟨rfl, hb1⟩
    have E1 := Lib.hid (E_0.out.next hb1)
    go_wp2_with fail
    go_ret
    exact ⟨rfl, E1.out.bel⟩
  rw [if_pos hl0] at SZ
  replace SZ := Lib.hid SZ
  have h0 : ¬ (1048576 - (xs0.length : Int) < 0) := by omega
  obtain ⟨L0, y1, hL0, S, I⟩ := firstSpaced_both s0 r0 xs0 a1 a2
  replace S := Lib.hid S
  replace I := Lib.hid I
  obtain ⟨n0, hn0⟩ : ∃ n, L0.length = n := ⟨_, rfl⟩
  rw [hn0] at hL0
  replace hn0 := Lib.hid hn0
  go_enter Try.func5, Try.ntmps5
  go_wp2_with fail
  refine (SZ.out _).mono ?_
  rintro e w1 ⟨rfl, hb⟩
  have E_1 := Lib.hid (E_0.out.next hb)
  clear E_0 hb SZ
  obtain ⟨a0', a1', a2', -⟩ := E_1.out.box.three
  go_wp2_with fail
  refine (toRow_any s0 r0 q0 c0 xs0 _ _ _ E_1.out.inn hl0).mono ?_
  rintro e w2 ⟨bs0, hms0, hns0', rfl, hos0, hb⟩
  clear a0' a1' a2'
  have E_2 := Lib.hid (E_1.out.next hb)
  clear E_1 hb
  have Ks0 := Lib.hid (Rd.of_own hos0 hms0 hns0' (Nat.le_refl _) xs0.length)
  rw [List.take_of_length_le (by rw [iv_length]; exact Nat.le_refl _)] at Ks0
  clear hos0 hms0 hns0'
  go_wp2_with fail
  refine (S.out _ _ _ _ _ Ks0.out hl0 (Nat.le_refl _) (by unfold maxLen; omega)).mono ?_
  rintro e w3 ⟨v0', rfl, hO0, hb⟩
  obtain ⟨ps0, ks0, rfl, -, -, hR0, hW0⟩ := hO0.rd
  have hsqs := hb.size
  have E_3 := Lib.hid (E_2.out.next hb)
  have Ks0_3 := Lib.hid (Ks0.out.bel hb)
  clear E_2 Ks0 hb
  have Rs0 := Lib.hid hR0
  clear hO0 hR0 hW0
  rw [hn0.out]
  clear Ks0_3
  have hz0 := E_3.out.bel.size
  have hz1 := E_3.out.box.lt
  obtain ⟨a0', a1', a2', -⟩ := E_3.out.box.three
  go_wp2_with fail
  refine (toRow_any s0 r0 q0 c0 xs0 _ _ _ E_3.out.inn hl0).mono ?_
  rintro e w4 ⟨bx0, hmx, hnx, rfl, hox, hb⟩
  clear a0' a1' a2'
  have hbx := (Below.refl _ w4).alloc (Nat.le_refl _) (.cells #[.int .i64 s0, .bool r0, .slice (some ⟨bx0, 0, none⟩) xs0.length xs0.length] 28)
  have C0 := Lib.hid (Cpy.made (s := s0) (ring := r0) hox hmx)
  have hszx : w4.heap.size + 1 ≤ (w4.alloc (.cells #[.int .i64 s0, .bool r0, .slice (some ⟨bx0, 0, none⟩) xs0.length xs0.length] 28)).heap.size := by simp
  have hsux : (w4.alloc (.cells #[.int .i64 s0, .bool r0, .slice (some ⟨bx0, 0, none⟩) xs0.length xs0.length] 28)).heap.size ≤ w4.heap.size + 1 := by simp
  have hsx0 := hb.size
  clear hox hmx hnx
  have E_4 := Lib.hid (E_3.out.next hb)
  have Rs0_4 := Lib.hid (Rs0.out.bel hb)
  clear E_3 Rs0 hb
  have E_5 := Lib.hid (E_4.out.next hbx)
  have Rs0_5 := Lib.hid (Rs0_4.out.bel hbx)
  clear E_4 Rs0_4 hbx
  obtain ⟨x0', x1', x2', -⟩ := C0.out.box.three
  go_wp2_with fail
  refine (I.out _ _ _ _ _ C0.out.ri hl0 (Nat.le_refl _) (by unfold maxLen; omega)).mono ?_
  rintro e w5 ⟨v0', rfl, hO0, hb⟩
  obtain ⟨pg0, kg0, rfl, -, -, hR0, hW0⟩ := hO0.rd
  have hsqg := hb.size
  have E_6 := Lib.hid (E_5.out.next hb)
  have Rs0_6 := Lib.hid (Rs0_5.out.bel hb)
  have C0_6 := Lib.hid (C0.out.next hb)
  clear E_5 Rs0_5 C0 hb
  have Rg0 := Lib.hid hR0
  have Og0 := Lib.hid hW0
  clear hO0 hR0 hW0
  rw [hn0.out] at Og0 ⊢
  clear x0' x1' x2'
  have hzg := E_6.out.bel.size
  have EQ0 := Lib.hid (fun (qa qb : Option Addr) (ca cb : Nat) (w' : World) (l1 h1 l2 h2 : Nat) (x : Ri l1 h1 w' qa L0) (y : Ri l2 h2 w' qb L0) => eqI_same qa qb ca cb L0 w' l1 h1 l2 h2 x y (by rw [hn0.out]; omega))
  rw [hn0.out] at EQ0
  go_wp2_with fail
  refine (EQ0.out _ _ _ _ _ _ _ _ _ Rg0.out Rs0_6.out).mono ?_
  rintro e w6 ⟨rfl, hb⟩
  have E_7 := Lib.hid (E_6.out.next hb)
  have Rs0_7 := Lib.hid (Rs0_6.out.bel hb)
  have C0_7 := Lib.hid (C0_6.out.next hb)
  have Rg0_7 := Lib.hid (Rg0.out.bel hb)
  have Og0_7 := Lib.hid (Og0.out.bel hb)
  clear E_6 Rs0_6 C0_6 Rg0 Og0 hb
  obtain ⟨a0', a1', a2', -⟩ := E_7.out.box.three
  obtain ⟨x0', x1', x2', -⟩ := C0_7.out.box.three
  go_upto_region 10 with fail
  go_cut [53] (fun v wx => v = .bool false ∧ Hid (Below w6.heap.size w6 wx))
  case first =>
    have hE := E_7.out.next ((Below.refl _ w6).drew)
    have hC := C0_7.out.next ((Below.refl _ w6).drew)
    have T6 := Lib.hid (toRow_any s0 r0 q0 c0 xs0 w6.drew _ _ hE.inn hl0)
    have HC := Lib.hid hC
    have HW := Lib.hid ((Below.refl w6.heap.size w6).drew)
    clear hE hC
    go_region_with (first
      | (go_at_call 11; refine T6.out.mono ?_; rintro e wx ⟨bz, hmz, hnz, rfl, hoz, hbz⟩; have HW8 := Lib.hid (HW.out.trans hbz); have CX := Lib.hid (HC.out.next hbz); have PX := Lib.hid (Rd.of_own hoz hmz hnz (Nat.le_refl _) xs0.length); rw [List.take_of_length_le (by rw [iv_length]; exact Nat.le_refl _)] at PX; obtain ⟨d0, d1, d2, -⟩ := CX.out.box.three; clear hoz hbz)
      | (go_at_call 14; refine (eqRow_same s0 r0 _ _ _ _ xs0 _ _ _ _ _ CX.out.ri PX.out (by omega)).mono ?_; rintro e wy ⟨rfl, hby⟩; have HW9 := Lib.hid (HW8.out.trans (hby.mono HW8.out.size))))
    all_goals
      go_wp2_with fail
      go_meet
      exact ⟨rfl, HW9⟩
  case rest =>
  obtain ⟨rfl, HW⟩ := hcut
  obtain ⟨w9, rfl⟩ : ∃ w9 : World, w9 = wc := ⟨_, rfl⟩
  have hb := HW.out
  clear a0' a1' a2' x0' x1' x2' HW
  have E_8 := Lib.hid (E_7.out.next hb)
  have Rs0_8 := Lib.hid (Rs0_7.out.bel hb)
  have C0_8 := Lib.hid (C0_7.out.next hb)
  have Rg0_8 := Lib.hid (Rg0_7.out.bel hb)
  have Og0_8 := Lib.hid (Og0_7.out.bel hb)
  clear E_7 Rs0_7 C0_7 Rg0_7 Og0_7 hb
  obtain ⟨x0', x1', x2', -⟩ := C0_8.out.box.three
  have MK := Lib.hid (markRow_any s0 r0 (some ⟨bx0, 0, none⟩) _ _ xs0.length xs0.length 1 w9 C0_8.out.own (by omega))
  obtain ⟨M0, hM0⟩ : ∃ K, 1 + xs0.length = K := ⟨_, rfl⟩
  rw [hM0] at MK
  have hK0 : ¬ (M0 : Int) < 0 := by omega
  go_wp2_with fail
  refine MK.out.mono ?_
  rintro e w10 ⟨rfl, -, -, hk⟩
  clear x0' x1' x2'
  have E_9 := Lib.hid (E_8.out.keep hk (by first | omega | (simp; done) | (simp; omega)))
  have Rs0_9 := Lib.hid (Rs0_8.out.keep hk (by first | (left; omega) | (right; omega) | (left; simp; done) | (right; simp; done) | (left; simp; omega) | (right; simp; omega)))
  have Rg0_9 := Lib.hid (Rg0_8.out.keep hk (by first | (left; omega) | (right; omega) | (left; simp; done) | (right; simp; done) | (left; simp; omega) | (right; simp; omega)))
  have Og0_9 := Lib.hid (Og0_8.out.keep hk (by first | (left; omega) | (right; omega) | (left; simp; done) | (right; simp; done) | (left; simp; omega) | (right; simp; omega)))
  clear E_8 Rs0_8 Rg0_8 Og0_8 hk C0_8
  clear MK
  go_wp2_with fail
  refine (EQ0.out _ _ _ _ _ _ _ _ _ Rg0_9.out Rs0_9.out).mono ?_
  rintro e w11 ⟨rfl, hb⟩
  have E_10 := Lib.hid (E_9.out.next hb)
  have Rs0_10 := Lib.hid (Rs0_9.out.bel hb)
  have Rg0_10 := Lib.hid (Rg0_9.out.bel hb)
  have Og0_10 := Lib.hid (Og0_9.out.bel hb)
  clear E_9 Rs0_9 Rg0_9 Og0_9 hb
  clear Rg0_10
  have MI := Lib.hid (markI_any pg0 _ _ n0 kg0 1 w11 Og0_10.out (by omega))
  obtain ⟨Q0, hQ0⟩ : ∃ M, 1 + n0 = M := ⟨_, rfl⟩
  rw [hQ0] at MI
  have hQ00 : ¬ (Q0 : Int) < 0 := by omega
  go_wp2_with fail
  refine MI.out.mono ?_
  rintro e w12 ⟨rfl, hq, -, hk⟩
  have E_11 := Lib.hid (E_10.out.keep hk (by first | omega | (simp; done) | (simp; omega)))
  have Rs0_11 := Lib.hid (Rs0_10.out.keep hk (by first | (left; omega) | (right; omega) | (left; simp; done) | (right; simp; done) | (left; simp; omega) | (right; simp; omega)))
  clear E_10 Rs0_10 hk Og0_10
  have H0 := Lib.hid hq
  clear hq MI
  have HI0 := Lib.hid (fun w' (la ha : Nat) (h : Ri la ha w' pg0 (mk 1 (n0))) => heldI_any pg0 la ha n0 kg0 1 w' h (by omega))
  rw [hQ0] at HI0
  go_wp2_with fail
  refine (HI0.out _ _ _ H0.out).mono ?_
  rintro e w13 ⟨rfl, hb⟩
  have E_12 := Lib.hid (E_11.out.next hb)
  have Rs0_12 := Lib.hid (Rs0_11.out.bel hb)
  have H0_12 := Lib.hid (H0.out.bel hb)
  clear E_11 Rs0_11 H0 hb
  obtain ⟨a0', a1', a2', -⟩ := E_12.out.box.three
  go_wp2_with fail
  refine (toRow_any s0 r0 q0 c0 xs0 _ _ _ E_12.out.inn hl0).mono ?_
  rintro e w14 ⟨bh0, hmh0, hnh0', rfl, hoh0, hb⟩
  clear a0' a1' a2'
  have E_13 := Lib.hid (E_12.out.next hb)
  have Rs0_13 := Lib.hid (Rs0_12.out.bel hb)
  have H0_13 := Lib.hid (H0_12.out.bel hb)
  clear E_12 Rs0_12 H0_12 hb
  have Kh0 := Lib.hid (Rd.of_own hoh0 hmh0 hnh0' (Nat.le_refl _) xs0.length)
  rw [List.take_of_length_le (by rw [iv_length]; exact Nat.le_refl _)] at Kh0
  clear hoh0 hmh0 hnh0'
  go_wp2_with fail
  refine (I.out _ _ _ _ _ Kh0.out hl0 (Nat.le_refl _) (by unfold maxLen; omega)).mono ?_
  rintro e w15 ⟨v0', rfl, hO0, hb⟩
  obtain ⟨ph0, kh0, rfl, -, -, hR0, hW0⟩ := hO0.rd
  have hsqh := hb.size
  have E_14 := Lib.hid (E_13.out.next hb)
  have Rs0_14 := Lib.hid (Rs0_13.out.bel hb)
  have H0_14 := Lib.hid (H0_13.out.bel hb)
  have Kh0_14 := Lib.hid (Kh0.out.bel hb)
  clear E_13 Rs0_13 H0_13 Kh0 hb
  have Rh0 := Lib.hid hR0
  clear hO0 hR0 hW0
  rw [hn0.out]
  clear Kh0_14
  go_wp2_with fail
  refine (EQ0.out _ _ _ _ _ _ _ _ _ Rh0.out Rs0_14.out).mono ?_
  rintro e w16 ⟨rfl, hb⟩
  have E_15 := Lib.hid (E_14.out.next hb)
  have Rs0_15 := Lib.hid (Rs0_14.out.bel hb)
  have H0_15 := Lib.hid (H0_14.out.bel hb)
  have Rh0_15 := Lib.hid (Rh0.out.bel hb)
  clear E_14 Rs0_14 H0_14 Rh0 hb
  clear Rh0_15 Rs0_15
  go_wp2_with fail
  refine (HI0.out _ _ _ H0_15.out).mono ?_
  rintro e w17 ⟨rfl, hb⟩
  have E_16 := Lib.hid (E_15.out.next hb)
  have H0_16 := Lib.hid (H0_15.out.bel hb)
  clear E_15 H0_15 hb
  go_wp2_with fail
  go_ret
  exact ⟨rfl, E_16.out.bel⟩
end Go.Proofs.Ytoedcklgpmhnnaa.firstSpaced
