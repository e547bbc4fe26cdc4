/- FnExactFewestGuards's walk: for all arguments both functions give the same, in memory of the call's own. -/
import Derived.Test.YtogdiahojbonaaaFgdI9
import Derived.Test.YtogdiahojbonaaaLst
import Derived.Test.YtogdiahojbonaaaRowLaw
import Derived.Test.YtogdiahojbonaaaHeldRow
import Derived.Deep.DeepCutAuto
import Derived.Deep.RegionWith
namespace Go.Proofs.Ytogdiahojbonaaa.fewestGuards
open Go.RowKit

set_option maxRecDepth 4000 in
set_option maxHeartbeats 8000000 in
theorem walk (s0 : Int) (r0 : Bool) (q0 : Option Addr) (c0 : Nat) (xs0 : List Int) (a1 : Int) (w : World) (hin0 : Ri 0 w.heap.size w q0 xs0) (hlen0 : xs0.length ≤ 9223372036854775807) (_ : -9223372036854775808 ≤ s0 ∧ s0 ≤ 9223372036854775807) (_ : ∀ x ∈ xs0, -9223372036854775808 ≤ x ∧ x ≤ 9223372036854775807) (_ : -9223372036854775808 ≤ a1 ∧ a1 ≤ 9223372036854775807) :
    Calls Try.prog 3 #[rowV s0 r0 q0 xs0.length c0, .int .i64 a1] w fun e w' => e = .returned (.bool true) ∧ Below w.heap.size w w' := by
  have E_0 := Lib.hid (Env.start (s := s0) (ring := r0) (cap := c0) hin0)
  have SZ := fun w' => szRow_any s0 r0 q0 xs0.length c0 w' hlen0
  clear hin0
  by_cases hl0 : xs0.length ≤ 1048576
  case neg =>
    rw [if_neg hl0] at SZ
    replace SZ := Lib.hid SZ
    go_enter Try.func3, Try.ntmps3
    go_wp2_with fail
    refine (SZ.out _).mono ?_
    rintro e w1 ⟨rfl, hb1⟩
    have E1 := Lib.hid (E_0.out.next hb1)
    go_wp2_with fail
    go_ret
    exact ⟨rfl, E1.out.bel⟩
  rw [if_pos hl0] at SZ
  replace SZ := Lib.hid SZ
  have h0 : ¬ (1048576 - (xs0.length : Int) < 0) := by omega
  obtain ⟨x0, L1, y2, hL1, S, I⟩ := fewestGuards_both s0 r0 xs0 a1
  replace S := Lib.hid S
  replace I := Lib.hid I
  obtain ⟨n1, hn1⟩ : ∃ n, L1.length = n := ⟨_, rfl⟩
  rw [hn1] at hL1
  replace hn1 := Lib.hid hn1
  go_enter Try.func3, Try.ntmps3
  go_wp2_with fail
  refine (SZ.out _).mono ?_
  rintro e w1 ⟨rfl, hb⟩
  have E_1 := Lib.hid (E_0.out.next hb)
  clear E_0 hb SZ
  obtain ⟨a0', a1', a2', -⟩ := E_1.out.box.three
  go_wp2_with fail
  refine (toRow_any s0 r0 q0 c0 xs0 _ _ _ E_1.out.inn hl0).mono ?_
  rintro e w2 ⟨bs0, hms0, hns0', rfl, hos0, hb⟩
  clear a0' a1' a2'
  have E_2 := Lib.hid (E_1.out.next hb)
  clear E_1 hb
  have Ks0 := Lib.hid (Rd.of_own hos0 hms0 hns0' (Nat.le_refl _) xs0.length)
  rw [List.take_of_length_le (by rw [iv_length]; exact Nat.le_refl _)] at Ks0
  clear hos0 hms0 hns0'
  go_wp2_with fail
  refine (S.out _ _ _ _ _ Ks0.out hl0 (Nat.le_refl _) (by unfold maxLen; omega)).mono ?_
  rintro e w3 ⟨v1', rfl, hO1, hb⟩
  obtain ⟨ps1, ks1, rfl, -, -, hR1, hW1⟩ := hO1.rd
  have hsqs := hb.size
  have E_3 := Lib.hid (E_2.out.next hb)
  have Ks0_3 := Lib.hid (Ks0.out.bel hb)
  clear E_2 Ks0 hb
  have Rs1 := Lib.hid hR1
  clear hO1 hR1 hW1
  rw [hn1.out]
  clear Ks0_3
  have hz0 := E_3.out.bel.size
  have hz1 := E_3.out.box.lt
  obtain ⟨a0', a1', a2', -⟩ := E_3.out.box.three
  go_wp2_with fail
  refine (toRow_any s0 r0 q0 c0 xs0 _ _ _ E_3.out.inn hl0).mono ?_
  rintro e w4 ⟨bx0, hmx, hnx, rfl, hox, hb⟩
  clear a0' a1' a2'
  have hbx := (Below.refl _ w4).alloc (Nat.le_refl _) (.cells #[.int .i64 s0, .bool r0, .slice (some ⟨bx0, 0, none⟩) xs0.length xs0.length] 28)
  have C0 := Lib.hid (Cpy.made (s := s0) (ring := r0) hox hmx)
  have hszx : w4.heap.size + 1 ≤ (w4.alloc (.cells #[.int .i64 s0, .bool r0, .slice (some ⟨bx0, 0, none⟩) xs0.length xs0.length] 28)).heap.size := by simp
  have hsux : (w4.alloc (.cells #[.int .i64 s0, .bool r0, .slice (some ⟨bx0, 0, none⟩) xs0.length xs0.length] 28)).heap.size ≤ w4.heap.size + 1 := by simp
  have hsx0 := hb.size
  clear hox hmx hnx
  have E_4 := Lib.hid (E_3.out.next hb)
  have Rs1_4 := Lib.hid (Rs1.out.bel hb)
  clear E_3 Rs1 hb
  have E_5 := Lib.hid (E_4.out.next hbx)
  have Rs1_5 := Lib.hid (Rs1_4.out.bel hbx)
  clear E_4 Rs1_4 hbx
  obtain ⟨x0', x1', x2', -⟩ := C0.out.box.three
  go_wp2_with fail
  refine (I.out _ _ _ _ _ C0.out.ri hl0 (Nat.le_refl _) (by unfold maxLen; omega)).mono ?_
  rintro e w5 ⟨v1', rfl, hO1, hb⟩
  obtain ⟨pg1, kg1, rfl, -, -, hR1, hW1⟩ := hO1.rd
  have hsqg := hb.size
  have E_6 := Lib.hid (E_5.out.next hb)
  have Rs1_6 := Lib.hid (Rs1_5.out.bel hb)
  have C0_6 := Lib.hid (C0.out.next hb)
  clear E_5 Rs1_5 C0 hb
  have Rg1 := Lib.hid hR1
  have Og1 := Lib.hid hW1
  clear hO1 hR1 hW1
  rw [hn1.out] at Og1 ⊢
  clear x0' x1' x2'
  have hzg := E_6.out.bel.size
  have EQ1 := Lib.hid (fun (qa qb : Option Addr) (ca cb : Nat) (w' : World) (l1 h1 l2 h2 : Nat) (x : Ri l1 h1 w' qa L1) (y : Ri l2 h2 w' qb L1) => eqI_same qa qb ca cb L1 w' l1 h1 l2 h2 x y (by rw [hn1.out]; omega))
  rw [hn1.out] at EQ1
  go_wp2_with fail
  refine (EQ1.out _ _ _ _ _ _ _ _ _ Rg1.out Rs1_6.out).mono ?_
  rintro e w6 ⟨rfl, hb⟩
  have E_7 := Lib.hid (E_6.out.next hb)
  have Rs1_7 := Lib.hid (Rs1_6.out.bel hb)
  have C0_7 := Lib.hid (C0_6.out.next hb)
  have Rg1_7 := Lib.hid (Rg1.out.bel hb)
  have Og1_7 := Lib.hid (Og1.out.bel hb)
  clear E_6 Rs1_6 C0_6 Rg1 Og1 hb
  obtain ⟨a0', a1', a2', -⟩ := E_7.out.box.three
  obtain ⟨x0', x1', x2', -⟩ := C0_7.out.box.three
  go_upto_region 10 with fail
  go_cut [59] (fun v wx => v = .bool false ∧ Hid (Below w6.heap.size w6 wx))
  case first =>
    have hE := E_7.out.next ((Below.refl _ w6).drew)
    have hC := C0_7.out.next ((Below.refl _ w6).drew)
    have T6 := Lib.hid (toRow_any s0 r0 q0 c0 xs0 w6.drew _ _ hE.inn hl0)
    have HC := Lib.hid hC
    have HW := Lib.hid ((Below.refl w6.heap.size w6).drew)
    clear hE hC
    go_region_with (first
      | (go_at_call 11; refine T6.out.mono ?_; rintro e wx ⟨bz, hmz, hnz, rfl, hoz, hbz⟩; have HW8 := Lib.hid (HW.out.trans hbz); have CX := Lib.hid (HC.out.next hbz); have PX := Lib.hid (Rd.of_own hoz hmz hnz (Nat.le_refl _) xs0.length); rw [List.take_of_length_le (by rw [iv_length]; exact Nat.le_refl _)] at PX; obtain ⟨d0, d1, d2, -⟩ := CX.out.box.three; clear hoz hbz)
      | (go_at_call 14; refine (eqRow_same s0 r0 _ _ _ _ xs0 _ _ _ _ _ CX.out.ri PX.out (by omega)).mono ?_; rintro e wy ⟨rfl, hby⟩; have HW9 := Lib.hid (HW8.out.trans (hby.mono HW8.out.size))))
    all_goals
      go_wp2_with fail
      go_meet
      exact ⟨rfl, HW9⟩
  case rest =>
  obtain ⟨rfl, HW⟩ := hcut
  obtain ⟨w9, rfl⟩ : ∃ w9 : World, w9 = wc := ⟨_, rfl⟩
  have hb := HW.out
  clear a0' a1' a2' x0' x1' x2' HW
  have E_8 := Lib.hid (E_7.out.next hb)
  have Rs1_8 := Lib.hid (Rs1_7.out.bel hb)
  have C0_8 := Lib.hid (C0_7.out.next hb)
  have Rg1_8 := Lib.hid (Rg1_7.out.bel hb)
  have Og1_8 := Lib.hid (Og1_7.out.bel hb)
  clear E_7 Rs1_7 C0_7 Rg1_7 Og1_7 hb
  obtain ⟨x0', x1', x2', -⟩ := C0_8.out.box.three
  have MK := Lib.hid (markRow_any s0 r0 (some ⟨bx0, 0, none⟩) _ _ xs0.length xs0.length 1 w9 C0_8.out.own (by omega))
  obtain ⟨M0, hM0⟩ : ∃ K, 1 + xs0.length = K := ⟨_, rfl⟩
  rw [hM0] at MK
  have hK0 : ¬ (M0 : Int) < 0 := by omega
  go_wp2_with fail
  refine MK.out.mono ?_
  rintro e w10 ⟨rfl, -, -, hk⟩
  clear x0' x1' x2'
  have E_9 := Lib.hid (E_8.out.keep hk (by first | omega | (simp; done) | (simp; omega)))
  have Rs1_9 := Lib.hid (Rs1_8.out.keep hk (by first | (left; omega) | (right; omega) | (left; simp; done) | (right; simp; done) | (left; simp; omega) | (right; simp; omega)))
  have Rg1_9 := Lib.hid (Rg1_8.out.keep hk (by first | (left; omega) | (right; omega) | (left; simp; done) | (right; simp; done) | (left; simp; omega) | (right; simp; omega)))
  have Og1_9 := Lib.hid (Og1_8.out.keep hk (by first | (left; omega) | (right; omega) | (left; simp; done) | (right; simp; done) | (left; simp; omega) | (right; simp; omega)))
  clear E_8 Rs1_8 Rg1_8 Og1_8 hk C0_8
  clear MK
  go_wp2_with fail
  refine (EQ1.out _ _ _ _ _ _ _ _ _ Rg1_9.out Rs1_9.out).mono ?_
  rintro e w11 ⟨rfl, hb⟩
  have E_10 := Lib.hid (E_9.out.next hb)
  have Rs1_10 := Lib.hid (Rs1_9.out.bel hb)
  have Rg1_10 := Lib.hid (Rg1_9.out.bel hb)
  have Og1_10 := Lib.hid (Og1_9.out.bel hb)
  clear E_9 Rs1_9 Rg1_9 Og1_9 hb
  clear Rg1_10
  have MI := Lib.hid (markI_any pg1 _ _ n1 kg1 1 w11 Og1_10.out (by omega))
  obtain ⟨Q1, hQ1⟩ : ∃ M, 1 + n1 = M := ⟨_, rfl⟩
  rw [hQ1] at MI
  have hQ01 : ¬ (Q1 : Int) < 0 := by omega
  go_wp2_with fail
  refine MI.out.mono ?_
  rintro e w12 ⟨rfl, hq, -, hk⟩
  have E_11 := Lib.hid (E_10.out.keep hk (by first | omega | (simp; done) | (simp; omega)))
  have Rs1_11 := Lib.hid (Rs1_10.out.keep hk (by first | (left; omega) | (right; omega) | (left; simp; done) | (right; simp; done) | (left; simp; omega) | (right; simp; omega)))
  clear E_10 Rs1_10 hk Og1_10
  have H1 := Lib.hid hq
  clear hq MI
  have HI1 := Lib.hid (fun w' (la ha : Nat) (h : Ri la ha w' pg1 (mk 1 (n1))) => heldI_any pg1 la ha n1 kg1 1 w' h (by omega))
  rw [hQ1] at HI1
  go_wp2_with fail
  refine (HI1.out _ _ _ H1.out).mono ?_
  rintro e w13 ⟨rfl, hb⟩
  have E_12 := Lib.hid (E_11.out.next hb)
  have Rs1_12 := Lib.hid (Rs1_11.out.bel hb)
  have H1_12 := Lib.hid (H1.out.bel hb)
  clear E_11 Rs1_11 H1 hb
  obtain ⟨a0', a1', a2', -⟩ := E_12.out.box.three
  go_wp2_with fail
  refine (toRow_any s0 r0 q0 c0 xs0 _ _ _ E_12.out.inn hl0).mono ?_
  rintro e w14 ⟨bh0, hmh0, hnh0', rfl, hoh0, hb⟩
  clear a0' a1' a2'
  have E_13 := Lib.hid (E_12.out.next hb)
  have Rs1_13 := Lib.hid (Rs1_12.out.bel hb)
  have H1_13 := Lib.hid (H1_12.out.bel hb)
  clear E_12 Rs1_12 H1_12 hb
  have Kh0 := Lib.hid (Rd.of_own hoh0 hmh0 hnh0' (Nat.le_refl _) xs0.length)
  rw [List.take_of_length_le (by rw [iv_length]; exact Nat.le_refl _)] at Kh0
  clear hoh0 hmh0 hnh0'
  go_wp2_with fail
  refine (I.out _ _ _ _ _ Kh0.out hl0 (Nat.le_refl _) (by unfold maxLen; omega)).mono ?_
  rintro e w15 ⟨v1', rfl, hO1, hb⟩
  obtain ⟨ph1, kh1, rfl, -, -, hR1, hW1⟩ := hO1.rd
  have hsqh := hb.size
  have E_14 := Lib.hid (E_13.out.next hb)
  have Rs1_14 := Lib.hid (Rs1_13.out.bel hb)
  have H1_14 := Lib.hid (H1_13.out.bel hb)
  have Kh0_14 := Lib.hid (Kh0.out.bel hb)
  clear E_13 Rs1_13 H1_13 Kh0 hb
  have Rh1 := Lib.hid hR1
  clear hO1 hR1 hW1
  rw [hn1.out]
  clear Kh0_14
  go_wp2_with fail
  refine (EQ1.out _ _ _ _ _ _ _ _ _ Rh1.out Rs1_14.out).mono ?_
  rintro e w16 ⟨rfl, hb⟩
  have E_15 := Lib.hid (E_14.out.next hb)
  have Rs1_15 := Lib.hid (Rs1_14.out.bel hb)
  have H1_15 := Lib.hid (H1_14.out.bel hb)
  have Rh1_15 := Lib.hid (Rh1.out.bel hb)
  clear E_14 Rs1_14 H1_14 Rh1 hb
  clear Rh1_15 Rs1_15
  go_wp2_with fail
  refine (HI1.out _ _ _ H1_15.out).mono ?_
  rintro e w17 ⟨rfl, hb⟩
  have E_16 := Lib.hid (E_15.out.next hb)
  have H1_16 := Lib.hid (H1_15.out.bel hb)
  clear E_15 H1_15 hb
  go_wp2_with fail
  go_ret
  exact ⟨rfl, E_16.out.bel⟩
end Go.Proofs.Ytogdiahojbonaaa.fewestGuards
