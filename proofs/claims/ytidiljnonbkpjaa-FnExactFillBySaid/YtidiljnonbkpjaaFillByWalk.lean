/- FnExactFillBy's walk: for every Row and every list both functions give the same Row, in memory of the call's own. -/
import Derived.Test.YtidiljnonbkpjaaFillByS
import Derived.Test.YtidiljnonbkpjaaRowLaw
import Derived.Test.YtidiljnonbkpjaaHeldRow
import Derived.Test.YtidiljnonbkpjaaLst
import Derived.Deep.DeepCutAuto
namespace Go.Proofs.Ytidiljnonbkpjaa.fillBy
open Go.RowKit

set_option maxRecDepth 4000 in
set_option maxHeartbeats 6000000 in
theorem walk (s : Int) (ring : Bool) (p : Option Addr) (cap : Nat) (xs : List Int) (p2 : Option Addr) (c2 : Nat) (ys : List Int) (w : World) (hin : Ri 0 w.heap.size w p xs) (hlen : xs.length ≤ 9223372036854775807) (_ : -9223372036854775808 ≤ s ∧ s ≤ 9223372036854775807) (_ : ∀ x ∈ xs, -9223372036854775808 ≤ x ∧ x ≤ 9223372036854775807) (hin2 : Ri 0 w.heap.size w p2 ys) (hlen2 : ys.length ≤ 9223372036854775807) :
    Calls Try.prog 4 #[rowV s ring p xs.length cap, .slice p2 ys.length c2] w fun e w' => e = .returned (.bool true) ∧ Below w.heap.size w w' := by
  have E0 := Env.start (s := s) (ring := ring) (cap := cap) hin
  have N00 := hin2.bel ((Below.refl w.heap.size w).alloc (Nat.le_refl _) (.cells #[.int .i64 s, .bool ring, .slice p xs.length cap] 24))
  have SZ := fun w' => szRow_any s ring p xs.length cap w' hlen
  replace E0 := Lib.hid E0
  have N0 := Lib.hid N00
  clear hin hin2 N00
  by_cases hl2 : ys.length ≤ 1048576
  case neg =>
    have hg : (1048576 : Int) < (ys.length : Int) := by omega
    go_enter Try.func4, Try.ntmps4
    go_wp2_with fail
    go_ret
    exact ⟨rfl, E0.out.bel⟩
  have hg : ¬ (1048576 : Int) < (ys.length : Int) := by omega
  by_cases hl : xs.length ≤ 1048576
  case neg =>
    rw [if_neg hl] at SZ
    replace SZ := Lib.hid SZ
    go_enter Try.func4, Try.ntmps4
    go_wp2_with fail
    refine (SZ.out _).mono ?_
    rintro e w1 ⟨rfl, hb1⟩
    have E1 := Lib.hid (E0.out.next hb1)
    go_wp2_with fail
    go_ret
    exact ⟨rfl, E1.out.bel⟩
  rw [if_pos hl] at SZ
  obtain ⟨s', ring', L, B, hL, S, I⟩ := fillBy_both s ring xs ys
  unfold MadeRow at S I
  replace S := Lib.hid S
  replace I := Lib.hid I
  replace SZ := Lib.hid SZ
  have h0 : ¬ (1048576 - (xs.length : Int) < 0) := by omega
  obtain ⟨n, hn⟩ : ∃ n, L.length = n := ⟨_, rfl⟩
  rw [hn] at hL
  replace hn := Lib.hid hn
  go_enter Try.func4, Try.ntmps4
  go_wp2_with fail
  refine (SZ.out _).mono ?_
  rintro e w1 ⟨rfl, hb1⟩
  have E1 := Lib.hid (E0.out.next hb1)
  have N1 := Lib.hid (N0.out.bel hb1)
  obtain ⟨a0, a1, a2, -⟩ := E1.out.box.three
  clear E0 N0 SZ hb1
  go_wp2_with fail
  refine (toRow_any s ring p cap xs _ _ _ E1.out.inn hl).mono ?_
  rintro e w2 ⟨b2, hm2, hn2, rfl, ho2, hb2⟩
  have E2 := Lib.hid (E1.out.next hb2)
  have N2 := Lib.hid (N1.out.bel hb2)
  have C2 : Hid (Ri w1.heap.size w2.heap.size w2 (some ⟨b2, 0, none⟩) xs) := by
    show Ri _ _ _ _ _
    have := Rd.of_own ho2 hm2 hn2 (Nat.le_refl _) xs.length
    rwa [List.take_of_length_le (by rw [iv_length]; exact Nat.le_refl _)] at this
  clear E1 N1 hb2 ho2 a0 a1 a2
  go_wp2_with fail
  refine (toI_any p2 c2 ys _ _ _ N2.out hl2).mono ?_
  rintro e w3 ⟨b3, hm3, hn3, rfl, ho3, hb3⟩
  have E3 := Lib.hid (E2.out.next hb3)
  have N3 := Lib.hid (N2.out.bel hb3)
  have C3 := Lib.hid (C2.out.bel hb3)
  have D3 : Hid (Ri w2.heap.size w3.heap.size w3 (some ⟨b3, 0, none⟩) ys) := by
    show Ri _ _ _ _ _
    have := Rd.of_own ho3 hm3 hn3 (Nat.le_refl _) ys.length
    rwa [List.take_of_length_le (by rw [iv_length]; exact Nat.le_refl _)] at this
  clear E2 N2 C2 hb3 ho3
  go_wp2_with fail
  refine (S.out _ _ _ _ _ _ _ _ _ C3.out D3.out hl hl2).mono ?_
  rintro e w4 ⟨v1, rfl, hO1, hb4⟩
  obtain ⟨q1, c1, rfl, -, -, hR1, -⟩ := hO1.rd
  have hbA := (Below.refl _ w4).alloc (Nat.le_refl _) (.cells #[.int .i64 s', .bool ring', .slice q1 L.length c1] 26)
  have E4 := Lib.hid ((E3.out.next hb4).next hbA)
  have N4 := Lib.hid ((N3.out.bel hb4).bel hbA)
  have R4 := Lib.hid (hR1.bel hbA)
  have W4 := Lib.hid (OwnArr.made w4 26 [.int .i64 s', .bool ring', .slice q1 L.length c1])
  have hA4 := (E3.out.next hb4).box.lt
  have hA5 : w.heap.size ≤ w4.heap.size := (E3.out.next hb4).bel.size
  rw [hn.out] at E4 N4 R4 W4 ⊢
  obtain ⟨a0, a1, a2, -⟩ := E4.out.box.three
  clear E3 N3 C3 D3 hb4 S hO1 hR1 hbA
  go_wp2_with fail
  refine (toRow_any s ring p cap xs _ _ _ E4.out.inn hl).mono ?_
  rintro e w5 ⟨b5, hm5, hn5, rfl, ho5, hb5⟩
  have C5 := Lib.hid (Cpy.made (s := s) (ring := ring) ho5 hm5)
  have hbx := (Below.refl _ w5).alloc (Nat.le_refl _) (.cells #[.int .i64 s, .bool ring, .slice (some ⟨b5, 0, none⟩) xs.length xs.length] 26)
  have E5 := Lib.hid ((E4.out.next hb5).next hbx)
  have N5 := Lib.hid ((N4.out.bel hb5).bel hbx)
  have R5 := Lib.hid ((R4.out.bel hb5).bel hbx)
  have W5 := Lib.hid ((W4.out.below hb5 W4.out.lt).alloc (.cells #[.int .i64 s, .bool ring, .slice (some ⟨b5, 0, none⟩) xs.length xs.length] 26))
  have h54 : w4.heap.size + 1 ≤ w5.heap.size := by have := hb5.size; simp at this; omega
  clear E4 N4 hb5 ho5 a0 a1 a2 hbx R4 W4
  go_wp2_with fail
  refine (toI_any p2 c2 ys _ _ _ N5.out hl2).mono ?_
  rintro e w6 ⟨b6, hm6, hn6, rfl, ho6, hb6⟩
  have E6 := Lib.hid (E5.out.next hb6)
  have N6 := Lib.hid (N5.out.bel hb6)
  have R6 := Lib.hid (R5.out.bel hb6)
  have W6 := Lib.hid (W5.out.below hb6 W5.out.lt)
  have C6 := Lib.hid (C5.out.next hb6)
  have D6 : Hid (Lcp (w5.heap.size + 1) w6.heap.size b6 ys w6) := ⟨ho6, by simpa using hm6, hn6, Nat.le_refl _⟩
  have h65 : w5.heap.size + 1 ≤ w6.heap.size := by have := hb6.size; simpa using this
  clear E5 N5 R5 W5 C5 hb6 ho6
  obtain ⟨x0, x1, x2, -⟩ := C6.out.box.three
  go_wp2_with fail
  refine (I.out _ _ _ _ _ _ _ _ _ C6.out.ri D6.out.ri hl hl2).mono ?_
  rintro e w7 ⟨v2, rfl, hO2, hb7⟩
  obtain ⟨q2, k2, rfl, -, -, hR2, hW2⟩ := hO2.rd
  have hbG := (Below.refl _ w7).alloc (Nat.le_refl _) (.cells #[.int .i64 s', .bool ring', .slice q2 L.length k2] 26)
  have E7 := Lib.hid ((E6.out.next hb7).next hbG)
  have N7 := Lib.hid ((N6.out.bel hb7).bel hbG)
  have C7 := Lib.hid ((C6.out.next hb7).next hbG)
  have D7 := Lib.hid ((D6.out.next hb7).next hbG)
  have R7 := Lib.hid ((R6.out.bel hb7).bel hbG)
  have W7 := Lib.hid ((W6.out.below hb7 W6.out.lt).below hbG (W6.out.below hb7 W6.out.lt).lt)
  have Q7 := Lib.hid (hR2.bel hbG)
  have O7 := Lib.hid (hW2.bel hbG)
  have G7 := Lib.hid (OwnArr.made w7 26 [.int .i64 s', .bool ring', .slice q2 L.length k2])
  have h76 : w6.heap.size ≤ w7.heap.size := hb7.size
  rw [hn.out] at E7 N7 C7 D7 R7 W7 Q7 O7 G7 ⊢
  clear E6 N6 C6 D6 hb7 hO2 hR2 hW2 R6 W6 hbG x0 x1 x2
  have EQ := Lib.hid (fun (qa qb : Option Addr) (ca cb : Nat) (w' : World) (l1 h1 l2 h2 : Nat) (x : Ri l1 h1 w' qa L) (y : Ri l2 h2 w' qb L) => eqRow_same s' ring' qa qb ca cb L w' l1 h1 l2 h2 x y (by rw [hn.out]; omega))
  rw [hn.out] at EQ
  obtain ⟨g0, g1, g2, -⟩ := G7.out.three
  obtain ⟨k0, k1, k2', -⟩ := W7.out.three
  go_wp2_with fail
  refine (EQ.out _ _ _ _ _ _ _ _ _ Q7.out R7.out).mono ?_
  rintro e w8 ⟨rfl, hb8⟩
  have E8 := Lib.hid (E7.out.next hb8)
  have N8 := Lib.hid (N7.out.bel hb8)
  have C8 := Lib.hid (C7.out.next hb8)
  have D8 := Lib.hid (D7.out.next hb8)
  have R8 := Lib.hid (R7.out.bel hb8)
  have W8 := Lib.hid (W7.out.below hb8 W7.out.lt)
  have G8 := Lib.hid (G7.out.below hb8 G7.out.lt)
  have Q8 := Lib.hid (Q7.out.bel hb8)
  have O8 := Lib.hid (O7.out.bel hb8)
  clear g0 g1 g2 k0 k1 k2'
  obtain ⟨a0, a1, a2, -⟩ := E8.out.box.three
  obtain ⟨x0, x1, x2, -⟩ := C8.out.box.three
  clear E7 N7 C7 D7 R7 W7 G7 Q7 O7 hb8
  go_upto_region 13 with fail
  go_cut [56] (fun v wx => v = .bool false ∧ Hid (Below w8.heap.size w8 wx))
  case first =>
    have hE := E8.out.next ((Below.refl _ w8).drew)
    have hC := C8.out.next ((Below.refl _ w8).drew)
    have T6 := Lib.hid (toRow_any s ring p cap xs w8.drew _ _ hE.inn hl)
    have HC := Lib.hid hC
    have HW := Lib.hid ((Below.refl w8.heap.size w8).drew)
    clear hE hC
    go_region_with (first
      | (go_at_call 11; refine T6.out.mono ?_; rintro e wx ⟨bx, hmx, hnx, rfl, hox, hbx⟩; have HW8 := Lib.hid (HW.out.trans hbx); have CX := Lib.hid (HC.out.next hbx); have PX := Lib.hid (Rd.of_own hox hmx hnx (Nat.le_refl _) xs.length); rw [List.take_of_length_le (by rw [iv_length]; exact Nat.le_refl _)] at PX; obtain ⟨d0, d1, d2, -⟩ := CX.out.box.three; clear hox hbx)
      | (go_at_call 13; refine (eqRow_same s ring _ _ _ _ xs _ _ _ _ _ CX.out.ri PX.out hlen).mono ?_; rintro e wy ⟨rfl, hby⟩; have HW9 := Lib.hid (HW8.out.trans (hby.mono HW8.out.size))))
    all_goals
      go_wp2_with fail
      go_meet
      exact ⟨rfl, HW9⟩
  case rest =>
  obtain ⟨rfl, HW⟩ := hcut
  obtain ⟨w9, rfl⟩ : ∃ w9 : World, w9 = wc := ⟨_, rfl⟩
  have E9 := Lib.hid (E8.out.next HW.out)
  have N9 := Lib.hid (N8.out.bel HW.out)
  have C9 := Lib.hid (C8.out.next HW.out)
  have D9 := Lib.hid (D8.out.next HW.out)
  have R9 := Lib.hid (R8.out.bel HW.out)
  have W9 := Lib.hid (W8.out.below HW.out W8.out.lt)
  have G9 := Lib.hid (G8.out.below HW.out G8.out.lt)
  have Q9 := Lib.hid (Q8.out.bel HW.out)
  have O9 := Lib.hid (O8.out.bel HW.out)
  clear a0 a1 a2 x0 x1 x2 HW E8 N8 C8 D8 R8 W8 G8 Q8 O8
  go_wp2_with fail
  refine (toI_any p2 c2 ys _ _ _ N9.out hl2).mono ?_
  rintro e wa ⟨ba, hma, hna, rfl, hoa, hba⟩
  have E10 := Lib.hid (E9.out.next hba)
  have N10 := Lib.hid (N9.out.bel hba)
  have C10 := Lib.hid (C9.out.next hba)
  have D10 := Lib.hid (D9.out.next hba)
  have R10 := Lib.hid (R9.out.bel hba)
  have W10 := Lib.hid (W9.out.below hba W9.out.lt)
  have G10 := Lib.hid (G9.out.below hba G9.out.lt)
  have Q10 := Lib.hid (Q9.out.bel hba)
  have O10 := Lib.hid (O9.out.bel hba)
  have PA := Lib.hid (Rd.of_own hoa hma hna (Nat.le_refl _) ys.length)
  rw [List.take_of_length_le (by rw [iv_length]; exact Nat.le_refl _)] at PA
  clear E9 N9 C9 D9 R9 W9 G9 Q9 O9 hoa hba
  go_wp2_with fail
  refine (eqI_same _ _ _ _ ys _ _ _ _ _ D10.out.ri PA.out (by omega)).mono ?_
  rintro e wb ⟨rfl, hbb⟩
  have E11 := Lib.hid (E10.out.next hbb)
  have N11 := Lib.hid (N10.out.bel hbb)
  have C11 := Lib.hid (C10.out.next hbb)
  have D11 := Lib.hid (D10.out.next hbb)
  have R11 := Lib.hid (R10.out.bel hbb)
  have W11 := Lib.hid (W10.out.below hbb W10.out.lt)
  have G11 := Lib.hid (G10.out.below hbb G10.out.lt)
  have Q11 := Lib.hid (Q10.out.bel hbb)
  have O11 := Lib.hid (O10.out.bel hbb)
  clear E10 N10 C10 D10 R10 W10 G10 Q10 O10 hbb PA
  obtain ⟨x0, x1, x2, -⟩ := C11.out.box.three
  have MR := Lib.hid (markRow_any s ring (some ⟨b5, 0, none⟩) _ _ xs.length xs.length 1 wb C11.out.own (by omega))
  obtain ⟨K, hK⟩ : ∃ K, 1 + xs.length = K := ⟨_, rfl⟩
  rw [hK] at MR
  go_wp2_with fail
  refine MR.out.mono ?_
  rintro e w13 ⟨rfl, -, -, hk13⟩
  have E13 := Lib.hid (E11.out.keep hk13 (by simp; omega))
  have N13 := Lib.hid (N11.out.keep hk13 (.inl (by simp; omega)))
  have D13 := Lib.hid (D11.out.keep hk13 (Nat.le_refl _))
  have R13 := Lib.hid (R11.out.keep hk13 (.inl (by simp)))
  have W13 := Lib.hid (stayL W11.out hk13 (.inl (by simp)))
  have G13 := Lib.hid (stayL G11.out hk13 (.inr (by omega)))
  have Q13 := Lib.hid (Q11.out.keep hk13 (.inr (by omega)))
  have O13 := Lib.hid (O11.out.keep hk13 (.inr (by omega)))
  clear x0 x1 x2 C11 D11 E11 N11 R11 W11 G11 Q11 O11 MR hk13
  have MR := Lib.hid (markI_any (some ⟨b6, 0, none⟩) _ _ ys.length ys.length K w13 D13.out.own (by omega))
  obtain ⟨K2, hK2⟩ : ∃ K2, K + ys.length = K2 := ⟨_, rfl⟩
  rw [hK2] at MR
  have hK0 : ¬ (K2 : Int) < 0 := by omega
  go_wp2_with fail
  refine MR.out.mono ?_
  rintro e w14 ⟨rfl, -, -, hk14⟩
  have E14 := Lib.hid (E13.out.keep hk14 (by omega))
  have N14 := Lib.hid (N13.out.keep hk14 (.inl (by omega)))
  have R14 := Lib.hid (R13.out.keep hk14 (.inl (by omega)))
  have W14 := Lib.hid (stayL W13.out hk14 (.inl (by omega)))
  have G14 := Lib.hid (stayL G13.out hk14 (.inr (by omega)))
  have Q14 := Lib.hid (Q13.out.keep hk14 (.inr (Nat.le_refl _)))
  have O14 := Lib.hid (O13.out.keep hk14 (.inr (Nat.le_refl _)))
  clear D13 E13 N13 R13 W13 G13 Q13 O13 MR hk14
  obtain ⟨g0, g1, g2, -⟩ := G14.out.three
  obtain ⟨k0, k1, k2', -⟩ := W14.out.three
  go_wp2_with fail
  refine (EQ.out _ _ _ _ _ _ _ _ _ Q14.out R14.out).mono ?_
  rintro e w15 ⟨rfl, hb15⟩
  have E15 := Lib.hid (E14.out.next hb15)
  have N15 := Lib.hid (N14.out.bel hb15)
  have R15 := Lib.hid (R14.out.bel hb15)
  have W15 := Lib.hid (W14.out.below hb15 W14.out.lt)
  have G15 := Lib.hid (G14.out.below hb15 G14.out.lt)
  have O15 := Lib.hid (O14.out.bel hb15)
  clear E14 N14 R14 Q14 O14 W14 G14 hb15 g0 g1 g2 k0 k1 k2'
  obtain ⟨g0, g1, g2, -⟩ := G15.out.three
  have MI := Lib.hid (markRow_any s' ring' q2 _ _ n k2 1 w15 O15.out (by omega))
  obtain ⟨M, hM⟩ : ∃ M, 1 + n = M := ⟨_, rfl⟩
  rw [hM] at MI
  have hM0 : ¬ (M : Int) < 0 := by omega
  go_wp2_with fail
  refine MI.out.mono ?_
  rintro e w16 ⟨rfl, hq16, -, hk16⟩
  have E16 := Lib.hid (E15.out.keep hk16 (by omega))
  have N16 := Lib.hid (N15.out.keep hk16 (.inl (by omega)))
  have R16 := Lib.hid (R15.out.keep hk16 (.inl (by omega)))
  have W16 := Lib.hid (stayL W15.out hk16 (.inl (by omega)))
  have G16 := Lib.hid (stayL G15.out hk16 (.inr (Nat.le_refl _)))
  have Q16 := Lib.hid hq16
  clear E15 N15 R15 O15 W15 G15 MI hq16 hk16 g0 g1 g2
  have HI := Lib.hid (fun w' (la ha : Nat) (h : Ri la ha w' q2 (mk 1 n)) => heldRow_any s' ring' q2 la ha n k2 1 w' h (by omega))
  rw [hM] at HI
  obtain ⟨g0, g1, g2, -⟩ := G16.out.three
  go_wp2_with fail
  refine (HI.out _ _ _ Q16.out).mono ?_
  rintro e w17 ⟨rfl, hb17⟩
  have E17 := Lib.hid (E16.out.next hb17)
  have N17 := Lib.hid (N16.out.bel hb17)
  have R17 := Lib.hid (R16.out.bel hb17)
  have W17 := Lib.hid (W16.out.below hb17 W16.out.lt)
  have G17 := Lib.hid (G16.out.below hb17 G16.out.lt)
  have Q17 := Lib.hid (Q16.out.bel hb17)
  clear E16 N16 R16 Q16 W16 G16 hb17 g0 g1 g2
  obtain ⟨a0, a1, a2, -⟩ := E17.out.box.three
  go_wp2_with fail
  refine (toRow_any s ring p cap xs _ _ _ E17.out.inn hl).mono ?_
  rintro e w18 ⟨b18, hm18, hn18, rfl, ho18, hb18⟩
  have E18 := Lib.hid (E17.out.next hb18)
  have N18 := Lib.hid (N17.out.bel hb18)
  have R18 := Lib.hid (R17.out.bel hb18)
  have W18 := Lib.hid (W17.out.below hb18 W17.out.lt)
  have G18 := Lib.hid (G17.out.below hb18 G17.out.lt)
  have Q18 := Lib.hid (Q17.out.bel hb18)
  have C18 := Lib.hid (Rd.of_own ho18 hm18 hn18 (Nat.le_refl _) xs.length)
  rw [List.take_of_length_le (by rw [iv_length]; exact Nat.le_refl _)] at C18
  clear E17 N17 R17 Q17 W17 G17 hb18 ho18 a0 a1 a2
  go_wp2_with fail
  refine (toI_any p2 c2 ys _ _ _ N18.out hl2).mono ?_
  rintro e w19 ⟨b19, hm19, hn19, rfl, ho19, hb19⟩
  have E19 := Lib.hid (E18.out.next hb19)
  have R19 := Lib.hid (R18.out.bel hb19)
  have W19 := Lib.hid (W18.out.below hb19 W18.out.lt)
  have G19 := Lib.hid (G18.out.below hb19 G18.out.lt)
  have Q19 := Lib.hid (Q18.out.bel hb19)
  have C19 : Hid (Ri w17.heap.size w18.heap.size w19 (some ⟨b18, 0, none⟩) xs) := C18.out.bel hb19
  have D19 := Lib.hid (Rd.of_own ho19 hm19 hn19 (Nat.le_refl _) ys.length)
  rw [List.take_of_length_le (by rw [iv_length]; exact Nat.le_refl _)] at D19
  clear E18 N18 R18 Q18 W18 G18 C18 hb19 ho19
  go_wp2_with fail
  refine (I.out _ _ _ _ _ _ _ _ _ C19.out D19.out hl hl2).mono ?_
  rintro e w20 ⟨v3, rfl, hO3, hb20⟩
  obtain ⟨q3, k3, rfl, -, -, hR3, -⟩ := hO3.rd
  have hbH := (Below.refl _ w20).alloc (Nat.le_refl _) (.cells #[.int .i64 s', .bool ring', .slice q3 L.length k3] 26)
  have E20 := Lib.hid ((E19.out.next hb20).next hbH)
  have R20 := Lib.hid ((R19.out.bel hb20).bel hbH)
  have W20 := Lib.hid ((W19.out.below hb20 W19.out.lt).below hbH (W19.out.below hb20 W19.out.lt).lt)
  have G20 := Lib.hid ((G19.out.below hb20 G19.out.lt).below hbH (G19.out.below hb20 G19.out.lt).lt)
  have Q20 := Lib.hid ((Q19.out.bel hb20).bel hbH)
  have P20 := Lib.hid (hR3.bel hbH)
  rw [hn.out] at E20 R20 W20 G20 Q20 P20 ⊢
  clear E19 R19 Q19 C19 D19 W19 G19 hb20 hO3 hR3 I hbH
  obtain ⟨k0, k1, k2', -⟩ := W20.out.three
  go_wp2_with fail
  refine (EQ.out _ _ _ _ _ _ _ _ _ P20.out R20.out).mono ?_
  rintro e w21 ⟨rfl, hb21⟩
  have E21 := Lib.hid (E20.out.next hb21)
  have G21 := Lib.hid (G20.out.below hb21 G20.out.lt)
  have Q21 := Lib.hid (Q20.out.bel hb21)
  clear E20 R20 Q20 P20 W20 G20 hb21 EQ k0 k1 k2'
  obtain ⟨g0, g1, g2, -⟩ := G21.out.three
  go_wp2_with fail
  refine (HI.out _ _ _ Q21.out).mono ?_
  rintro e w22 ⟨rfl, hb22⟩
  have E22 := Lib.hid (E21.out.next hb22)
  go_wp2_with fail
  go_ret
  exact ⟨rfl, E22.out.bel⟩
end Go.Proofs.Ytidiljnonbkpjaa.fillBy
