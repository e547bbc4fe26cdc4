/- FnExactBlocksOf's walk: for every Row both functions give the same pairs, in memory of the call's own. -/
import Derived.Test.YtbgmfjhcgfnfoaaBlk
import Derived.Test.YtbgmfjhcgfnfoaaRowLaw
import Derived.Test.YtbgmfjhcgfnfoaaPairs
import Derived.Deep.DeepCutAuto
namespace Go.Proofs.Ytbgmfjhcgfnfoaa.blocksOf
open Go.RowKit

set_option maxRecDepth 4000 in
set_option maxHeartbeats 2000000 in
theorem walk (s : Int) (ring : Bool) (p : Option Addr) (cap : Nat) (xs : List Int) (w : World) (hin : Ri 0 w.heap.size w p xs) (hlen : xs.length ≤ 9223372036854775807) (_ : -9223372036854775808 ≤ s ∧ s ≤ 9223372036854775807) (_ : ∀ x ∈ xs, -9223372036854775808 ≤ x ∧ x ≤ 9223372036854775807) :
    Calls Try.prog 5 #[rowV s ring p xs.length cap] w fun e w' => e = .returned (.bool true) ∧ Below w.heap.size w w' := by
  have E0 := Env.start (s := s) (ring := ring) (cap := cap) hin
  have SZ := fun w' => szRow_any s ring p xs.length cap w' hlen
  by_cases hl : xs.length ≤ 1048576
  · rw [if_pos hl] at SZ
    obtain ⟨L, B, hL, S, I⟩ := blocksOf_both s ring xs
    replace S := Lib.hid S
    replace I := Lib.hid I
    replace E0 := Lib.hid E0
    replace SZ := Lib.hid SZ
    have h0 : ¬ (1048576 - (xs.length : Int) < 0) := by omega
    obtain ⟨n, hn⟩ : ∃ n, L.length = n := ⟨_, rfl⟩
    rw [hn] at hL
    replace hn := Lib.hid hn
    clear hin
    go_enter Try.func5, Try.ntmps5
    go_wp2_with fail
    refine (SZ.out _).mono ?_
    rintro e w1 ⟨rfl, hb1⟩
    have E1 := Lib.hid (E0.out.next hb1)
    obtain ⟨a0, a1, a2, -⟩ := E1.out.box.three
    clear E0 SZ hb1
    go_wp2_with fail
    refine (toRow_any s ring p cap xs _ _ _ E1.out.inn hl).mono ?_
    rintro e w2 ⟨b2, hm2, hn2, rfl, ho2, hb2⟩
    have E2 := Lib.hid (E1.out.next hb2)
    have C2 : Hid (Ri w1.heap.size w2.heap.size w2 (some ⟨b2, 0, none⟩) xs) := by
      show Ri _ _ _ _ _
      have := Rd.of_own ho2 hm2 hn2 (Nat.le_refl _) xs.length
      rwa [List.take_of_length_le (by rw [iv_length]; exact Nat.le_refl _)] at this
    clear E1 hb2 ho2 a0 a1 a2
    go_wp2_with fail
    refine (S.out _ _ _ _ _ C2.out hl).mono ?_
    rintro e w3 ⟨v1, rfl, hO1, hb3⟩
    have E3 := Lib.hid (E2.out.next hb3)
    obtain ⟨q1, c1, rfl, -, -, hR1, -⟩ := hO1.rd
    have R3 := Lib.hid hR1
    rw [hn.out]
    obtain ⟨a0, a1, a2, -⟩ := E3.out.box.three
    have hA3 := E3.out.box.lt
    clear E2 C2 hb3 S hO1 hR1
    go_wp2_with fail
    refine (toRow_any s ring p cap xs _ _ _ E3.out.inn hl).mono ?_
    rintro e w4 ⟨b4, hm4, hn4, rfl, ho4, hb4⟩
    have E4 := Lib.hid (E3.out.next hb4)
    have C4 := Lib.hid (Cpy.made (s := s) (ring := ring) ho4 hm4)
    have hbx := (Below.refl _ w4).alloc (Nat.le_refl _) (.cells #[.int .i64 s, .bool ring, .slice (some ⟨b4, 0, none⟩) xs.length xs.length] 28)
    have E5 := Lib.hid (E4.out.next hbx)
    have R5 := Lib.hid ((R3.out.bel hb4).bel hbx)
    have h43 := hb4.size
    clear E3 hb4 ho4 a0 a1 a2 hbx R3
    go_wp2_with fail
    refine (I.out _ _ _ _ _ C4.out.ri hl).mono ?_
    rintro e w6 ⟨v2, rfl, hO2, hb6⟩
    have E6 := Lib.hid (E5.out.next hb6)
    have C6 := Lib.hid (C4.out.next hb6)
    obtain ⟨q2, c2, rfl, -, -, hR2, hW2⟩ := hO2.rd
    have R6 := Lib.hid (R5.out.bel hb6)
    have Q6 := Lib.hid hR2
    have O6 := Lib.hid hW2
    rw [hn.out] at O6 ⊢
    clear E4 E5 C4 hb6 hO2 hR2 hW2 R5
    have EQ := Lib.hid (fun (qa qb : Option Addr) (ca cb : Nat) (w' : World) (l1 h1 l2 h2 : Nat) (x : Rd l1 h1 w' qa (pcs L)) (y : Rd l2 h2 w' qb (pcs L)) => eqA2S_same qa qb ca cb L w' l1 h1 l2 h2 x y (by rw [hn.out]; omega))
    rw [hn.out] at EQ
    go_wp2_with fail
    refine (EQ.out _ _ _ _ _ _ _ _ _ Q6.out R6.out).mono ?_
    rintro e w7 ⟨rfl, hb7⟩
    have E7 := Lib.hid (E6.out.next hb7)
    have C7 := Lib.hid (C6.out.next hb7)
    have R7 := Lib.hid (R6.out.bel hb7)
    have Q7 := Lib.hid (Q6.out.bel hb7)
    have O7 := Lib.hid (O6.out.bel hb7)
    obtain ⟨a0, a1, a2, -⟩ := E7.out.box.three
    obtain ⟨x0, x1, x2, -⟩ := C7.out.box.three
    clear E6 C6 R6 Q6 O6 hb7
    go_upto_region 10 with fail
    go_cut [45] (fun v wx => v = .bool false ∧ Hid (Below w7.heap.size w7 wx))
    case first =>
      have hE := E7.out.next ((Below.refl _ w7).drew)
      have hC := C7.out.next ((Below.refl _ w7).drew)
      have T6 := Lib.hid (toRow_any s ring p cap xs w7.drew _ _ hE.inn hl)
      have HC := Lib.hid hC
      have HW := Lib.hid ((Below.refl w7.heap.size w7).drew)
      clear hE hC
      go_region_with (first
        | (go_at_call 11; refine T6.out.mono ?_; rintro e w8 ⟨b8, hm8, hn8, rfl, ho8, hb8⟩; have HW8 := Lib.hid (HW.out.trans hb8); have C8 := Lib.hid (HC.out.next hb8); have P8 := Lib.hid (Rd.of_own ho8 hm8 hn8 (Nat.le_refl _) xs.length); rw [List.take_of_length_le (by rw [iv_length]; exact Nat.le_refl _)] at P8; obtain ⟨d0, d1, d2, -⟩ := C8.out.box.three; clear ho8 hb8)
        | (go_at_call 14; refine (eqRow_same s ring _ _ _ _ xs _ _ _ _ _ C8.out.ri P8.out hlen).mono ?_; rintro e w9 ⟨rfl, hb9⟩; have HW9 := Lib.hid (HW8.out.trans (hb9.mono HW8.out.size))))
      all_goals
        go_wp2_with fail
        go_meet
        exact ⟨rfl, HW9⟩
    case rest =>
      obtain ⟨rfl, HW⟩ := hcut
      have E9 := Lib.hid (E7.out.next HW.out)
      have C9 := Lib.hid (C7.out.next HW.out)
      have R9 := Lib.hid (R7.out.bel HW.out)
      have Q9 := Lib.hid (Q7.out.bel HW.out)
      have O9 := Lib.hid (O7.out.bel HW.out)
      clear a0 a1 a2 x0 x1 x2 HW E7 C7 R7 Q7 O7
      obtain ⟨x0, x1, x2, -⟩ := C9.out.box.three
      have MR := Lib.hid (markRow_any s ring (some ⟨b4, 0, none⟩) _ _ xs.length xs.length 1 wc C9.out.own (by omega))
      obtain ⟨K, hK⟩ : ∃ K, 1 + xs.length = K := ⟨_, rfl⟩
      rw [hK] at MR
      have hK0 : ¬ (K : Int) < 0 := by omega
      go_wp2_with fail
      refine MR.out.mono ?_
      rintro e w10 ⟨rfl, -, -, hk10⟩
      have E10 := Lib.hid (E9.out.keep hk10 hA3)
      have R10 := Lib.hid (R9.out.keep hk10 (.inl (Nat.le_refl _)))
      have Q10 := Lib.hid (Q9.out.keep hk10 (.inr (by simp)))
      have O10 := Lib.hid (O9.out.keep hk10 (.inr (by simp)))
      clear x0 x1 x2 C9 E9 R9 Q9 O9 MR hk10
      go_wp2_with fail
      refine (EQ.out _ _ _ _ _ _ _ _ _ Q10.out R10.out).mono ?_
      rintro e w11 ⟨rfl, hb11⟩
      have E11 := Lib.hid (E10.out.next hb11)
      have R11 := Lib.hid (R10.out.bel hb11)
      have O11 := Lib.hid (O10.out.bel hb11)
      clear E10 R10 Q10 O10 hb11
      have MI := Lib.hid (markA2_any q2 _ _ n c2 1 w11 O11.out (by omega))
      obtain ⟨M, hM⟩ : ∃ M, 1 + n * 2 = M := ⟨_, rfl⟩
      rw [hM] at MI
      have hM0 : ¬ (M : Int) < 0 := by omega
      go_wp2_with fail
      refine MI.out.mono ?_
      rintro e w12 ⟨rfl, hq12, -, hk12⟩
      have E12 := Lib.hid (E11.out.keep hk12 (by simp; omega))
      have R12 := Lib.hid (R11.out.keep hk12 (.inl (by simp; omega)))
      have Q12 := Lib.hid hq12
      clear E11 R11 O11 MI hq12 hk12
      have HI := Lib.hid (fun w' (la ha : Nat) (h : Ri la ha w' q2 (mk 1 (n * 2))) => heldA2_any q2 la ha n c2 1 w' h (by omega))
      rw [hM] at HI
      go_wp2_with fail
      refine (HI.out _ _ _ Q12.out).mono ?_
      rintro e w13 ⟨rfl, hb13⟩
      have E13 := Lib.hid (E12.out.next hb13)
      have R13 := Lib.hid (R12.out.bel hb13)
      have Q13 := Lib.hid (Q12.out.bel hb13)
      obtain ⟨a0, a1, a2, -⟩ := E13.out.box.three
      clear E12 R12 Q12 hb13
      go_wp2_with fail
      refine (toRow_any s ring p cap xs _ _ _ E13.out.inn hl).mono ?_
      rintro e w14 ⟨b14, hm14, hn14, rfl, ho14, hb14⟩
      have E14 := Lib.hid (E13.out.next hb14)
      have R14 := Lib.hid (R13.out.bel hb14)
      have Q14 := Lib.hid (Q13.out.bel hb14)
      have C14 : Hid (Ri w13.heap.size w14.heap.size w14 (some ⟨b14, 0, none⟩) xs) := by
        show Ri _ _ _ _ _
        have := Rd.of_own ho14 hm14 hn14 (Nat.le_refl _) xs.length
        rwa [List.take_of_length_le (by rw [iv_length]; exact Nat.le_refl _)] at this
      clear E13 R13 Q13 hb14 ho14 a0 a1 a2
      go_wp2_with fail
      refine (I.out _ _ _ _ _ C14.out hl).mono ?_
      rintro e w15 ⟨v3, rfl, hO3, hb15⟩
      have E15 := Lib.hid (E14.out.next hb15)
      have R15 := Lib.hid (R14.out.bel hb15)
      have Q15 := Lib.hid (Q14.out.bel hb15)
      obtain ⟨q3, c3, rfl, -, -, hR3, -⟩ := hO3.rd
      have P15 := Lib.hid hR3
      rw [hn.out]
      clear E14 R14 Q14 C14 hb15 hO3 hR3 I
      go_wp2_with fail
      refine (EQ.out _ _ _ _ _ _ _ _ _ P15.out R15.out).mono ?_
      rintro e w16 ⟨rfl, hb16⟩
      have E16 := Lib.hid (E15.out.next hb16)
      have Q16 := Lib.hid (Q15.out.bel hb16)
      clear E15 R15 Q15 P15 hb16 EQ
      go_wp2_with fail
      refine (HI.out _ _ _ Q16.out).mono ?_
      rintro e w17 ⟨rfl, hb17⟩
      have E17 := Lib.hid (E16.out.next hb17)
      go_wp2_with fail
      go_ret
      exact ⟨rfl, E17.out.bel⟩
  · rw [if_neg hl] at SZ
    replace E0 := Lib.hid E0
    replace SZ := Lib.hid SZ
    clear hin
    go_enter Try.func5, Try.ntmps5
    go_wp2_with fail
    refine (SZ.out _).mono ?_
    rintro e w1 ⟨rfl, hb1⟩
    have E1 := Lib.hid (E0.out.next hb1)
    go_wp2_with fail
    go_ret
    exact ⟨rfl, E1.out.bel⟩
end Go.Proofs.Ytbgmfjhcgfnfoaa.blocksOf
