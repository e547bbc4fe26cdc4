/- FnExactSettleCounts' walk: for all arguments both functions give the same counts, in memory of the call's own. -/
import Derived.Test.YtlfodeodfjjaeaaCntI
import Derived.Test.YtlfodeodfjjaeaaRowLaw
namespace Go.Proofs.Ytlfodeodfjjaeaa.settleCounts
open Go.RowKit

set_option maxRecDepth 4000 in
set_option maxHeartbeats 2000000 in
theorem walk (a : Int) (b : Bool) (w : World) (_ : -9223372036854775808 ≤ a ∧ a ≤ 9223372036854775807) :
    Calls Try.prog 4 #[.int .i64 a, .bool b] w fun e w' => e = .returned (.bool true) ∧ Below w.heap.size w w' := by
  obtain ⟨L, B, hL, S, I⟩ := settleCounts_both a b
  replace S := Lib.hid S
  replace I := Lib.hid I
  obtain ⟨n, hn⟩ : ∃ n, L.length = n := ⟨_, rfl⟩
  rw [hn] at hL
  replace hn := Lib.hid hn
  have EQ := Lib.hid (fun (qa qb : Option Addr) (ca cb : Nat) (w' : World) (l1 h1 l2 h2 : Nat) (x : Ri l1 h1 w' qa L) (y : Ri l2 h2 w' qb L) => eqI_same qa qb ca cb L w' l1 h1 l2 h2 x y (by rw [hn.out]; omega))
  rw [hn.out] at EQ
  go_enter Try.func4, Try.ntmps4
  go_wp2_with fail
  refine (S.out _).mono ?_
  rintro e w1 ⟨v1, rfl, hO1, hb1⟩
  obtain ⟨q1, c1, rfl, -, -, hR1, -⟩ := hO1.rd
  have R1 := Lib.hid hR1
  have B1 := Lib.hid hb1
  rw [hn.out]
  clear hO1 hR1 hb1 S
  go_wp2_with fail
  refine (I.out _).mono ?_
  rintro e w2 ⟨v2, rfl, hO2, hb2⟩
  obtain ⟨q2, c2, rfl, -, -, hR2, hW2⟩ := hO2.rd
  have R2 := Lib.hid (R1.out.bel hb2)
  have Q2 := Lib.hid hR2
  have O2 := Lib.hid hW2
  have B2 := Lib.hid (B1.out.trans (hb2.mono B1.out.size))
  have hs21 := hb2.size
  rw [hn.out] at O2 ⊢
  clear hO2 hR2 hW2 hb2 R1
  go_wp2_with fail
  refine (EQ.out _ _ _ _ _ _ _ _ _ Q2.out R2.out).mono ?_
  rintro e w3 ⟨rfl, hb3⟩
  have R3 := Lib.hid (R2.out.bel hb3)
  have O3 := Lib.hid (O2.out.bel hb3)
  have B3 := Lib.hid (B2.out.trans (hb3.mono B2.out.size))
  have hs32 := hb3.size
  clear R2 Q2 O2 hb3
  have MI := Lib.hid (markI_any q2 _ _ n c2 1 w3 O3.out (by omega))
  obtain ⟨M, hM⟩ : ∃ M, 1 + n = M := ⟨_, rfl⟩
  rw [hM] at MI
  have hM0 : ¬ (M : Int) < 0 := by omega
  go_wp2_with fail
  refine MI.out.mono ?_
  rintro e w4 ⟨rfl, hq4, -, hk4⟩
  have R4 := Lib.hid (R3.out.keep hk4 (.inl (by simp)))
  have Q4 := Lib.hid hq4
  have B4 := Lib.hid (B3.out.trans ((hk4.below (by omega)).mono (by have := B1.out.size; omega)))
  clear R3 O3 MI hq4 hk4
  have HI := Lib.hid (fun w' (la ha : Nat) (h : Ri la ha w' q2 (mk 1 n)) => heldI_any q2 la ha n c2 1 w' h (by omega))
  rw [hM] at HI
  go_wp2_with fail
  refine (HI.out _ _ _ Q4.out).mono ?_
  rintro e w5 ⟨rfl, hb5⟩
  have R5 := Lib.hid (R4.out.bel hb5)
  have Q5 := Lib.hid (Q4.out.bel hb5)
  have B5 := Lib.hid (B4.out.trans (hb5.mono B4.out.size))
  clear R4 Q4 hb5
  go_wp2_with fail
  refine (I.out _).mono ?_
  rintro e w6 ⟨v3, rfl, hO3, hb6⟩
  obtain ⟨q3, c3, rfl, -, -, hR3, -⟩ := hO3.rd
  have R6 := Lib.hid (R5.out.bel hb6)
  have Q6 := Lib.hid (Q5.out.bel hb6)
  have P6 := Lib.hid hR3
  have B6 := Lib.hid (B5.out.trans (hb6.mono B5.out.size))
  rw [hn.out]
  clear R5 Q5 hO3 hR3 hb6 I
  go_wp2_with fail
  refine (EQ.out _ _ _ _ _ _ _ _ _ P6.out R6.out).mono ?_
  rintro e w7 ⟨rfl, hb7⟩
  have Q7 := Lib.hid (Q6.out.bel hb7)
  have B7 := Lib.hid (B6.out.trans (hb7.mono B6.out.size))
  clear R6 Q6 P6 hb7 EQ
  go_wp2_with fail
  refine (HI.out _ _ _ Q7.out).mono ?_
  rintro e w8 ⟨rfl, hb8⟩
  have B8 := Lib.hid (B7.out.trans (hb8.mono B7.out.size))
  go_wp2_with fail
  go_ret
  exact ⟨rfl, B8.out⟩
end Go.Proofs.Ytlfodeodfjjaeaa.settleCounts
