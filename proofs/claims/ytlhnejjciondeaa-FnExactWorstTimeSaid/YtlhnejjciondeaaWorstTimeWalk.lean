/- FnExactWorstTime's walk: for all arguments both functions give the same, in memory of the call's own. -/
import Derived.Test.YtlhnejjciondeaaWstI7
import Derived.Test.YtlhnejjciondeaaLst
import Derived.Deep.DeepCutAuto
import Derived.Deep.RegionWith
namespace Go.Proofs.Ytlhnejjciondeaa
open Go.RowKit
theorem worstTime_both (a0 : Int) (a1 : Int) : ∃ (x0 : Int) (L1 : List Int) (y2 : Bool), L1.length ≤ 1000 ∧ (∀  (w : World), Calls Try.prog 8 #[.int .i64 a0, .int .i64 a1] w fun e w' => ∃ v1, e = .returned (.tuple #[.int .i64 x0, v1, .bool y2]) ∧ Out w.heap.size w' v1 L1 ∧ Below w.heap.size w w') ∧ (∀  (w : World), Calls Try.prog 9 #[.int .i64 a0, .int .i64 a1] w fun e w' => ∃ v1, e = .returned (.tuple #[.int .i64 x0, v1, .bool y2]) ∧ OutO w.heap.size w' v1 L1 ∧ Below w.heap.size w w') := by
  cases h : few7 a0 a1 with
  | false => exact ⟨0, [], false, by simp, fun w => worstS_bad a0 a1 w h, fun w => worstI_bad a0 a1 w h⟩
  | true =>
    obtain ⟨n, rfl, h1, h2, h3, h4⟩ := few_is h
    exact ⟨((wstM n a1 (entM n)).1 : Nat), (wstM n a1 (entM n)).2, true, Nat.le_trans wst_len (by omega), fun w => worstS_any n a1 w h1 h2 h3 h4 h, fun w => worstI_any n a1 w h1 h2 h3 h4 h⟩
end Go.Proofs.Ytlhnejjciondeaa
namespace Go.Proofs.Ytlhnejjciondeaa.worstTime
open Go.RowKit

set_option maxRecDepth 4000 in
set_option maxHeartbeats 8000000 in
theorem walk (a0 : Int) (a1 : Int) (w : World) (_ : -9223372036854775808 ≤ a0 ∧ a0 ≤ 9223372036854775807) (_ : -9223372036854775808 ≤ a1 ∧ a1 ≤ 9223372036854775807) :
    Calls Try.prog 3 #[.int .i64 a0, .int .i64 a1] w fun e w' => e = .returned (.bool true) ∧ Below w.heap.size w w' := by
  have E_0 := Lib.hid (Below.refl w.heap.size w)
  obtain ⟨x0, L1, y2, hL1, S, I⟩ := worstTime_both a0 a1
  replace S := Lib.hid S
  replace I := Lib.hid I
  obtain ⟨n1, hn1⟩ : ∃ n, L1.length = n := ⟨_, rfl⟩
  rw [hn1] at hL1
  replace hn1 := Lib.hid hn1
  go_enter Try.func3, Try.ntmps3
  go_wp2_with fail
  refine (S.out  _  ).mono ?_
  rintro e w1 ⟨v1', rfl, hO1, hb⟩
  obtain ⟨ps1, ks1, rfl, -, -, hR1, hW1⟩ := hO1.rd
  have hsqs := hb.size
  have E_1 := Lib.hid (E_0.out.trans (hb.mono E_0.out.size))
  clear E_0 hb
  have Rs1 := Lib.hid hR1
  clear hO1 hR1 hW1
  rw [hn1.out]
  have hz0 := E_1.out.size
  go_wp2_with fail
  refine (I.out  _  ).mono ?_
  rintro e w2 ⟨v1', rfl, hO1, hb⟩
  obtain ⟨pg1, kg1, rfl, -, -, hR1, hW1⟩ := hO1
  have hsqg := hb.size
  have E_2 := Lib.hid (E_1.out.trans (hb.mono E_1.out.size))
  have Rs1_2 := Lib.hid (Rs1.out.bel hb)
  clear E_1 Rs1 hb
  have Rg1 := Lib.hid hR1
  have Og1 := Lib.hid hW1
  clear hR1 hW1
  rw [hn1.out] at Og1 ⊢
  have hzg := E_2.out.size
  have EQ1 := Lib.hid (fun (qa qb : Option Addr) (ca cb : Nat) (w' : World) (l1 h1 l2 h2 : Nat) (x : Ri l1 h1 w' qa L1) (y : Ri l2 h2 w' qb L1) => eqI_same qa qb ca cb L1 w' l1 h1 l2 h2 x y (by rw [hn1.out]; omega))
  rw [hn1.out] at EQ1
  go_wp2_with fail
  refine (EQ1.out _ _ _ _ _ _ _ _ _ Rg1.out Rs1_2.out).mono ?_
  rintro e w3 ⟨rfl, hb⟩
  have E_3 := Lib.hid (E_2.out.trans (hb.mono E_2.out.size))
  have Rs1_3 := Lib.hid (Rs1_2.out.bel hb)
  have Rg1_3 := Lib.hid (Rg1.out.bel hb)
  have Og1_3 := Lib.hid (Og1.out.bel hb)
  clear E_2 Rs1_2 Rg1 Og1 hb
  clear Rg1_3
  have MI := Lib.hid (markI_any pg1 _ _ n1 kg1 1 w3 Og1_3.out (by omega))
  obtain ⟨Q1, hQ1⟩ : ∃ M, 1 + n1 = M := ⟨_, rfl⟩
  rw [hQ1] at MI
  have hQ01 : ¬ (Q1 : Int) < 0 := by omega
  go_wp2_with fail
  refine MI.out.mono ?_
  rintro e w4 ⟨rfl, hq, -, hk⟩
  have E_4 := Lib.hid (wkeep E_3.out hk (by first | omega | (simp; done) | (simp; omega)) E_3.out.size)
  have Rs1_4 := Lib.hid (Rs1_3.out.keep hk (by first | (left; omega) | (right; omega) | (left; simp; done) | (right; simp; done) | (left; simp; omega) | (right; simp; omega)))
  clear E_3 Rs1_3 hk Og1_3
  have H1 := Lib.hid hq
  clear hq MI
  have HI1 := Lib.hid (fun w' (la ha : Nat) (h : Ri la ha w' pg1 (mk 1 (n1))) => heldI_any pg1 la ha n1 kg1 1 w' h (by omega))
  rw [hQ1] at HI1
  go_wp2_with fail
  refine (HI1.out _ _ _ H1.out).mono ?_
  rintro e w5 ⟨rfl, hb⟩
  have E_5 := Lib.hid (E_4.out.trans (hb.mono E_4.out.size))
  have Rs1_5 := Lib.hid (Rs1_4.out.bel hb)
  have H1_5 := Lib.hid (H1.out.bel hb)
  clear E_4 Rs1_4 H1 hb
  go_wp2_with fail
  refine (I.out  _  ).mono ?_
  rintro e w6 ⟨v1', rfl, hO1, hb⟩
  obtain ⟨ph1, kh1, rfl, -, -, hR1, hW1⟩ := hO1
  have hsqh := hb.size
  have E_6 := Lib.hid (E_5.out.trans (hb.mono E_5.out.size))
  have Rs1_6 := Lib.hid (Rs1_5.out.bel hb)
  have H1_6 := Lib.hid (H1_5.out.bel hb)
  clear E_5 Rs1_5 H1_5 hb
  have Rh1 := Lib.hid hR1
  clear hR1 hW1
  rw [hn1.out]
  go_wp2_with fail
  refine (EQ1.out _ _ _ _ _ _ _ _ _ Rh1.out Rs1_6.out).mono ?_
  rintro e w7 ⟨rfl, hb⟩
  have E_7 := Lib.hid (E_6.out.trans (hb.mono E_6.out.size))
  have Rs1_7 := Lib.hid (Rs1_6.out.bel hb)
  have H1_7 := Lib.hid (H1_6.out.bel hb)
  have Rh1_7 := Lib.hid (Rh1.out.bel hb)
  clear E_6 Rs1_6 H1_6 Rh1 hb
  clear Rh1_7 Rs1_7
  go_wp2_with fail
  refine (HI1.out _ _ _ H1_7.out).mono ?_
  rintro e w8 ⟨rfl, hb⟩
  have E_8 := Lib.hid (E_7.out.trans (hb.mono E_7.out.size))
  have H1_8 := Lib.hid (H1_7.out.bel hb)
  clear E_7 H1_7 hb
  go_wp2_with fail
  go_ret
  exact ⟨rfl, E_8.out⟩
end Go.Proofs.Ytlhnejjciondeaa.worstTime
