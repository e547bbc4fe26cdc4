/- FnExactOwnTable's walk: for all arguments both functions give the same, in memory of the call's own. -/
import Derived.Test.YtkbpfjhikabbmaaTabI5
import Derived.Test.YtkbpfjhikabbmaaLst
import Derived.Test.YtkbpfjhikabbmaaPairs
import Derived.Deep.DeepCutAuto
import Derived.Deep.RegionWith
namespace Go.Proofs.Ytkbpfjhikabbmaa.ownTable
open Go.RowKit

set_option maxRecDepth 4000 in
set_option maxHeartbeats 8000000 in
theorem walk (a0 : Int) (a1 : Int) (w : World) (_ : -9223372036854775808 ≤ a0 ∧ a0 ≤ 9223372036854775807) (_ : -9223372036854775808 ≤ a1 ∧ a1 ≤ 9223372036854775807) :
    Calls Try.prog 4 #[.int .i64 a0, .int .i64 a1] w fun e w' => e = .returned (.bool true) ∧ Below w.heap.size w w' := by
  have E_0 := Lib.hid (Below.refl w.heap.size w)
  obtain ⟨L0, y1, hL0, S, I⟩ := ownTable_both a0 a1
  replace S := Lib.hid S
  replace I := Lib.hid I
  obtain ⟨n0, hn0⟩ : ∃ n, L0.length = n := ⟨_, rfl⟩
  rw [hn0] at hL0
  replace hn0 := Lib.hid hn0
  go_enter Try.func4, Try.ntmps4
  go_wp2_with fail
  refine (S.out  _  ).mono ?_
  rintro e w1 ⟨v0', rfl, hO0, hb⟩
  obtain ⟨ps0, ks0, rfl, -, -, hR0, hW0⟩ := hO0.rd
  have hsqs := hb.size
  have E_1 := Lib.hid (E_0.out.trans (hb.mono E_0.out.size))
  clear E_0 hb
  have Rs0 := Lib.hid hR0
  clear hO0 hR0 hW0
  rw [hn0.out]
  have hz0 := E_1.out.size
  go_wp2_with fail
  refine (I.out  _  ).mono ?_
  rintro e w2 ⟨v0', rfl, hO0, hb⟩
  obtain ⟨pg0, kg0, rfl, -, -, hR0, hW0⟩ := hO0.rd
  have hsqg := hb.size
  have E_2 := Lib.hid (E_1.out.trans (hb.mono E_1.out.size))
  have Rs0_2 := Lib.hid (Rs0.out.bel hb)
  clear E_1 Rs0 hb
  have Rg0 := Lib.hid hR0
  have Og0 := Lib.hid hW0
  clear hO0 hR0 hW0
  rw [hn0.out] at Og0 ⊢
  have hzg := E_2.out.size
  have EQ0 := Lib.hid (fun (qa qb : Option Addr) (ca cb : Nat) (w' : World) (l1 h1 l2 h2 : Nat) (x : Rd l1 h1 w' qa (pcs L0)) (y : Rd l2 h2 w' qb (pcs L0)) => eqA2S_same qa qb ca cb L0 w' l1 h1 l2 h2 x y (by rw [hn0.out]; omega))
  rw [hn0.out] at EQ0
  go_wp2_with fail
  refine (EQ0.out _ _ _ _ _ _ _ _ _ Rg0.out Rs0_2.out).mono ?_
  rintro e w3 ⟨rfl, hb⟩
  have E_3 := Lib.hid (E_2.out.trans (hb.mono E_2.out.size))
  have Rs0_3 := Lib.hid (Rs0_2.out.bel hb)
  have Rg0_3 := Lib.hid (Rg0.out.bel hb)
  have Og0_3 := Lib.hid (Og0.out.bel hb)
  clear E_2 Rs0_2 Rg0 Og0 hb
  clear Rg0_3
  have MI := Lib.hid (markA2_any pg0 _ _ n0 kg0 1 w3 Og0_3.out (by omega))
  obtain ⟨Q0, hQ0⟩ : ∃ M, 1 + n0 * 2 = M := ⟨_, rfl⟩
  rw [hQ0] at MI
  have hQ00 : ¬ (Q0 : Int) < 0 := by omega
  go_wp2_with fail
  refine MI.out.mono ?_
  rintro e w4 ⟨rfl, hq, -, hk⟩
  have E_4 := Lib.hid (wkeep E_3.out hk (by first | omega | (simp; done) | (simp; omega)) E_3.out.size)
  have Rs0_4 := Lib.hid (Rs0_3.out.keep hk (by first | (left; omega) | (right; omega) | (left; simp; done) | (right; simp; done) | (left; simp; omega) | (right; simp; omega)))
  clear E_3 Rs0_3 hk Og0_3
  have H0 := Lib.hid hq
  clear hq MI
  have HI0 := Lib.hid (fun w' (la ha : Nat) (h : Ri la ha w' pg0 (mk 1 (n0 * 2))) => heldA2_any pg0 la ha n0 kg0 1 w' h (by omega))
  rw [hQ0] at HI0
  go_wp2_with fail
  refine (HI0.out _ _ _ H0.out).mono ?_
  rintro e w5 ⟨rfl, hb⟩
  have E_5 := Lib.hid (E_4.out.trans (hb.mono E_4.out.size))
  have Rs0_5 := Lib.hid (Rs0_4.out.bel hb)
  have H0_5 := Lib.hid (H0.out.bel hb)
  clear E_4 Rs0_4 H0 hb
  go_wp2_with fail
  refine (I.out  _  ).mono ?_
  rintro e w6 ⟨v0', rfl, hO0, hb⟩
  obtain ⟨ph0, kh0, rfl, -, -, hR0, hW0⟩ := hO0.rd
  have hsqh := hb.size
  have E_6 := Lib.hid (E_5.out.trans (hb.mono E_5.out.size))
  have Rs0_6 := Lib.hid (Rs0_5.out.bel hb)
  have H0_6 := Lib.hid (H0_5.out.bel hb)
  clear E_5 Rs0_5 H0_5 hb
  have Rh0 := Lib.hid hR0
  clear hO0 hR0 hW0
  rw [hn0.out]
  go_wp2_with fail
  refine (EQ0.out _ _ _ _ _ _ _ _ _ Rh0.out Rs0_6.out).mono ?_
  rintro e w7 ⟨rfl, hb⟩
  have E_7 := Lib.hid (E_6.out.trans (hb.mono E_6.out.size))
  have Rs0_7 := Lib.hid (Rs0_6.out.bel hb)
  have H0_7 := Lib.hid (H0_6.out.bel hb)
  have Rh0_7 := Lib.hid (Rh0.out.bel hb)
  clear E_6 Rs0_6 H0_6 Rh0 hb
  clear Rh0_7 Rs0_7
  go_wp2_with fail
  refine (HI0.out _ _ _ H0_7.out).mono ?_
  rintro e w8 ⟨rfl, hb⟩
  have E_8 := Lib.hid (E_7.out.trans (hb.mono E_7.out.size))
  have H0_8 := Lib.hid (H0_7.out.bel hb)
  clear E_7 H0_7 hb
  go_wp2_with fail
  go_ret
  exact ⟨rfl, E_8.out⟩
end Go.Proofs.Ytkbpfjhikabbmaa.ownTable
