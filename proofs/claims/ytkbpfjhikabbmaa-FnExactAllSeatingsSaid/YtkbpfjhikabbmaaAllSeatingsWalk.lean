/- FnExactAllSeatings's walk: for all arguments both functions give the same, in memory of the call's own. -/
import Derived.Test.YtkbpfjhikabbmaaAllI5
import Derived.Deep.DeepCutAuto
import Derived.Deep.RegionWith
namespace Go.Proofs.Ytkbpfjhikabbmaa.allSeatings
open Go.RowKit

theorem wkeepS {B a b : Nat} {w x y : World} (h : Below B w x) (hk : Keep a b x y) (ha : B ≤ a) (hB : B ≤ x.heap.size) : Below B w y :=
  h.trans ⟨hk.os, hk.tape, hk.output, hk.size, fun k hk' => hk.block k (by omega) (.inl (by omega))⟩

set_option maxRecDepth 4000 in
set_option maxHeartbeats 8000000 in
theorem walk (a0 a1 : Int) (w : World) (_ : -9223372036854775808 ≤ a0 ∧ a0 ≤ 9223372036854775807) (_ : -9223372036854775808 ≤ a1 ∧ a1 ≤ 9223372036854775807) :
    Calls Try.prog 3 #[.int .i64 a0, .int .i64 a1] w fun e w' => e = .returned (.bool true) ∧ Below w.heap.size w w' := by
  have E_0 := Lib.hid (Below.refl w.heap.size w)
  obtain ⟨Ls, y1, hlm, hxm, hsm, S, I⟩ := allSeatings_both a0 a1
  replace S := Lib.hid S
  replace I := Lib.hid I
  have EQS := Lib.hid (fun (p p' : Option Addr) (ca cb : Nat) (w' : World) (l1 h1 l2 h2 : Nat) (x : RdS l1 h1 w' p Ls) (y : RdS l2 h2 w' p' Ls) => eqSS_same p p' ca cb Ls w' l1 h1 l2 h2 x y hlm hxm)
  have hMK : ∀ p ca, (Value.slice p (lens Ls).length ca) = .slice p Ls.length ca := fun p ca => by rw [lens_len]
  have MKS := fun (p : Option Addr) (ca : Nat) (w' : World) (lo hi g : Nat) (bs cs : Nat → Nat) (h : OwnS lo hi w' p (lens Ls) g bs cs) => markSS_any p ca (lens Ls) 1 w' lo hi g bs cs h (by rw [lens_len]; exact hlm) hsm
  have HLS := fun (p : Option Addr) (ca : Nat) (w' : World) (lo hi : Nat) (h : RdS lo hi w' p (mkS 1 (lens Ls))) => heldSS_any p ca (lens Ls) 1 w' lo hi h (by rw [lens_len]; exact hlm) hsm
  simp only [hMK] at MKS HLS
  obtain ⟨M0, hM0⟩ : ∃ K, 1 + sumS (lens Ls) = K := ⟨_, rfl⟩
  rw [hM0] at MKS HLS
  replace MKS := Lib.hid MKS
  replace HLS := Lib.hid HLS
  obtain ⟨N, hN⟩ : ∃ N, Ls.length = N := ⟨_, rfl⟩
  have hK0 : ¬ (M0 : Int) < 0 := by omega
  rw [hN] at EQS MKS HLS
  have HN := Lib.hid hN
  clear hMK hlm hxm hsm hM0 hN
  go_enter Try.func3, Try.ntmps3
  go_wp2_with fail
  refine (S.out _).mono ?_
  rintro e w1 ⟨p0, c0, rfl, hR0, hb⟩
  have E_1 := Lib.hid (E_0.out.trans (hb.mono E_0.out.size))
  have Rs_1 := Lib.hid hR0
  have hz1 := hb.size
  rw [HN.out]
  clear E_0 hR0 hb
  go_wp2_with fail
  refine (I.out _).mono ?_
  rintro e w2 ⟨pg, cg, g, bs, cs, rfl, hRg, hOg, hb⟩
  have E_2 := Lib.hid (E_1.out.trans (hb.mono E_1.out.size))
  have Rs_2 := Lib.hid (Rs_1.out.bel hb)
  have Rg_2 := Lib.hid hRg
  have Og_2 := Lib.hid hOg
  have hz2 := hb.size
  rw [HN.out]
  clear E_1 Rs_1 hRg hOg hb
  go_wp2_with fail
  refine (EQS.out _ _ _ _ _ _ _ _ _ Rg_2.out Rs_2.out).mono ?_
  rintro e w3 ⟨rfl, hb⟩
  have E_3 := Lib.hid (E_2.out.trans (hb.mono E_2.out.size))
  have Rs_3 := Lib.hid (Rs_2.out.bel hb)
  have Og_3 := Lib.hid (Og_2.out.bel hb)
  clear E_2 Rs_2 Rg_2 Og_2 hb
  have MK := Lib.hid (MKS.out pg cg w3 _ _ _ _ _ Og_3.out)
  go_wp2_with fail
  refine MK.out.mono ?_
  rintro e w4 ⟨rfl, hm4, -, hk⟩
  have E_4 := Lib.hid (wkeepS E_3.out hk hz1 E_3.out.size)
  have Rs_4 := Lib.hid (Rs_3.out.keep hk (.inl (Nat.le_refl _)))
  have H_4 := Lib.hid hm4
  clear E_3 Rs_3 Og_3 hm4 hk MK
  go_wp2_with fail
  refine (HLS.out _ _ _ _ _ H_4.out).mono ?_
  rintro e w5 ⟨rfl, hb⟩
  have E_5 := Lib.hid (E_4.out.trans (hb.mono E_4.out.size))
  have Rs_5 := Lib.hid (Rs_4.out.bel hb)
  have H_5 := Lib.hid (H_4.out.bel hb)
  clear E_4 Rs_4 H_4 hb
  go_wp2_with fail
  refine (I.out _).mono ?_
  rintro e w6 ⟨ph, ch, g', bs', cs', rfl, hRh, -, hb⟩
  have E_6 := Lib.hid (E_5.out.trans (hb.mono E_5.out.size))
  have Rs_6 := Lib.hid (Rs_5.out.bel hb)
  have H_6 := Lib.hid (H_5.out.bel hb)
  have Rh_6 := Lib.hid hRh
  rw [HN.out]
  clear E_5 Rs_5 H_5 hRh hb
  go_wp2_with fail
  refine (EQS.out _ _ _ _ _ _ _ _ _ Rh_6.out Rs_6.out).mono ?_
  rintro e w7 ⟨rfl, hb⟩
  have E_7 := Lib.hid (E_6.out.trans (hb.mono E_6.out.size))
  have H_7 := Lib.hid (H_6.out.bel hb)
  clear E_6 Rs_6 Rh_6 H_6 hb
  go_wp2_with fail
  refine (HLS.out _ _ _ _ _ H_7.out).mono ?_
  rintro e w8 ⟨rfl, hb⟩
  have E_8 := Lib.hid (E_7.out.trans (hb.mono E_7.out.size))
  clear E_7 H_7 hb
  go_wp2_with fail
  go_ret
  exact ⟨rfl, E_8.out⟩
end Go.Proofs.Ytkbpfjhikabbmaa.allSeatings
