/- FnExactCallGroups's walk: for all arguments both functions give the same, in memory of the call's own. -/
import Derived.Test.YtkbpfjhikabbmaaGrC7
import Derived.Test.YtkbpfjhikabbmaaLst
import Derived.Test.YtkbpfjhikabbmaaSSto
import Derived.Deep.DeepCutAuto
import Derived.Deep.RegionWith
namespace Go.Proofs.Ytkbpfjhikabbmaa.callGroups
open Go.RowKit

theorem lens_le {Ls : List (List Int)} (h : Ls.length + sumS (lens Ls) ≤ 1048576) : ∀ x ∈ Ls, x.length ≤ 1048576 := by
  intro x hx
  obtain ⟨i, hi, rfl⟩ := List.mem_iff_getElem.1 hx
  have := sumS_le (ns := lens Ls) (i := i) (by rw [lens_len]; exact hi)
  have e : (lens Ls)[i]?.getD 0 = Ls[i].length := by unfold lens; rw [List.getElem?_map, List.getElem?_eq_getElem hi]; rfl
  omega
theorem callGroups_both (a0 : Int) (Ls : List (List Int)) : ∃ (L0 : List Int) (y1 : Bool), L0.length ≤ 1000 ∧ (∀ (q1 : Option Addr) (c1 : Nat) (w : World) (lo1 hi1 : Nat), RdS lo1 hi1 w q1 Ls → Ls.length + sumS (lens Ls) ≤ 1048576 → Calls Try.prog 17 #[.int .i64 a0, .slice q1 Ls.length c1] w fun e w' => ∃ v0, e = .returned (.tuple #[v0, .bool y1]) ∧ Out w.heap.size w' v0 L0 ∧ Below w.heap.size w w') ∧ (∀ (q1 : Option Addr) (c1 : Nat) (w : World) (lo1 hi1 : Nat), RdS lo1 hi1 w q1 Ls → Ls.length + sumS (lens Ls) ≤ 1048576 → Calls Try.prog 19 #[.int .i64 a0, .slice q1 Ls.length c1] w fun e w' => ∃ v0, e = .returned (.tuple #[v0, .bool y1]) ∧ Out w.heap.size w' v0 L0 ∧ Below w.heap.size w w') := by
  refine ⟨cgR a0 Ls, cgB a0 Ls, ?_, fun q c w lo hi h hl => callGroupsS_any a0 q c Ls w lo hi h hl, fun q c w lo hi h hl => callGroupsI_any a0 q c Ls w lo hi h hl⟩
  unfold cgR
  split
  · rename_i h
    unfold cgB at h
    rw [Bool.and_eq_true] at h
    obtain ⟨n, rfl, h1, h10⟩ := rowsB_is h.1
    have := h.2
    unfold orderB at this
    rw [Bool.and_eq_true, decide_eq_true_eq] at this
    omega
  · simp

set_option maxRecDepth 4000 in
set_option maxHeartbeats 8000000 in
theorem walk (a0 : Int) (q1 : Option Addr) (c1 : Nat) (Ls : List (List Int)) (w : World) (_ : -9223372036854775808 ≤ a0 ∧ a0 ≤ 9223372036854775807) (hin1 : RdS 0 w.heap.size w q1 Ls) (hlen1 : Ls.length ≤ 9223372036854775807) (hx1 : ∀ x ∈ Ls, x.length ≤ 9223372036854775807) :
    Calls Try.prog 5 #[.int .i64 a0, .slice q1 Ls.length c1] w fun e w' => e = .returned (.bool true) ∧ Below w.heap.size w w' := by
  have E_0 := Lib.hid (Below.refl w.heap.size w)
  have N1_0 := Lib.hid hin1
  have SZ := szSS_any q1 c1 Ls w _ _ hin1 hlen1 hx1
  clear hin1
  by_cases hl1 : Ls.length + sumS (lens Ls) ≤ 1048576
  case neg =>
    rw [if_neg hl1] at SZ
    replace SZ := Lib.hid SZ
    go_enter Try.func5, Try.ntmps5
    go_wp2_with fail
    refine SZ.out.mono ?_
    rintro e w1 ⟨rfl, rfl⟩
    go_wp2_with fail
    go_ret
    exact ⟨rfl, E_0.out⟩
  rw [if_pos hl1] at SZ
  replace SZ := Lib.hid SZ
  have hlm : Ls.length ≤ 1048576 := by omega
  have hxm : ∀ x ∈ Ls, x.length ≤ 1048576 := lens_le hl1
  have HXM := Lib.hid hxm
  have HLL := Lib.hid hl1
  have hsm : 1 + sumS (lens Ls) ≤ 10000000 := by omega
  obtain ⟨N, hN⟩ : ∃ N, Ls.length + sumS (lens Ls) = N := ⟨_, rfl⟩
  rw [hN] at SZ hl1
  have hg1 : ¬ ((1048576 : Int) - (N : Int)) < 0 := by omega
  have TO := fun (w' : World) (h : RdS 0 w.heap.size w' q1 Ls) => toSS_any q1 c1 Ls w' _ _ h hlm hxm
  replace TO := Lib.hid TO
  have EQS := Lib.hid (fun (p p' : Option Addr) (ca cb : Nat) (w' : World) (l1 h1 l2 h2 : Nat) (x : RdS l1 h1 w' p Ls) (y : RdS l2 h2 w' p' Ls) => eqSS_same p p' ca cb Ls w' l1 h1 l2 h2 x y hlm hxm)
  have MKS := Lib.hid (fun (p : Option Addr) (ca : Nat) (w' : World) (lo hi g : Nat) (bs cs : Nat → Nat) (h : OwnS lo hi w' p (lens Ls) g bs cs) => markSS_any p ca (lens Ls) 1 w' lo hi g bs cs h (by rw [lens_len]; exact hlm) hsm)
  have hMK : ∀ p ca, (Value.slice p (lens Ls).length ca) = .slice p Ls.length ca := fun p ca => by rw [lens_len]
  simp only [hMK] at MKS
  clear hxm hMK hx1 hN
  obtain ⟨L0, y1, hL0, S, I⟩ := callGroups_both a0 Ls
  replace S := Lib.hid S
  replace I := Lib.hid I
  obtain ⟨n0, hn0⟩ : ∃ n, L0.length = n := ⟨_, rfl⟩
  rw [hn0] at hL0
  replace hn0 := Lib.hid hn0
  go_enter Try.func5, Try.ntmps5
  go_wp2_with fail
  refine SZ.out.mono ?_
  rintro e w1 ⟨rfl, rfl⟩
  clear SZ
  go_wp2_with fail
  refine (TO.out _ N1_0.out).mono ?_
  rintro e w1 ⟨g1, bs1, rfl, hC1, hb⟩
  have E_1 := Lib.hid (E_0.out.trans (hb.mono E_0.out.size))
  have N1_1 := Lib.hid (N1_0.out.bel hb)
  clear E_0 N1_0 hb
  have Ks1 := Lib.hid hC1.rds
  clear hC1
  go_wp2_with fail
  refine (S.out _ _ _ _ _ Ks1.out HLL.out).mono ?_
  rintro e w2 ⟨v0', rfl, hO0, hb⟩
  obtain ⟨ps0, ks0, rfl, -, -, hR0, hW0⟩ := hO0.rd
  have hsqs := hb.size
  have E_2 := Lib.hid (E_1.out.trans (hb.mono E_1.out.size))
  have N1_2 := Lib.hid (N1_1.out.bel hb)
  have Ks1_2 := Lib.hid (Ks1.out.bel hb)
  clear E_1 N1_1 Ks1 hb
  have Rs0 := Lib.hid hR0
  clear hO0 hR0 hW0
  rw [hn0.out]
  clear Ks1_2
  have hz0 := E_2.out.size
  go_wp2_with fail
  refine (TO.out _ N1_2.out).mono ?_
  rintro e w3 ⟨gx1, bx1, rfl, hox, hb⟩
  have D1 := Lib.hid hox.owns
  have DR1 := Lib.hid hox.rds
  have hsx1 := hb.size
  clear hox
  have E_3 := Lib.hid (E_2.out.trans (hb.mono E_2.out.size))
  have N1_3 := Lib.hid (N1_2.out.bel hb)
  have Rs0_3 := Lib.hid (Rs0.out.bel hb)
  clear E_2 N1_2 Rs0 hb
  go_wp2_with fail
  refine (I.out _ _ _ _ _ DR1.out HLL.out).mono ?_
  rintro e w4 ⟨v0', rfl, hO0, hb⟩
  obtain ⟨pg0, kg0, rfl, -, -, hR0, hW0⟩ := hO0.rd
  have hsqg := hb.size
  have E_4 := Lib.hid (E_3.out.trans (hb.mono E_3.out.size))
  have N1_4 := Lib.hid (N1_3.out.bel hb)
  have Rs0_4 := Lib.hid (Rs0_3.out.bel hb)
  have D1_4 := Lib.hid (D1.out.bel hb)
  have DR1_4 := Lib.hid (DR1.out.bel hb)
  clear E_3 N1_3 Rs0_3 D1 DR1 hb
  have Rg0 := Lib.hid hR0
  have Og0 := Lib.hid hW0
  clear hO0 hR0 hW0
  rw [hn0.out] at Og0 ⊢
  have hzg := E_4.out.size
  have EQ0 := Lib.hid (fun (qa qb : Option Addr) (ca cb : Nat) (w' : World) (l1 h1 l2 h2 : Nat) (x : Ri l1 h1 w' qa L0) (y : Ri l2 h2 w' qb L0) => eqI_same qa qb ca cb L0 w' l1 h1 l2 h2 x y (by rw [hn0.out]; omega))
  rw [hn0.out] at EQ0
  go_wp2_with fail
  refine (EQ0.out _ _ _ _ _ _ _ _ _ Rg0.out Rs0_4.out).mono ?_
  rintro e w5 ⟨rfl, hb⟩
  have E_5 := Lib.hid (E_4.out.trans (hb.mono E_4.out.size))
  have N1_5 := Lib.hid (N1_4.out.bel hb)
  have Rs0_5 := Lib.hid (Rs0_4.out.bel hb)
  have D1_5 := Lib.hid (D1_4.out.bel hb)
  have DR1_5 := Lib.hid (DR1_4.out.bel hb)
  have Rg0_5 := Lib.hid (Rg0.out.bel hb)
  have Og0_5 := Lib.hid (Og0.out.bel hb)
  clear E_4 N1_4 Rs0_4 D1_4 DR1_4 Rg0 Og0 hb
  go_wp2_with fail
  refine (TO.out _ N1_5.out).mono ?_
  rintro e w6 ⟨gy1, by1, rfl, hoy, hb⟩
  have E_6 := Lib.hid (E_5.out.trans (hb.mono E_5.out.size))
  have N1_6 := Lib.hid (N1_5.out.bel hb)
  have Rs0_6 := Lib.hid (Rs0_5.out.bel hb)
  have D1_6 := Lib.hid (D1_5.out.bel hb)
  have DR1_6 := Lib.hid (DR1_5.out.bel hb)
  have Rg0_6 := Lib.hid (Rg0_5.out.bel hb)
  have Og0_6 := Lib.hid (Og0_5.out.bel hb)
  clear E_5 N1_5 Rs0_5 D1_5 DR1_5 Rg0_5 Og0_5 hb
  have Y1 := Lib.hid hoy.rds
  clear hoy
  go_wp2_with fail
  refine (EQS.out _ _ _ _ _ _ _ _ _ DR1_6.out Y1.out).mono ?_
  rintro e w7 ⟨rfl, hb⟩
  clear Y1
  have E_7 := Lib.hid (E_6.out.trans (hb.mono E_6.out.size))
  have N1_7 := Lib.hid (N1_6.out.bel hb)
  have Rs0_7 := Lib.hid (Rs0_6.out.bel hb)
  have D1_7 := Lib.hid (D1_6.out.bel hb)
  have DR1_7 := Lib.hid (DR1_6.out.bel hb)
  have Rg0_7 := Lib.hid (Rg0_6.out.bel hb)
  have Og0_7 := Lib.hid (Og0_6.out.bel hb)
  clear E_6 N1_6 Rs0_6 D1_6 DR1_6 Rg0_6 Og0_6 hb
  have MK := Lib.hid (MKS.out _ Ls.length w7 _ _ _ _ _ D1_7.out)
  obtain ⟨M0, hM0⟩ : ∃ K, 1 + sumS (lens Ls) = K := ⟨_, rfl⟩
  rw [hM0] at MK
  have hK0 : ¬ (M0 : Int) < 0 := by omega
  go_wp2_with fail
  refine MK.out.mono ?_
  rintro e w8 ⟨rfl, -, -, hk⟩
  have E_8 := Lib.hid (wkeep E_7.out hk (by first | omega | (simp; done) | (simp; omega)) E_7.out.size)
  have N1_8 := Lib.hid (N1_7.out.keep hk (by first | (left; omega) | (right; omega) | (left; simp; done) | (right; simp; done) | (left; simp; omega) | (right; simp; omega)))
  have Rs0_8 := Lib.hid (Rs0_7.out.keep hk (by first | (left; omega) | (right; omega) | (left; simp; done) | (right; simp; done) | (left; simp; omega) | (right; simp; omega)))
  have Rg0_8 := Lib.hid (Rg0_7.out.keep hk (by first | (left; omega) | (right; omega) | (left; simp; done) | (right; simp; done) | (left; simp; omega) | (right; simp; omega)))
  have Og0_8 := Lib.hid (Og0_7.out.keep hk (by first | (left; omega) | (right; omega) | (left; simp; done) | (right; simp; done) | (left; simp; omega) | (right; simp; omega)))
  clear E_7 N1_7 Rs0_7 Rg0_7 Og0_7 hk D1_7 DR1_7
  clear MK
  go_wp2_with fail
  refine (EQ0.out _ _ _ _ _ _ _ _ _ Rg0_8.out Rs0_8.out).mono ?_
  rintro e w9 ⟨rfl, hb⟩
  have E_9 := Lib.hid (E_8.out.trans (hb.mono E_8.out.size))
  have N1_9 := Lib.hid (N1_8.out.bel hb)
  have Rs0_9 := Lib.hid (Rs0_8.out.bel hb)
  have Rg0_9 := Lib.hid (Rg0_8.out.bel hb)
  have Og0_9 := Lib.hid (Og0_8.out.bel hb)
  clear E_8 N1_8 Rs0_8 Rg0_8 Og0_8 hb
  clear Rg0_9
  have MI := Lib.hid (markI_any pg0 _ _ n0 kg0 1 w9 Og0_9.out (by omega))
  obtain ⟨Q0, hQ0⟩ : ∃ M, 1 + n0 = M := ⟨_, rfl⟩
  rw [hQ0] at MI
  have hQ00 : ¬ (Q0 : Int) < 0 := by omega
  go_wp2_with fail
  refine MI.out.mono ?_
  rintro e w10 ⟨rfl, hq, -, hk⟩
  have E_10 := Lib.hid (wkeep E_9.out hk (by first | omega | (simp; done) | (simp; omega)) E_9.out.size)
  have N1_10 := Lib.hid (N1_9.out.keep hk (by first | (left; omega) | (right; omega) | (left; simp; done) | (right; simp; done) | (left; simp; omega) | (right; simp; omega)))
  have Rs0_10 := Lib.hid (Rs0_9.out.keep hk (by first | (left; omega) | (right; omega) | (left; simp; done) | (right; simp; done) | (left; simp; omega) | (right; simp; omega)))
  clear E_9 N1_9 Rs0_9 hk Og0_9
  have H0 := Lib.hid hq
  clear hq MI
  have HI0 := Lib.hid (fun w' (la ha : Nat) (h : Ri la ha w' pg0 (mk 1 (n0))) => heldI_any pg0 la ha n0 kg0 1 w' h (by omega))
  rw [hQ0] at HI0
  go_wp2_with fail
  refine (HI0.out _ _ _ H0.out).mono ?_
  rintro e w11 ⟨rfl, hb⟩
  have E_11 := Lib.hid (E_10.out.trans (hb.mono E_10.out.size))
  have N1_11 := Lib.hid (N1_10.out.bel hb)
  have Rs0_11 := Lib.hid (Rs0_10.out.bel hb)
  have H0_11 := Lib.hid (H0.out.bel hb)
  clear E_10 N1_10 Rs0_10 H0 hb
  go_wp2_with fail
  refine (TO.out _ N1_11.out).mono ?_
  rintro e w12 ⟨gh1, bh1, rfl, hoh1, hb⟩
  have E_12 := Lib.hid (E_11.out.trans (hb.mono E_11.out.size))
  have N1_12 := Lib.hid (N1_11.out.bel hb)
  have Rs0_12 := Lib.hid (Rs0_11.out.bel hb)
  have H0_12 := Lib.hid (H0_11.out.bel hb)
  clear E_11 N1_11 Rs0_11 H0_11 hb
  have Kh1 := Lib.hid hoh1.rds
  clear hoh1
  go_wp2_with fail
  refine (I.out _ _ _ _ _ Kh1.out HLL.out).mono ?_
  rintro e w13 ⟨v0', rfl, hO0, hb⟩
  obtain ⟨ph0, kh0, rfl, -, -, hR0, hW0⟩ := hO0.rd
  have hsqh := hb.size
  have E_13 := Lib.hid (E_12.out.trans (hb.mono E_12.out.size))
  have N1_13 := Lib.hid (N1_12.out.bel hb)
  have Rs0_13 := Lib.hid (Rs0_12.out.bel hb)
  have H0_13 := Lib.hid (H0_12.out.bel hb)
  have Kh1_13 := Lib.hid (Kh1.out.bel hb)
  clear E_12 N1_12 Rs0_12 H0_12 Kh1 hb
  have Rh0 := Lib.hid hR0
  clear hO0 hR0 hW0
  rw [hn0.out]
  clear Kh1_13
  go_wp2_with fail
  refine (EQ0.out _ _ _ _ _ _ _ _ _ Rh0.out Rs0_13.out).mono ?_
  rintro e w14 ⟨rfl, hb⟩
  have E_14 := Lib.hid (E_13.out.trans (hb.mono E_13.out.size))
  have N1_14 := Lib.hid (N1_13.out.bel hb)
  have Rs0_14 := Lib.hid (Rs0_13.out.bel hb)
  have H0_14 := Lib.hid (H0_13.out.bel hb)
  have Rh0_14 := Lib.hid (Rh0.out.bel hb)
  clear E_13 N1_13 Rs0_13 H0_13 Rh0 hb
  clear Rh0_14 Rs0_14
  go_wp2_with fail
  refine (HI0.out _ _ _ H0_14.out).mono ?_
  rintro e w15 ⟨rfl, hb⟩
  have E_15 := Lib.hid (E_14.out.trans (hb.mono E_14.out.size))
  have N1_15 := Lib.hid (N1_14.out.bel hb)
  have H0_15 := Lib.hid (H0_14.out.bel hb)
  clear E_14 N1_14 H0_14 hb
  go_wp2_with fail
  go_ret
  exact ⟨rfl, E_15.out⟩
end Go.Proofs.Ytkbpfjhikabbmaa.callGroups
