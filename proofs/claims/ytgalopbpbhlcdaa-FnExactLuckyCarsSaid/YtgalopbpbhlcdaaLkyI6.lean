/- Chapter 6, impl side: impl.AllPark, LuckyCars; both sides. -/
import Derived.Test.YtgalopbpbhlcdaaPkB6
import Derived.Test.YtgalopbpbhlcdaaLky6
import Derived.Test.YtgalopbpbhlcdaaHasI
namespace Go.Proofs.Ytgalopbpbhlcdaa
open Go.RowKit

set_option maxRecDepth 4000 in
set_option maxHeartbeats 1600000 in
theorem allParkI (s : Int) (ring : Bool) (p : Option Addr) (m0 cap : Nat) (q : Option Addr) (m c : Nat) (w : World) (s' : Int) (ring' : Bool) (L T : List Int) (B : Bool) (hll : L.length ≤ 1000)
    (h : ∀ w', Below w.heap.size w w' → Calls Try.prog 13 #[rowV s ring p m0 cap, .slice q m c] w' (MadePkS w' s' ring' L T B)) :
    Calls Try.prog 23 #[rowV s ring p m0 cap, .slice q m c] w fun e w' => e = .returned (.tuple #[.bool (B && !decide ((-1 : Int) ∈ L)), .bool B]) ∧ Below w.heap.size w w' := by
  have HE := Lib.hid (RowE.start w s ring p m0 cap)
  have PK := h
  unfold MadePkS at PK
  replace PK := Lib.hid PK
  clear h
  obtain ⟨c0, c1, c2, -⟩ := HE.out.row.three
  obtain ⟨D, hD⟩ : ∃ D, decide ((-1 : Int) ∈ L) = D := ⟨_, rfl⟩
  rw [hD]
  have HD := Lib.hid hD
  clear hD
  obtain ⟨ll, hl2⟩ : ∃ ll, L.length = ll := ⟨_, rfl⟩
  have HLL := Lib.hid hl2
  rw [hl2] at hll
  clear hl2
  go_enter Try.func23, Try.ntmps23
  go_wp2_with fail
  refine (PK.out _ HE.out.bel).mono ?_
  rintro e w2 ⟨v, u, rfl, hO, hU, -, hb2⟩
  obtain ⟨qu, cu, rfl, -⟩ := hU.rd
  obtain ⟨tl, htl⟩ : ∃ tl, T.length = tl := ⟨_, rfl⟩
  obtain ⟨qv, cv, rfl, -, -, hR, -⟩ := hO.rd
  have CT := contains_any qv cv L (-1) (w2.alloc (.cells #[.int .i64 s', .bool ring', .slice qu tl cu] 26)) _ _ (hR.bel (ext1 w2 _)) (by rw [HLL.out]; omega)
  rw [HD.out, HLL.out] at CT
  rw [htl, HLL.out]
  have HE2 := Lib.hid ((HE.out.next hb2).next (ext1 w2 (.cells #[.int .i64 s', .bool ring', .slice qu tl cu] 26)))
  replace CT := Lib.hid CT
  clear hb2 c0 c1 c2 PK HE hO hU hR htl
  cases B with
  | false =>
    go_wp2_with fail
    go_ret2
    exact ⟨rfl, HE2.out.bel⟩
  | true =>
    go_wp2_with fail
    refine CT.out.mono ?_
    rintro e w3 ⟨rfl, rfl⟩
    go_wp2_with fail
    go_ret2
    exact ⟨rfl, HE2.out.bel⟩

/-- whether number i of two lists is the same -/
def lkG (L cs : List Int) (i : Nat) : Bool := decide (L[i]?.getD 0 = cs[i]?.getD 0)

set_option maxRecDepth 4000 in
set_option maxHeartbeats 2000000 in
theorem luckyI (s : Int) (ring : Bool) (p : Option Addr) (m0 cap : Nat) (q : Option Addr) (cs : List Int) (c : Nat) (w : World) (lo2 hi2 : Nat) (s' : Int) (ring' : Bool) (L T : List Int) (B : Bool) (hin2 : Ri lo2 hi2 w q cs) (hLc : L.length ≤ cs.length) (hll : L.length ≤ 12)
    (h : ∀ w', Below w.heap.size w w' → Calls Try.prog 13 #[rowV s ring p m0 cap, .slice q cs.length c] w' (MadePkS w' s' ring' L T B)) :
    Calls Try.prog 27 #[rowV s ring p m0 cap, .slice q cs.length c] w fun e w' => ∃ v, e = .returned (.tuple #[v, .bool B]) ∧ Out w.heap.size w' v (ints (tk L.length (lkG L cs))) ∧ Below w.heap.size w w' := by
  obtain ⟨i0, hi0, hz0, hz1, hz2⟩ := info_parts infoInt
  have hE := (RowE.start w s ring p m0 cap).next (ext1 _ E0)
  have hO := (Out.nilLit (w.alloc (.cells #[.int .i64 s, .bool ring, .slice p m0 cap] 26)))
  rw [show (w.alloc (.cells #[.int .i64 s, .bool ring, .slice p m0 cap] 26)).heap.size = w.heap.size + 1 by simp] at hO
  have PK := h
  unfold MadePkS at PK
  replace PK := Lib.hid PK
  have HI2 := Lib.hid (fun (w' : World) (h' : Below w.heap.size w w') => hin2.below h' hin2.top)
  obtain ⟨m, hm⟩ : ∃ m, L.length = m := ⟨_, rfl⟩
  rw [hm] at hll hLc ⊢
  have HLL := Lib.hid hm
  have HM : Hid (m ≤ cs.length) := hLc
  obtain ⟨mc, hmc⟩ : ∃ mc, cs.length = mc := ⟨_, rfl⟩
  rw [hmc] at PK hLc ⊢
  have hmmc : (m : Int) ≤ (mc : Int) := by omega
  have HE := Lib.hid hE
  have HO := Lib.hid hO
  clear hin2 hE hO hm hmc h
  obtain ⟨c0, c1, c2, -⟩ := HE.out.row.three
  go_enter Try.func27, Try.ntmps27
  go_wp2_with fail
  obtain ⟨w1, hw1⟩ : ∃ w1, (w.alloc (.cells #[.int .i64 s, .bool ring, .slice p m0 cap] 26)).alloc E0 = w1 := ⟨_, rfl⟩
  rw [hw1] at HE HO ⊢
  have HE1 := HE
  have HO1 := HO
  clear HE HO hw1
  refine (PK.out _ HE1.out.bel).mono ?_
  rintro e w2 ⟨v, u, rfl, hO, hU, -, hb2⟩
  obtain ⟨qu, cu, rfl, -⟩ := hU.rd
  obtain ⟨tl, htl⟩ : ∃ tl, T.length = tl := ⟨_, rfl⟩
  rw [htl] at hU ⊢
  obtain ⟨qv, cv, rfl, -, -, -, -⟩ := hO.rd
  rw [HLL.out] at hO ⊢
  obtain ⟨ww, hww⟩ : ∃ ww, w2.alloc (.cells #[.int .i64 s', .bool ring', .slice qu tl cu] 26) = ww := ⟨_, rfl⟩
  have hE2 := (HE1.out.next hb2).next (ext1 w2 (.cells #[.int .i64 s', .bool ring', .slice qu tl cu] 26))
  have hV2 : Out w1.heap.size (w2.alloc (.cells #[.int .i64 s', .bool ring', .slice qu tl cu] 26)) (.slice qv m cv) L := World.ownsRow.alloc hO _
  have hO2 := Out.below (HO1.out.below hb2) (ext1 w2 (.cells #[.int .i64 s', .bool ring', .slice qu tl cu] 26))
  rw [hww] at hE2 hV2 hO2
  have HE2 := Lib.hid hE2
  have HV2 := Lib.hid hV2
  have HO2 : Hid (Out (w.heap.size + 1) ww (.slice (some ⟨w.heap.size + 1, 0, none⟩) 0 0) (ints (tk 0 (lkG L cs)))) := hO2
  have HNN : Hid (∀ b, (Value.slice (some ⟨w.heap.size + 1, 0, none⟩) 0 0).ownBlock = some b → (Value.slice qv m cv).ownBlock ≠ some b) := by
    show ∀ _, _
    intro b hb hc
    have h1 := own_block hO b hc
    have h2 := (World.ownsRow.lt HO1.out b hb).2
    omega
  have HW := Lib.hid hww
  clear hb2 c0 c1 c2 PK HE1 HO1 hO hU hE2 hV2 hO2 hww htl
  go_upto_region 3 with fail
  rw [HW.out]
  go_wp2_with fail
  go_loopw [6, 22, 10, 11] (fun v i _ _ wr => ∃ (j : Nat), j ≤ m ∧ i = .int .i64 (j : Int) ∧ Hid (RowE w s ring p m0 cap wr) ∧ Hid (Out w1.heap.size wr (.slice qv m cv) L) ∧ Hid (Out (w.heap.size + 1) wr v (ints (tk j (lkG L cs)))) ∧ Hid (∀ b, v.ownBlock = some b → (Value.slice qv m cv).ownBlock ≠ some b)) (fun _ i _ _ _ => m - (intOf i).toNat)
  case atStart => exact ⟨0, Nat.zero_le _, rfl, HE2, HV2, HO2, HNN⟩
  case round =>
    obtain ⟨j, hj, rfl, HE, HV, HO, HN⟩ := hrel
    clear HE2 HV2 HO2 HNN HW
    by_cases hlt : j < m
    · have hj1 : (j : Int) < (m : Int) := by omega
      have hj0 : (0 : Int) ≤ (j : Int) := by omega
      have hjl : j < cs.length := by have := HM.out; omega
      have hjL : j < L.length := by rw [HLL.out]; exact hlt
      obtain ⟨b, off, rfl, -, -, hbw, hc⟩ := (HI2.out wr HE.out.bel).int (by omega)
      have h0 := hc j hjl
      obtain ⟨bv, ov, e, -, -, -, hcv⟩ := (HV.out.riK).int (by omega)
      subst e
      have h1 := hcv j hjL
      have hT1 := ints_tk_succ j (lkG L cs)
      have hbd : lkG L cs j = decide (L[j]?.getD 0 = cs[j]?.getD 0) := rfl
      obtain ⟨x, hx⟩ : ∃ x, cs[j]?.getD 0 = x := ⟨_, rfl⟩
      obtain ⟨y, hy⟩ : ∃ y, L[j]?.getD 0 = y := ⟨_, rfl⟩
      rw [hx] at h0 hbd
      rw [hy] at h1 hbd
      rw [hbd] at hT1
      have HT1 := Lib.hid hT1
      clear hc hcv hbw hx hy hT1 hbd
      by_cases hxy : y = x
      · subst hxy
        have HT2 : Hid (ints (tk (j + 1) (lkG L cs)) = ints (tk j (lkG L cs)) ++ [(j : Int)]) := by show _ = _; rw [HT1.out, decide_eq_true rfl]; rfl
        have HL2 := Lib.hid (ints_tk_len j (lkG L cs))
        have hm12 := hll
        clear HT1
        have hD : Below wr.heap.size wr wr := Below.refl _ _
        have HE3 := Lib.hid (HE.out.next hD)
        have HV3 := Lib.hid (HV.out.below hD)
        have HO3 := Lib.hid (HO.out.below hD)
        clear hD HE HV HO
        have hblk := Lib.hid (own_block HO3.out)
        have hrl := HE3.out.row.lt
        obtain ⟨l2, vs, hl2, hvs, hown⟩ := HO3.out.open'
        have hlk := HL2.out
        rw [hl2] at hlk
        replace hl2 := Lib.hid hl2
        replace hvs := Lib.hid hvs
        go_wp2_with (at_builtin; refine wpList_append_own_at _ rfl _ _ 22 rfl (w.heap.size + 1) 3 i0 (.int .i64 0) 1 8 Try.underlying22 hi0 hz0 hz1 hz2 rfl (by decide) _ _ _ rfl (hown.alloc _) ⟨wr.heap.size, 0, none⟩ 1 1 [.int .i64 ((j : Int))] rfl rfl (cell_one_new _ _ _) (fun x hx => by simp at hx; subst hx; rfl) (by unfold maxLen; omega) (by omega) (by simp; omega) ?_; intro v' w4 hown' hgrow4 hnil4 hat4)
        have hG : Below (w.heap.size + 1) wr w4 := ((Below.refl (w.heap.size + 1) wr).alloc (by omega) _).grown hgrow4 (by simp; omega) hblk.out
        have HE4 := Lib.hid (HE3.out.next1 hG)
        have HO4 : Hid (Out (w.heap.size + 1) w4 v' (ints (tk (j + 1) (lkG L cs)))) := by
          show Out _ _ _ _
          rw [HT2.out]; exact Out.close hl2.out hvs.out hown'
        have HV4 : Hid (Out w1.heap.size w4 (.slice (some ⟨bv, ov, none⟩) m cv) L) := World.ownsRow.kept (World.ownsRow.alloc HV3.out _) hgrow4 (not_own HN.out)
        have HN4 : Hid (∀ b, v'.ownBlock = some b → (Value.slice (some ⟨bv, ov, none⟩) m cv).ownBlock ≠ some b) := by
          show ∀ _, _
          intro b hb hc
          rcases hat4 with h | h
          · rw [h] at hb; exact HN.out b hb hc
          · rw [h] at hb
            have h1 := (World.ownsRow.lt HV3.out b hc).2
            simp at hb
            omega
        clear hown' hgrow4 hnil4 hat4 hown hG hblk HE3 HV3 HO3 HN hrl h0 h1
        go_wp2_with fail
        go_roundw
        case rel => exact ⟨j + 1, by omega, by go_num, HE4, HV4, HO4, HN4⟩
        case measure => simp [intOf]; omega
      · have HT2 : Hid (ints (tk (j + 1) (lkG L cs)) = ints (tk j (lkG L cs))) := by show _ = _; rw [HT1.out, decide_eq_false hxy, if_neg (by simp), List.append_nil]
        clear HT1
        have hD : Below wr.heap.size wr wr := Below.refl _ _
        have HE3 := Lib.hid (HE.out.next hD)
        have HV3 := Lib.hid (HV.out.below hD)
        have HO3 := Lib.hid (HO.out.below hD)
        clear hD HE HV HO
        have ho4 := HO3.out
        rw [← HT2.out] at ho4
        have HO4 := Lib.hid ho4
        clear ho4 HO3
        go_wp2_with fail
        go_roundw
        case rel => exact ⟨j + 1, by omega, by go_num, HE3, HV3, HO4, HN⟩
        case measure => simp [intOf]; omega
    · have hjm : j = m := by omega
      subst hjm
      have hj1 : ¬ (j : Int) < (j : Int) := by omega
      go_wp2_with fail
      go_ret2
      exact ⟨_, rfl, HO.out.mono (Nat.le_succ _), HE.out.bel⟩

theorem allPark_both (s0 : Int) (r0 : Bool) (xs0 : List Int) (xs1 : List Int) : ∃ (y0 : Bool) (y1 : Bool), (∀ (q0 : Option Addr) (c0 : Nat) (q1 : Option Addr) (c1 : Nat) (w : World) (lo0 hi0 : Nat) (lo1 hi1 : Nat), Ri lo0 hi0 w q0 xs0 → xs0.length ≤ 1048576 → xs0.length ≤ c0 → c0 ≤ maxLen → Ri lo1 hi1 w q1 xs1 → xs1.length ≤ 1048576 → xs1.length ≤ c1 → c1 ≤ maxLen → Calls Try.prog 22 #[rowV s0 r0 q0 xs0.length c0, .slice q1 xs1.length c1] w fun e w' => e = .returned (.tuple #[.bool y0, .bool y1]) ∧ Below w.heap.size w w') ∧ (∀ (q0 : Option Addr) (c0 : Nat) (q1 : Option Addr) (c1 : Nat) (w : World) (lo0 hi0 : Nat) (lo1 hi1 : Nat), Ri lo0 hi0 w q0 xs0 → xs0.length ≤ 1048576 → xs0.length ≤ c0 → c0 ≤ maxLen → Ri lo1 hi1 w q1 xs1 → xs1.length ≤ 1048576 → xs1.length ≤ c1 → c1 ≤ maxLen → Calls Try.prog 23 #[rowV s0 r0 q0 xs0.length c0, .slice q1 xs1.length c1] w fun e w' => e = .returned (.tuple #[.bool y0, .bool y1]) ∧ Below w.heap.size w w') := by
  cases h : carsB s0 r0 xs0 xs1 with
  | false => exact ⟨false, false, fun q0 c0 q1 c1 w lo hi lo2 hi2 h1 h2 _ _ h3 h4 _ _ => allParkS_bad s0 r0 q0 c0 xs0 q1 c1 xs1 w lo hi lo2 hi2 h1 h2 h3 h4 h, fun q0 c0 q1 c1 w lo hi lo2 hi2 h1 h2 _ _ h3 h4 _ _ => allParkI s0 r0 q0 _ c0 q1 _ c1 w 0 false [] [] false (by simp) (fun w' h' => parkCarsI_bad s0 r0 q0 c0 xs0 q1 c1 xs1 w' lo hi lo2 hi2 (h1.below h' h1.top) h2 (h3.below h' h3.top) h4 h)⟩
  | true =>
    obtain ⟨n, S, l, rfl, rfl, rfl, h2, hn, h3, hl, hll⟩ := carsB_is h
    exact ⟨_, _, fun q0 c0 q1 c1 w lo hi lo2 hi2 h1 _ _ _ h3' _ _ _ => allParkS_any n r0 q0 c0 S q1 c1 l w lo hi lo2 hi2 h1 h2 hn h3' hl hll h, fun q0 c0 q1 c1 w lo hi lo2 hi2 h1 _ _ _ h3' _ _ _ => (allParkI n r0 q0 _ c0 q1 _ c1 w n r0 _ _ true (by rw [pk_len]; omega) (fun w' h' => parkCarsI_any n r0 q0 c0 S q1 c1 l w' lo hi lo2 hi2 (h1.below h' h1.top) hn (h3'.below h' h3'.top) hl hll h)).mono fun e w' he => ⟨by rw [he.1, Bool.true_and], he.2⟩⟩
theorem luckyCars_both (s0 : Int) (r0 : Bool) (xs0 : List Int) (xs1 : List Int) : ∃ (L0 : List Int) (y1 : Bool), L0.length ≤ 1000 ∧ (∀ (q0 : Option Addr) (c0 : Nat) (q1 : Option Addr) (c1 : Nat) (w : World) (lo0 hi0 : Nat) (lo1 hi1 : Nat), Ri lo0 hi0 w q0 xs0 → xs0.length ≤ 1048576 → xs0.length ≤ c0 → c0 ≤ maxLen → Ri lo1 hi1 w q1 xs1 → xs1.length ≤ 1048576 → xs1.length ≤ c1 → c1 ≤ maxLen → Calls Try.prog 26 #[rowV s0 r0 q0 xs0.length c0, .slice q1 xs1.length c1] w fun e w' => ∃ v0, e = .returned (.tuple #[v0, .bool y1]) ∧ Out w.heap.size w' v0 L0 ∧ Below w.heap.size w w') ∧ (∀ (q0 : Option Addr) (c0 : Nat) (q1 : Option Addr) (c1 : Nat) (w : World) (lo0 hi0 : Nat) (lo1 hi1 : Nat), Ri lo0 hi0 w q0 xs0 → xs0.length ≤ 1048576 → xs0.length ≤ c0 → c0 ≤ maxLen → Ri lo1 hi1 w q1 xs1 → xs1.length ≤ 1048576 → xs1.length ≤ c1 → c1 ≤ maxLen → Calls Try.prog 27 #[rowV s0 r0 q0 xs0.length c0, .slice q1 xs1.length c1] w fun e w' => ∃ v0, e = .returned (.tuple #[v0, .bool y1]) ∧ Out w.heap.size w' v0 L0 ∧ Below w.heap.size w w') := by
  cases h : carsB s0 r0 xs0 xs1 with
  | false => exact ⟨[], false, by simp, fun q0 c0 q1 c1 w lo hi lo2 hi2 h1 h2 _ _ h3 h4 _ _ => luckyS_bad s0 r0 q0 c0 xs0 q1 c1 xs1 w lo hi lo2 hi2 h1 h2 h3 h4 h, fun q0 c0 q1 c1 w lo hi lo2 hi2 h1 h2 _ _ h3 h4 _ _ => luckyI s0 r0 q0 _ c0 q1 xs1 c1 w lo2 hi2 0 false [] [] false h3 (by simp) (by simp) (fun w' h' => parkCarsI_bad s0 r0 q0 c0 xs0 q1 c1 xs1 w' lo hi lo2 hi2 (h1.below h' h1.top) h2 (h3.below h' h3.top) h4 h)⟩
  | true =>
    obtain ⟨n, S, l, rfl, rfl, rfl, h2, hn, h3, hl, hll⟩ := carsB_is h
    have e : ints (tk (pkM n r0 0 S l l.length).length (lkG (pkM n r0 0 S l l.length) (ints l))) = ints (tk l.length (lkyB n r0 S l)) := by
      rw [pk_len]
      congr 1
      refine tk_congr fun k hk => ?_
      unfold lkG lkyB
      rw [pk_get hk, ints_get hk]
    exact ⟨_, _, Nat.le_trans (ints_tk_len _ _) (by omega), fun q0 c0 q1 c1 w lo hi lo2 hi2 h1 _ _ _ h3' _ _ _ => luckyS_any n r0 q0 c0 S q1 c1 l w lo hi lo2 hi2 h1 h2 hn h3' hl hll h, fun q0 c0 q1 c1 w lo hi lo2 hi2 h1 _ _ _ h3' _ _ _ => (luckyI n r0 q0 _ c0 q1 (ints l) c1 w lo2 hi2 n r0 _ _ true h3' (by rw [pk_len, ints_length]; exact Nat.le_refl _) (by rw [pk_len]; exact hll) (fun w' h' => parkCarsI_any n r0 q0 c0 S q1 c1 l w' lo hi lo2 hi2 (h1.below h' h1.top) hn (h3'.below h' h3'.top) hl hll h)).mono fun e' w' ⟨v, he, ho, hb⟩ => ⟨v, he, by rw [← e]; exact ho, hb⟩⟩
end Go.Proofs.Ytgalopbpbhlcdaa
