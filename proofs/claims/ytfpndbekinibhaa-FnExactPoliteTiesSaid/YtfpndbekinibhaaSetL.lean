/- spec.l3Settle: newcomers settle, for every valid Row in memory of the call's own. -/
import Derived.Test.YtfpndbekinibhaaAfter0
import Derived.Test.YtfpndbekinibhaaPol2
namespace Go.Proofs.Ytfpndbekinibhaa
open Go.RowKit

set_option maxRecDepth 4000 in
set_option maxHeartbeats 2000000 in
theorem settleL_any (n : Nat) (ring : Bool) (p : Option Addr) (cap : Nat) (S : Nat → Bool) (w : World) (B : Nat) (hin : Out B w (.slice p (ints (tk n S)).length cap) (ints (tk n S))) (hBw : B ≤ w.heap.size) (h2 : 2 ≤ n) (hn : n ≤ 24) :
    Calls Try.prog 62 #[rowV n ring p (ints (tk n S)).length cap] w fun e w' => ∃ u, e = .returned (.tuple #[.agg #[.int .i64 n, .bool ring, u], .int .i64 ((ordM n ring 2 24 S).length : Nat)]) ∧ Out B w' u (ints (tk n (aftM n ring 2 24 S))) ∧ Below w.heap.size w w' := by
  have hE := Beg.start w n ring p (ints (tk n S)).length cap
  have hO := hin.below hE.bel
  obtain ⟨m0, hm⟩ : ∃ m, (ints (tk n S)).length = m := ⟨_, rfl⟩
  rw [hm] at hE hO ⊢
  have HM := Lib.hid hm
  have HX0 := Lib.hid hE.row
  have HZ0 := Lib.hid hE.res
  have HB0 := Lib.hid hE.bel
  have HU0 := Lib.hid hO
  clear hE hO hin hm
  go_enter Try.func62, Try.ntmps62
  go_wp2_with fail
  go_loopw [4, 5] (fun mv _ wr => ∃ (T : Nat → Bool) (d rem : Nat) (q : Option Addr) (c m : Nat), d ≤ 24 ∧ mv = .int .i64 d ∧ Hid (d + rem = 24) ∧ Hid ((tk n T).length = (tk n S).length + d) ∧ Hid (d + (ordM n ring 2 rem T).length = (ordM n ring 2 24 S).length ∧ aftM n ring 2 rem T = aftM n ring 2 24 S) ∧ Hid ((ints (tk n T)).length = m) ∧ Hid (OwnArr wr w.heap.size 31 [.int .i64 n, .bool ring, .slice q m c]) ∧ Hid (OwnArr wr (w.heap.size + 1) 31 [.int .i64 0, .bool false, .slice none 0 0]) ∧ Hid (Out B wr (.slice q m c) (ints (tk n T))) ∧ Hid (Below w.heap.size w wr)) (fun mv _ _ => 24 - (intOf mv).toNat)
  case atStart => exact ⟨S, 0, 24, p, cap, m0, by omega, rfl, Lib.hid rfl, Lib.hid rfl, Lib.hid ⟨by omega, rfl⟩, HM, HX0, HZ0, HU0, HB0⟩
  case round =>
    obtain ⟨T, d, rem, q, c, m, hd, rfl, HDR, HDL, HOA, HM2, HX, HZ, HU, HB⟩ := hrel
    clear HX0 HZ0 HU0 HB0
    obtain ⟨c0, c1, c2, -⟩ := HX.out.three
    have PA := politeS_any n ring q c T wr _ _ HU.out.ri.1 h2 hn
    have FA := Lib.hid (fun (a : Nat) (ha : a < n) (w' : World) (h' : Below wr.heap.size wr w') => farS_any n ring q c (tk n T) a w' _ _ (HU.out.ri.1.bel h') (fun x hx => (mem_tk.1 hx).1) (by have := tk_length_le n T; omega) hn ha)
    have hml : (tk n T).length = m := by have := HM2.out; rw [ints_length] at this; exact this
    rw [hml] at FA
    rw [HM2.out] at PA
    obtain ⟨P, hP⟩ : ∃ P, polS n ring T = P := ⟨_, rfl⟩
    rw [hP] at PA
    replace PA := Lib.hid PA
    have HP := Lib.hid hP
    clear hP hml
    go_wp2_with fail
    refine PA.out.mono ?_
    rintro e w1 ⟨pv, rfl, hPo, hb1⟩
    have HX1 := Lib.hid (HX.out.below hb1 HX.out.lt)
    have HZ1 := Lib.hid (HZ.out.below hb1 HZ.out.lt)
    have HU1 := Lib.hid (HU.out.below hb1)
    have HB1 := Lib.hid (HB.out.trans (hb1.mono HB.out.size))
    have HW1 := Lib.hid hb1
    obtain ⟨qp, cp, rfl, -, -, hPr, -⟩ := hPo.rd
    have hPl := ints_length P
    obtain ⟨k, hk⟩ : ∃ k, (ints P).length = k := ⟨_, rfl⟩
    rw [hk] at hPl ⊢
    clear HX HZ HU HB hb1 hPo PA c0 c1 c2
    obtain ⟨c0, c1, c2, -⟩ := HX1.out.three
    by_cases hk0 : k = 0
    · subst hk0
      have hs0 := settle_stop (n := n) (ring := ring) (S := T) (.inl (by rw [HP.out]; exact hPl.symm))
      have HST := ordM_stop hs0 rem
      have hOA := HOA.out
      rw [HST.1, HST.2] at hOA
      have hU' := HU1.out
      rw [hOA.2] at hU'
      have hdl : (d : Int) = ((ordM n ring 2 24 S).length : Nat) := by have := hOA.1; simp at this; omega
      have HUF := Lib.hid hU'
      have HDF := Lib.hid hdl
      have HZd : Hid (OwnArr w1.drew (w.heap.size + 1) 31 [.int .i64 0, .bool false, .slice none 0 0]) := HZ1.out
      have HBd := Lib.hid HB1.out.drew
      have HUd : Hid (Out B w1.drew (.slice q m c) (ints (tk n (aftM n ring 2 24 S)))) := HUF.out
      obtain ⟨z0, z1, z2, y0, y1, y2⟩ := HZ1.out.three
      obtain ⟨f1, f2, -⟩ := fin_box (.int .i64 n) (.bool ring) (.slice q m c) HZd.out rfl (by omega : B ≤ w.heap.size + 1) HUd.out (HBd.out.mono hBw)
      have F1 := Lib.hid f1
      have F2 := Lib.hid f2
      have F3 := Lib.hid (((HBd.out.setCell (p := ⟨w.heap.size + 1, 0, none⟩) (by show _ ≤ w.heap.size + 1; omega) (.int .i64 n)).setCell (p := ⟨w.heap.size + 1, 1, none⟩) (by show _ ≤ w.heap.size + 1; omega) (.bool ring)).setCell (p := ⟨w.heap.size + 1, 2, none⟩) (by show _ ≤ w.heap.size + 1; omega) (.slice q m c))
      clear hs0 HST hOA hU' hdl HU1 HOA hPl hk hPr FA f1 f2 HUF HUd HZd HBd HZ1 HB1
      go_wp2_with fail
      go_region
      all_goals
        go_wp2_with fail
        exact ret_row2 Try.results62 rfl rfl F1.out rfl ⟨_, by rw [← HDF.out]; rfl, F2.out, F3.out⟩
    · have hne : ((k : Int) == 0) = false := by simp; omega
      have hkp : 0 < k := by omega
      have hkp' : (0 : Int) < (k : Int) := by omega
      have hPn : 0 < P.length := by omega
      obtain ⟨b, off, rfl, -, -, -, hc⟩ := hPr.int (by omega)
      have h0 := hc 0 (by omega)
      rw [ints_get hPn, Nat.add_zero] at h0
      have hmem : P[0]?.getD 0 ∈ polS n ring T := by
        rw [HP.out, List.getElem?_eq_getElem hPn]; exact List.getElem_mem hPn
      have hxn : P[0]?.getD 0 < n := by
        rw [← pol_same] at hmem
        exact (polM_lt hmem).1
      have hst0 := fun (h : farM n ring (tk n T) (P[0]?.getD 0) < 2) => settle_stop (n := n) (ring := ring) (S := T) (.inr (by rw [HP.out]; exact h))
      have hst1 := fun (h : ¬ farM n ring (tk n T) (P[0]?.getD 0) < 2) => settle_step (n := n) (ring := ring) (S := T) (by rw [HP.out]; omega) (by rw [HP.out]; exact h)
      rw [HP.out] at hst1
      have FX := FA.out (P[0]?.getD 0) hxn w1.drew HW1.out.drew
      obtain ⟨x, hx⟩ : ∃ x, P[0]?.getD 0 = x := ⟨_, rfl⟩
      rw [hx] at h0 hst0 hst1 FX hxn
      have HST0 := Lib.hid hst0
      have HST1 := Lib.hid hst1
      obtain ⟨f, hf⟩ : ∃ f, farM n ring (tk n T) x = f := ⟨_, rfl⟩
      rw [hf] at HST0 HST1 FX
      have HFX := Lib.hid FX
      clear hmem hst0 hst1 FX hf hx hc hPr hPl hk FA
      go_upto_region 3 with fail
      go_cut [18] (fun v wx => v = .bool (decide ((f : Int) < 2)) ∧ Hid (Below w1.heap.size w1 wx))
      case first =>
        have HWd := Lib.hid ((Below.refl w1.heap.size w1).drew)
        go_region_with (first | (go_at_call 50; refine HFX.out.mono ?_; rintro e w2 ⟨rfl, hb2⟩; have HW2 := Lib.hid (HWd.out.trans (hb2.mono HWd.out.size)); clear hb2))
        all_goals
          go_wp2_with fail
          go_meet
          exact ⟨by simp, HW2⟩
      case rest =>
        obtain ⟨rfl, HWc⟩ := hcut
        have HX2 := Lib.hid (HX1.out.below HWc.out HX1.out.lt)
        have HZ2 := Lib.hid (HZ1.out.below HWc.out HZ1.out.lt)
        have HU2 := Lib.hid (HU1.out.below HWc.out)
        have HB2 := Lib.hid (HB1.out.trans (HWc.out.mono HB1.out.size))
        have h02 := (HWc.out.cell (p := ⟨b, off, none⟩) (lt_of_cell h0)).trans h0
        clear HX1 HZ1 HU1 HB1 HWc h0 c0 c1 c2 HW1 HFX
        obtain ⟨c0, c1, c2, f0, f1, f2⟩ := HX2.out.three
        by_cases hf2 : f < 2
        · have hI : (f : Int) < 2 := by omega
          have HST := ordM_stop (HST0.out hf2) rem
          have hOA := HOA.out
          rw [HST.1, HST.2] at hOA
          have hU' := HU2.out
          rw [hOA.2] at hU'
          have hdl : (d : Int) = ((ordM n ring 2 24 S).length : Nat) := by have := hOA.1; simp at this; omega
          have HDF := Lib.hid hdl
          obtain ⟨g1, g2, -⟩ := fin_box (.int .i64 n) (.bool ring) (.slice q m c) HZ2.out rfl (by omega : B ≤ w.heap.size + 1) hU' (HB2.out.mono hBw)
          have F1 := Lib.hid g1
          have F2 := Lib.hid g2
          have F3 := Lib.hid (((HB2.out.setCell (p := ⟨w.heap.size + 1, 0, none⟩) (by show _ ≤ w.heap.size + 1; omega) (.int .i64 n)).setCell (p := ⟨w.heap.size + 1, 1, none⟩) (by show _ ≤ w.heap.size + 1; omega) (.bool ring)).setCell (p := ⟨w.heap.size + 1, 2, none⟩) (by show _ ≤ w.heap.size + 1; omega) (.slice q m c))
          obtain ⟨z0, z1, z2, y0, y1, y2⟩ := HZ2.out.three
          clear HST hOA hU' hdl HU2 HOA g1 g2 HZ2 HB2 h02
          go_wp2_with fail
          exact ret_row2 Try.results62 rfl rfl F1.out rfl ⟨_, by rw [← HDF.out]; rfl, F2.out, F3.out⟩
        · have hI : ¬ (f : Int) < 2 := by omega
          obtain ⟨hp2, hh2⟩ := HST1.out hf2
          have hpl2 : ¬ (polM n ring T 2).length = 0 := by rw [hp2]; omega
          have hxl := headM_lt hpl2
          have hts := tk_setS hxl.1 hxl.2
          have hts2 := tk_length_le n (setS T (headM n ring 2 T))
          have hdl := HDL.out
          have hdr := HDR.out
          obtain ⟨r, rfl⟩ : ∃ r, rem = r + 1 := ⟨rem - 1, by omega⟩
          have hst := ordM_step hpl2 r
          rw [hh2] at hst hxl hts hts2
          have hOA := HOA.out
          rw [hst.1, hst.2] at hOA
          have HOA5 : Hid (d + 1 + (ordM n ring 2 r (setS T x)).length = (ordM n ring 2 24 S).length ∧ aftM n ring 2 r (setS T x) = aftM n ring 2 24 S) := by
            refine ⟨?_, hOA.2⟩
            have := hOA.1
            simp at this
            omega
          have HDL5 : Hid ((tk n (setS T x)).length = (tk n S).length + (d + 1)) := by show _ = _; omega
          have HDR5 : Hid (d + 1 + r = 24) := by show _ = _; omega
          have hd24 : d < 24 := by omega
          have HM4 : Hid ((ints (tk n (setS T x))).length = m + 1) := by
            show _ = _
            have := HM2.out
            rw [ints_length] at this ⊢; omega
          have HXL := Lib.hid hxl
          have HXd : Hid (OwnArr wc.drew w.heap.size 31 [.int .i64 n, .bool ring, .slice q m c]) := HX2.out
          have HZd : Hid (OwnArr wc.drew (w.heap.size + 1) 31 [.int .i64 0, .bool false, .slice none 0 0]) := HZ2.out
          have HBd := Lib.hid HB2.out.drew
          have HUd : Hid (Out B wc.drew (.slice q m c) (ints (tk n T))) := HU2.out
          clear hp2 hh2 hpl2 hxl hts hts2 hdl hdr hst hOA HOA HDL HDR HST0 HST1 HX2 HZ2 HU2 HB2
          go_wp2_with fail
          go_region_with (first | (go_at_call 40; have WA := with_any n ring q c (ints (tk n T)) x wc.drew _ _ HUd.out.ri.1 (by have := ints_tk_len n T; omega) (by rw [mem_ints_tk]; rintro ⟨j, h1, _, h3⟩; have : j = x := (by omega); rw [this, HXL.out.2] at h3; cases h3); rw [put_setS HXL.out.1 HXL.out.2, HM2.out] at WA; refine WA.mono ?_; rintro e w4 ⟨u, rfl, hT, hb4⟩; have HX4 := Lib.hid (HXd.out.below hb4 HXd.out.lt); have HZ4 := Lib.hid (HZd.out.below hb4 HZd.out.lt); have HB4 := Lib.hid (HBd.out.trans (hb4.mono HBd.out.size)); have hsz := HXd.out.lt; obtain ⟨q4, c4, rfl, -⟩ := hT.rd; rw [HM4.out] at hT ⊢; have HT := Lib.hid (hT.mono (by omega : B ≤ _)); obtain ⟨d0, d1, d2, y0, y1, y2⟩ := HX4.out.three; clear hT hb4 WA))
          all_goals
            obtain ⟨g1, g2, -⟩ := fin_box (.int .i64 n) (.bool ring) (.slice q4 (m + 1) c4) HX4.out rfl hBw HT.out (HB4.out.mono hBw)
            have HX5 := Lib.hid g1
            have HU5 := Lib.hid g2
            have HB5 := Lib.hid (((HB4.out.setCell (p := ⟨w.heap.size, 0, none⟩) (Nat.le_refl _) (.int .i64 n)).setCell (p := ⟨w.heap.size, 1, none⟩) (Nat.le_refl _) (.bool ring)).setCell (p := ⟨w.heap.size, 2, none⟩) (Nat.le_refl _) (.slice q4 (m + 1) c4))
            have HZ5 := Lib.hid (((HZ4.out.other (a := ⟨w.heap.size, 0, none⟩) (by show w.heap.size + 1 ≠ w.heap.size; omega) (.int .i64 n)).other (a := ⟨w.heap.size, 1, none⟩) (by show w.heap.size + 1 ≠ w.heap.size; omega) (.bool ring)).other (a := ⟨w.heap.size, 2, none⟩) (by show w.heap.size + 1 ≠ w.heap.size; omega) (.slice q4 (m + 1) c4))
            clear g1 g2 HT HX4 HZ4 HB4 HXd HZd HBd HUd
            go_wp2_with fail
            go_roundw
            case rel => exact ⟨setS T x, d + 1, r, q4, c4, m + 1, by omega, by go_num, HDR5, HDL5, HOA5, HM4, HX5, HZ5, HU5, HB5⟩
            case measure => simp [intOf]; omega
end Go.Proofs.Ytfpndbekinibhaa
