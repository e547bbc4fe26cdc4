/- spec.l2Lonely and spec.LonelySeats, for every Row. -/
import Derived.Test.YtidiljnonbkpjaaLonM
import Derived.Test.YtidiljnonbkpjaaNear
import Derived.Test.YtidiljnonbkpjaaFreeS
import Derived.Test.YtidiljnonbkpjaaApp
import Derived.Maps.AppendAt
namespace Go.Proofs.Ytidiljnonbkpjaa
open Go.RowKit

theorem filt_yes {T : Nat → Bool} {F : List Nat} {k : Nat} (h : k < F.length) (hT : T (F[k]?.getD 0) = true) : ints ((F.take (k + 1)).filter T) = ints ((F.take k).filter T) ++ [((F[k]?.getD 0 : Nat) : Int)] := by
  rw [List.getElem?_eq_getElem h] at hT ⊢
  rw [List.take_succ_eq_append_getElem h, List.filter_append, ints_append]
  have : List.filter T [F[k]] = [F[k]] := by simp at hT; simp [hT]
  rw [this]; rfl
theorem filt_no {T : Nat → Bool} {F : List Nat} {k : Nat} (h : k < F.length) (hT : T (F[k]?.getD 0) = false) : ints ((F.take (k + 1)).filter T) = ints ((F.take k).filter T) := by
  rw [List.getElem?_eq_getElem h] at hT
  rw [List.take_succ_eq_append_getElem h, List.filter_append]
  have : List.filter T [F[k]] = [] := by simp at hT; simp [hT]
  rw [this, List.append_nil]
theorem filt_len {T : Nat → Bool} {F : List Nat} {k : Nat} : (ints ((F.take k).filter T)).length ≤ k := by
  rw [ints_length]
  exact Nat.le_trans (List.length_filter_le _ _) (List.length_take_le k F)
theorem all_take {T : Nat → Bool} {l : List Nat} {k : Nat} (h : k < l.length) : (l.take (k + 1)).all T = ((l.take k).all T && T (l[k]?.getD 0)) := by
  rw [List.take_succ_eq_append_getElem h, List.all_append, List.getElem?_eq_getElem h]
  simp

set_option maxRecDepth 4000 in
set_option maxHeartbeats 3000000 in
theorem lonS_any (n : Nat) (ring : Bool) (p : Option Addr) (cap : Nat) (S : Nat → Bool) (w : World) (lo hi : Nat) (hin : Ri lo hi w p (ints (tk n S))) (hn : n ≤ 24) :
    Calls Try.prog 49 #[rowV n ring p (ints (tk n S)).length cap] w fun e w' => ∃ v, e = .returned v ∧ Out w.heap.size w' v (ints (tk n (lonM n ring S))) ∧ Below w.heap.size w w' := by
  obtain ⟨i0, hi0, hz0, hz1, hz2⟩ := info_parts infoInt
  have FR := Lib.hid (fun (w' : World) (h' : Below w.heap.size w w') => freeS_any n ring p cap S w' lo hi (hin.below h' hin.top) hn)
  have NB := fun (m : Nat) (a : Nat) (ha : a < n) (w' : World) => nearS_any n ring p m cap a w' hn ha
  have IS : ∀ (a : Nat) (_ : a < n) (w' : World) (_ : Below w.heap.size w w'), Calls Try.prog 75 #[rowV n ring p (ints (tk n S)).length cap, .int .i64 (a : Nat)] w' fun e w'' => e = .returned (.bool (S a)) ∧ Below w'.heap.size w' w'' := by
    intro a ha w' h'
    have := l2Is_any n ring p cap (ints (tk n S)) a w' lo hi (hin.below h' hin.top) (by have := ints_tk_len n S; omega)
    rw [has_tk ha] at this
    exact this
  rw [← lon_tk]
  obtain ⟨T, hT⟩ : ∃ T : Nat → Bool, (fun p => (nearM n ring p).all fun q => !S q) = T := ⟨_, rfl⟩
  have HT : Hid (∀ x, (nearM n ring x).all (fun q => !S q) = T x) := by show ∀ _, _; intro x; rw [← hT]
  rw [hT]
  have hFl : (tk n fun q => !S q).length ≤ 24 := by have := tk_length_le n fun q => !S q; omega
  have hFm : ∀ x ∈ (tk n fun q => !S q), x < n := fun x hx => (mem_tk.1 hx).1
  obtain ⟨F, hF⟩ : ∃ F, (tk n fun q => !S q) = F := ⟨_, rfl⟩
  rw [hF] at FR hFl hFm ⊢
  have HFM := Lib.hid hFm
  have HNM : Hid (∀ x, ∀ q ∈ nearM n ring x, q < n) := by show ∀ _, _; exact fun x q hq => (mem_tk.1 hq).1
  have HNL : Hid (∀ x, (nearM n ring x).length ≤ 24) := by show ∀ _, _; intro x; have := tk_length_le n (fun q => decide (gapM n ring x q = 1)); unfold nearM; omega
  obtain ⟨U, hU⟩ : ∃ U : Nat → Bool, (fun q => !S q) = U := ⟨_, rfl⟩
  have HU : Hid (∀ q, U q = !S q) := by show ∀ _, _; intro q; rw [← hU]
  rw [hU] at HT
  obtain ⟨m, hm⟩ : ∃ m, (ints (tk n S)).length = m := ⟨_, rfl⟩
  rw [hm] at FR IS ⊢
  replace NB := Lib.hid (NB m)
  replace IS := Lib.hid IS
  have hst := loop_start w n ring p m cap
  have A := Lib.hid (FR.out _ hst.2.2)
  have HX0 := Lib.hid hst.1
  have HO0 := Lib.hid hst.2.1
  have HB0 := Lib.hid hst.2.2
  have hel := ints_length F
  obtain ⟨k0, hk0⟩ : ∃ k, F.length = k := ⟨_, rfl⟩
  rw [hk0] at hFl hel
  replace hel := Lib.hid hel
  have HM := Lib.hid hk0
  clear hin hst hT hF hFm hU hm hk0 FR
  go_enter Try.func49, Try.ntmps49
  go_wp2_with fail
  refine A.out.mono ?_
  rintro e w1 ⟨v, rfl, hO, hb1⟩
  obtain ⟨q, c, rfl, -, -, hq, -⟩ := hO.rd
  rw [hel.out]
  have HQ := Lib.hid hq
  have HX1 := Lib.hid (HX0.out.below hb1 HX0.out.lt)
  have HO1 := Lib.hid (HO0.out.below hb1)
  have HB1 := Lib.hid (HB0.out.trans (hb1.mono HB0.out.size))
  have HC1 : Hid (∀ k, k < k0 → ∃ b off, q = some ⟨b, off, none⟩ ∧ w.heap.size + 2 ≤ b ∧ b < w1.heap.size ∧ w1.cell? ⟨b, off + k, none⟩ = some (.int .i64 ((F[k]?.getD 0 : Nat) : Int))) := by
    show ∀ _, _
    intro k hk
    obtain ⟨b, off, rfl, h1, -, h2, hc⟩ := hq.int (by rw [hel.out]; omega)
    refine ⟨b, off, rfl, by simp at h1; omega, h2, ?_⟩
    rw [hc k (by rw [hel.out]; exact hk), ints_get (by have := HM.out; omega)]
  have HQN : Hid (∀ b off, q = some ⟨b, off, none⟩ → w.heap.size + 2 ≤ b) := by
    show ∀ _ _, _
    intro b off e
    have := own_block hO b (by rw [e]; rfl)
    simp at this
    omega
  have hs1 : w.heap.size + 2 ≤ w1.heap.size := by have := hb1.size; simp at this; omega
  clear HX0 HO0 HB0 hb1 hO hq A HQ
  go_wp2_with fail
  go_loopw [3, 5, 6, 7, 8] (fun v i _ _ _ wr => ∃ (k : Nat), k ≤ k0 ∧ i = .int .i64 k ∧ Hid (OwnArr wr w.heap.size 26 [.int .i64 n, .bool ring, .slice p m cap]) ∧ Hid (Out (w.heap.size + 1) wr v (ints ((F.take k).filter T))) ∧ Hid (∀ j b off, v.ownBlock = some j → q = some ⟨b, off, none⟩ → j ≠ b) ∧ Hid (∀ k, k < k0 → ∃ b off, q = some ⟨b, off, none⟩ ∧ b < wr.heap.size ∧ wr.cell? ⟨b, off + k, none⟩ = some (.int .i64 ((F[k]?.getD 0 : Nat) : Int))) ∧ Hid (Below w.heap.size w wr)) (fun _ i _ _ _ _ => k0 - (intOf i).toNat)
  case atStart =>
    refine ⟨0, Nat.zero_le _, rfl, HX1, HO1, ?_, ?_, HB1⟩
    · show ∀ _, _
      intro j b off hj hq
      simp [Value.ownBlock] at hj
      have := HQN.out b off hq
      omega
    · show ∀ _, _
      intro k hk
      obtain ⟨b, off, e, -, h2, h3⟩ := HC1.out k hk
      exact ⟨b, off, e, h2, h3⟩
  case round =>
    obtain ⟨k, hk, rfl, HX, HO, HV, HC, HB⟩ := hrel
    clear HX1 HO1 HC1 HB1 hs1
    obtain ⟨c0, c1, c2, -⟩ := HX.out.three
    by_cases hlt : k < k0
    · have hk1 : (k : Int) < (k0 : Int) := by omega
      have hkk : (0 : Int) ≤ (k : Int) := by omega
      have hkl : k < F.length := by have := HM.out; omega
      obtain ⟨b, off, rfl, hbr, h0⟩ := HC.out k hlt
      have hxn := HFM.out _ (nat_mem hkl)
      have hyes := fun h => filt_yes (T := T) hkl h
      have hno := fun h => filt_no (T := T) hkl h
      have HFL := Lib.hid (filt_len (T := T) (F := F) (k := k))
      obtain ⟨x, hx⟩ : ∃ x, F[k]?.getD 0 = x := ⟨_, rfl⟩
      rw [hx] at h0 hxn hyes hno
      have N := Lib.hid (NB.out x hxn wr.drew)
      have hnm := HNM.out x
      have hnl := HNL.out x
      have hTx := HT.out x
      obtain ⟨L, hL⟩ : ∃ L, nearM n ring x = L := ⟨_, rfl⟩
      rw [hL] at N hnm hnl hTx
      have hel2 := ints_length L
      obtain ⟨kl, hkl2⟩ : ∃ k, L.length = k := ⟨_, rfl⟩
      rw [hkl2] at hnl hel2
      replace hel2 := Lib.hid hel2
      have HL2 := Lib.hid hkl2
      have HNMx := Lib.hid hnm
      obtain ⟨t, ht⟩ : ∃ t, T x = t := ⟨_, rfl⟩
      rw [ht] at hTx hyes hno
      have HTx := Lib.hid hTx
      have HYES := Lib.hid hyes
      have HNO := Lib.hid hno
      have HXd : Hid (OwnArr wr.drew w.heap.size 26 [.int .i64 n, .bool ring, .slice p m cap]) := HX.out
      have HBd := Lib.hid HB.out.drew
      have HWd := Lib.hid ((Below.refl wr.heap.size wr).drew)
      clear hx hL hkl2 hnm ht hTx hyes hno
      go_upto_region 5 with fail
      go_cut [6, 7] (fun nv lv wx => ∃ q2 cc2, nv = .slice q2 kl cc2 ∧ lv = .bool true ∧ Hid (Ri wr.heap.size wx.heap.size wx q2 (ints L)) ∧ Hid (Below wr.heap.size wr wx))
      case first =>
        go_region_with (first | (go_at_call 74; refine N.out.mono ?_; rintro e w2 ⟨v2, rfl, hO2, hb2⟩; obtain ⟨q2, cc2, rfl, -, -, hR2, -⟩ := hO2.rd; rw [hel2.out]; have HR2 := Lib.hid (Rd.mono hR2 (by show wr.heap.size ≤ wr.heap.size + 1; omega) (Nat.le_refl _) (Nat.le_refl _)); have HW2 := Lib.hid (HWd.out.trans (hb2.mono HWd.out.size)); clear hO2 hR2 hb2 c0 c1 c2 h0))
        all_goals
          go_wp2_with fail
          go_meet
          exact ⟨_, _, rfl, rfl, HR2, HW2⟩
      case rest =>
        obtain ⟨q2, cc2, rfl, rfl, HR2, HW2⟩ := hcut
        obtain ⟨w2, hw2⟩ : ∃ w2, wc = w2 := ⟨_, rfl⟩
        subst hw2
        have HX2 := Lib.hid (HX.out.below HW2.out HX.out.lt)
        have HB2 := Lib.hid (HB.out.trans (HW2.out.mono HB.out.size))
        have HOb := Lib.hid (Out.below HO.out HW2.out)
        have HCb : Hid (∀ k, k < k0 → ∃ b' off', some (⟨b, off, none⟩ : Addr) = some ⟨b', off', none⟩ ∧ b' < wc.heap.size ∧ wc.cell? ⟨b', off' + k, none⟩ = some (.int .i64 ((F[k]?.getD 0 : Nat) : Int))) := by
          show ∀ _, _
          intro k' hk'
          obtain ⟨b', off', e, h1, h2⟩ := HC.out k' hk'
          exact ⟨b', off', e, Nat.lt_of_lt_of_le h1 HW2.out.size, (HW2.out.cell (p := ⟨b', off' + k', none⟩) h1).trans h2⟩
        have h0b := (HW2.out.cell (p := ⟨b, off + k, none⟩) hbr).trans h0
        have hbb' := Nat.lt_of_lt_of_le hbr HW2.out.size
        clear HO HC h0 hbr c0 c1 c2 HXd HBd HWd HW2 N HX HB
        go_wp2_with fail
        go_loopw [7, 8] (fun lb i wr => ∃ (j : Nat) (bb : Bool), j ≤ kl ∧ i = .int .i64 j ∧ lb = .bool bb ∧ Hid (bb = (L.take j).all U) ∧ Hid (OwnArr wr w.heap.size 26 [.int .i64 n, .bool ring, .slice p m cap]) ∧ Hid (Below w.heap.size w wr) ∧ Hid (Below wc.heap.size wc wr)) (fun _ i _ => kl - (intOf i).toNat)
        case atStart => exact ⟨0, true, Nat.zero_le _, rfl, rfl, by show _ = _; simp, HX2, HB2, Lib.hid (Below.refl _ _)⟩
        case round =>
          obtain ⟨j, bb, hj, rfl, rfl, HBB, HX, HB, HW⟩ := hrel
          clear HX2 HB2
          obtain ⟨c0, c1, c2, -⟩ := HX.out.three
          by_cases hjt : j < kl
          · have hj1 : (j : Int) < (kl : Int) := by omega
            have hj0 : (0 : Int) ≤ (j : Int) := by omega
            have hjl : j < L.length := by have := HL2.out; omega
            obtain ⟨b2, off2, rfl, -, -, hbw2, hc2⟩ := HR2.out.int (by rw [hel2.out]; omega)
            have h02 := (HW.out.cell (p := ⟨b2, off2 + j, none⟩) hbw2).trans (hc2 j (by rw [hel2.out]; exact hjt))
            rw [ints_get hjl] at h02
            have hyn := HNMx.out _ (nat_mem hjl)
            have hat := all_take (T := U) hjl
            rw [← HBB.out] at hat
            obtain ⟨y, hy⟩ : ∃ y, L[j]?.getD 0 = y := ⟨_, rfl⟩
            rw [hy] at h02 hyn hat
            rw [HU.out y] at hat
            have I := IS.out y hyn wr.drew HB.out.drew
            obtain ⟨s, hs⟩ : ∃ s, S y = s := ⟨_, rfl⟩
            rw [hs] at I hat
            have HI := Lib.hid I
            have HAT := Lib.hid hat
            have HXd2 : Hid (OwnArr wr.drew w.heap.size 26 [.int .i64 n, .bool ring, .slice p m cap]) := HX.out
            have HBd2 := Lib.hid HB.out.drew
            have HWd2 := Lib.hid HW.out.drew
            clear hc2 hy hs hat I HX HB HW HBB
            cases bb with
            | false =>
              have HF2 : Hid (false = (L.take (j + 1)).all U) := by
                show _ = _
                rw [HAT.out]; rfl
              clear HAT HI
              go_wp2_with fail
              first | (go_region_with (fail)) | fail "region"
              all_goals
                go_wp2_with fail
                go_roundw
                case rel => exact ⟨j + 1, false, by omega, by go_num, rfl, HF2, HXd2, HBd2, HWd2⟩
                case measure => simp [intOf]; omega
            | true =>
              cases s with
              | true =>
                have HF2 : Hid (false = (L.take (j + 1)).all U) := by
                  show _ = _
                  rw [HAT.out]; rfl
                clear HAT
                go_wp2_with fail
                first | (go_region_with (first | (go_at_call 75; refine HI.out.mono ?_; rintro e w3 ⟨rfl, hb3⟩; have HX3 := Lib.hid (HXd2.out.below hb3 HXd2.out.lt); have HB3 := Lib.hid (HBd2.out.trans (hb3.mono HBd2.out.size)); have HW3 := Lib.hid (HWd2.out.trans (hb3.mono HWd2.out.size)); clear hb3))) | fail "region"
                all_goals
                  go_wp2_with fail
                  go_roundw
                  case rel => exact ⟨j + 1, false, by omega, by go_num, rfl, HF2, HX3, HB3, HW3⟩
                  case measure => simp [intOf]; omega
              | false =>
                have HF2 : Hid (true = (L.take (j + 1)).all U) := by
                  show _ = _
                  rw [HAT.out]; rfl
                clear HAT
                go_wp2_with fail
                first | (go_region_with (first | (go_at_call 75; refine HI.out.mono ?_; rintro e w3 ⟨rfl, hb3⟩; have HX3 := Lib.hid (HXd2.out.below hb3 HXd2.out.lt); have HB3 := Lib.hid (HBd2.out.trans (hb3.mono HBd2.out.size)); have HW3 := Lib.hid (HWd2.out.trans (hb3.mono HWd2.out.size)); clear hb3))) | fail "region"
                all_goals
                  go_wp2_with fail
                  go_roundw
                  case rel => exact ⟨j + 1, true, by omega, by go_num, rfl, HF2, HX3, HB3, HW3⟩
                  case measure => simp [intOf]; omega
          · have hjk : L.take j = L := List.take_of_length_le (by have := HL2.out; omega)
            have hbb := HBB.out
            rw [hjk, HTx.out] at hbb
            subst hbb
            have HO3 := Lib.hid (Out.below HOb.out HW.out)
            have HC3 : Hid (∀ k, k < k0 → ∃ b' off', some (⟨b, off, none⟩ : Addr) = some ⟨b', off', none⟩ ∧ b' < wr.heap.size ∧ wr.cell? ⟨b', off' + k, none⟩ = some (.int .i64 ((F[k]?.getD 0 : Nat) : Int))) := by
              show ∀ _, _
              intro k' hk'
              obtain ⟨b', off', e, h1, h2⟩ := HCb.out k' hk'
              exact ⟨b', off', e, Nat.lt_of_lt_of_le h1 HW.out.size, (HW.out.cell (p := ⟨b', off' + k', none⟩) h1).trans h2⟩
            have h03 := (HW.out.cell (p := ⟨b, off + k, none⟩) hbb').trans h0b
            have hbr3 := Nat.lt_of_lt_of_le hbb' HW.out.size
            clear HOb HCb h0b hbb' HW HBB hjk HTx
            cases bb with
            | true =>
              have HTT := Lib.hid (HYES.out rfl)
              obtain ⟨l', vs, hl, hvs, hown⟩ := HO3.out.open'
              have hlk := HFL.out
              rw [hl] at hlk
              have hs1 := HX.out.lt
              have hblk := Lib.hid (own_block HO3.out)
              replace hl := Lib.hid hl
              replace hvs := Lib.hid hvs
              clear HYES HNO HFL
              go_wp2_with (at_builtin; refine wpList_append_own_at _ rfl _ _ 22 rfl (w.heap.size + 1) 3 i0 (.int .i64 0) 1 8 Try.underlying22 hi0 hz0 hz1 hz2 rfl (by decide) _ _ _ rfl (hown.alloc _) ⟨wr.heap.size, 0, none⟩ 1 1 [.int .i64 (x : Int)] rfl rfl (cell_one_new _ _ _) (fun x hx => by simp at hx; subst hx; rfl) (by unfold maxLen; omega) (by omega) (by simp; omega) ?_; intro v' w3 hown' hgrow3 hnil3 hat3)
              have hG : Below (w.heap.size + 1) wr w3 := ((Below.refl (w.heap.size + 1) wr).alloc (by omega) _).grown hgrow3 (by simp; omega) hblk.out
              have HX3 := Lib.hid (HX.out.below hG (Nat.lt_succ_self _))
              have HB3 := Lib.hid (HB.out.trans (hG.mono (Nat.le_succ _)))
              have HO4 : Hid (Out (w.heap.size + 1) w3 v' (ints ((F.take (k + 1)).filter T))) := by
                show Out _ _ _ _
                rw [HTT.out]; exact Out.close hl.out hvs.out hown'
              have HV3 : Hid (∀ j b' off', v'.ownBlock = some j → some (⟨b, off, none⟩ : Addr) = some ⟨b', off', none⟩ → j ≠ b') := by
                show ∀ _, _
                intro j b' off' hj hq
                rcases hat3 with e | e
                · exact HV.out j b' off' (e.symm.trans hj) hq
                · rw [e] at hj
                  simp at hj hq
                  omega
              have HC4 : Hid (∀ k, k < k0 → ∃ b' off', some (⟨b, off, none⟩ : Addr) = some ⟨b', off', none⟩ ∧ b' < w3.heap.size ∧ w3.cell? ⟨b', off' + k, none⟩ = some (.int .i64 ((F[k]?.getD 0 : Nat) : Int))) := by
                show ∀ _, _
                intro k' hk'
                obtain ⟨b', off', e, h1, h2⟩ := HC3.out k' hk'
                refine ⟨b', off', e, Nat.lt_of_lt_of_le h1 hG.size, hgrow3.cell ?_ (fun e2 => HV.out b' b' off' e2.symm e rfl)⟩
                rw [World.cell?_alloc_past (w := wr) _ b' _ h1]
                exact h2
              clear hown' hgrow3 hnil3 hat3 hown hG HX HO3 HV HC3 hbr3 HB hl hvs HTT hblk c0 c1 c2 h03
              go_wp2_with fail
              go_roundw
              case rel => exact ⟨k + 1, by omega, by go_num, HX3, HO4, HV3, HC4, HB3⟩
              case measure => simp [intOf]; omega
            | false =>
              have ho := HO3.out
              rw [← HNO.out rfl] at ho
              replace ho := Lib.hid ho
              clear HO3 HYES HNO HFL h03 hbr3
              go_wp2_with fail
              go_roundw
              case rel => exact ⟨k + 1, by omega, by go_num, HX, ho, HV, HC3, HB⟩
              case measure => simp [intOf]; omega
    · have hkm : F.take k = F := List.take_of_length_le (by have := HM.out; omega)
      have ho := HO.out
      rw [hkm] at ho
      replace ho := Lib.hid ho
      clear HO hkm
      go_wp2_with fail
      go_ret
      exact ⟨_, rfl, ho.out.mono (Nat.le_succ _), HB.out⟩
end Go.Proofs.Ytidiljnonbkpjaa
