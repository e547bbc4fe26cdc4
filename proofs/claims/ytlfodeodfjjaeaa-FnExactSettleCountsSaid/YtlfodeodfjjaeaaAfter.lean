/- spec.l3After: some newcomers one by one, for every valid Row with so many free seats. -/
import Derived.Test.YtlfodeodfjjaeaaWel
import Derived.Test.YtlfodeodfjjaeaaWith
import Derived.Test.YtlfodeodfjjaeaaPolS
namespace Go.Proofs.Ytlfodeodfjjaeaa
open Go.RowKit

theorem full_iff (n : Nat) (S : Nat → Bool) : (tk n S).length = n ↔ (tk n fun q => !S q) = [] := by
  unfold tk
  rw [List.filter_eq_nil_iff]
  have h := List.length_filter_eq_length_iff (p := S) (l := List.range n)
  rw [List.length_range] at h
  rw [h]
  simp
theorem polS_free {n : Nat} {ring : Bool} {S : Nat → Bool} (h : ¬ (tk n S).length = n) : 0 < (polS n ring S).length := by
  rw [← pol_same]
  unfold polM
  obtain ⟨F, hF⟩ : ∃ F, (tk n fun q => !S q) = F := ⟨_, rfl⟩
  have hne : ¬ F = [] := fun e => h ((full_iff n S).2 (by rw [hF]; exact e))
  have hpos : ∀ p ∈ F, 1 ≤ farM n ring (tk n S) p := fun p hp => by
    rw [← hF] at hp
    obtain ⟨h1, h2⟩ := mem_tk.1 hp
    exact far_free h1 (by simpa using h2)
  rw [hF]
  obtain ⟨x, hx⟩ := List.exists_mem_of_ne_nil F hne
  have h1 := (mostM_ge (farM n ring (tk n S)) F 0).2 x hx
  have h2 := hpos x hx
  rcases mostM_is (farM n ring (tk n S)) F 0 with e | ⟨p, hp, e⟩
  · omega
  · rw [e]
    exact List.length_pos_of_mem (a := p) (by unfold atM; simp [hp])

set_option maxRecDepth 4000 in
set_option maxHeartbeats 2000000 in
theorem after_any (n : Nat) (ring : Bool) (p : Option Addr) (cap : Nat) (S : Nat → Bool) (most : Nat) (w : World) (lo hi : Nat) (hin : Ri lo hi w p (ints (tk n S))) (h2 : 2 ≤ n) (hn : n ≤ 24) (hmo : most + (tk n S).length ≤ n) :
    Calls Try.prog 45 #[rowV n ring p (ints (tk n S)).length cap, .int .i64 most] w fun e w' => ∃ u, e = .returned (.agg #[.int .i64 n, .bool ring, u]) ∧ Out w.heap.size w' u (ints (tk n (aftM n ring 0 most S))) ∧ Below w.heap.size w w' := by
  have hlen := ints_tk_len n S
  have hE := Beg.start w n ring p (ints (tk n S)).length cap
  have MK := Lib.hid (fun (w' : World) (h' : Below w.heap.size w w') => l1Own_any p cap (ints (tk n S)) w' lo hi (hin.below h' hin.top) (by omega))
  obtain ⟨wb, hwb⟩ : ∃ wb, (w.alloc (.cells #[Value.int .i64 n, Value.bool ring, Value.slice p (ints (tk n S)).length cap] 26)).alloc (.cells #[Value.int .i64 0, Value.bool false, Value.slice none 0 0] 26) = wb := ⟨_, rfl⟩
  rw [hwb] at hE
  have hsb : wb.heap.size = w.heap.size + 2 := by rw [← hwb]; simp
  have HE := Lib.hid hE
  have HW := Lib.hid hwb
  have HSB := Lib.hid hsb
  have HT0 := Lib.hid hmo
  obtain ⟨m0, hm⟩ : ∃ m, (ints (tk n S)).length = m := ⟨_, rfl⟩
  rw [hm] at HE MK HW ⊢
  have HM := Lib.hid hm
  have HEd := Lib.hid (HE.out.next ((Below.refl _ wb).drew))
  have HD0 := Lib.hid ((Below.refl (w.heap.size + 2) wb).drew)
  have hmo24 : most ≤ 24 := by omega
  clear hE hin hlen hm hsb hwb hmo
  obtain ⟨c0, c1, c2, -⟩ := HE.out.row.three
  go_enter Try.func45, Try.ntmps45
  go_upto_region 1 with fail
  rw [HW.out]
  go_cut [5] (fun v wx => ∃ g q c, v = .pointer (some ⟨g, 0, none⟩) ∧ Hid (w.heap.size + 2 ≤ g) ∧ Hid (OwnArr wx g 26 [.int .i64 n, .bool ring, .slice q m0 c]) ∧ Hid (Out (w.heap.size + 2) wx (.slice q m0 c) (ints (tk n S))) ∧ Hid (Below (w.heap.size + 2) wb wx))
  case first =>
    go_region_held3 (fun w' => w'.cell? ⟨w.heap.size, 0, none⟩ = some (.int .i64 n) ∧ w'.cell? ⟨w.heap.size, 1, none⟩ = some (.bool ring) ∧ w'.cell? ⟨w.heap.size, 2, none⟩ = some (.slice p m0 cap)) ((first | with_reducible exact ⟨c0, c1, c2⟩ | with_reducible exact ⟨d0, d1, d2⟩ | with_reducible exact ⟨e0, e1, e2⟩ | (obtain ⟨s0, s1, s2⟩ := (by assumption : _ ∧ _ ∧ _); with_reducible exact ⟨cell_alloc s0, cell_alloc s1, cell_alloc s2⟩) | (obtain ⟨s0, s1, s2⟩ := (by assumption : _ ∧ _ ∧ _); have hne := HNE1.out; with_reducible exact ⟨cell_set (cell_set (cell_set s0 hne) hne) hne, cell_set (cell_set (cell_set s1 hne) hne) hne, cell_set (cell_set (cell_set s2 hne) hne) hne⟩) | (obtain ⟨s0, s1, s2⟩ := (by assumption : _ ∧ _ ∧ _); have hne := HNE2.out; with_reducible exact ⟨cell_set (cell_set (cell_set s0 hne) hne) hne, cell_set (cell_set (cell_set s1 hne) hne) hne, cell_set (cell_set (cell_set s2 hne) hne) hne⟩) | (obtain ⟨s0, s1, s2⟩ := (by assumption : _ ∧ _ ∧ _); have hne := HNE3.out; with_reducible exact ⟨cell_set (cell_set (cell_set s0 hne) hne) hne, cell_set (cell_set (cell_set s1 hne) hne) hne, cell_set (cell_set (cell_set s2 hne) hne) hne⟩) | go_keep)) (first | (go_at_call 33; refine (MK.out _ (by first | exact HEd.out.bel | exact HEd.out.bel.alloc HEd.out.bel.size _)).mono ?_; rintro e wm ⟨g, kk, rfl, hg, hk1, hk2, hO, hbm⟩; have HEm : Hid (Beg w n ring p m0 cap wm) := (by show Beg _ _ _ _ _ _ _; first | exact HEd.out.next hbm | exact (HEd.out.next ((Below.refl _ _).alloc (Nat.le_refl _) _)).next hbm); have HBm : Hid (Below (w.heap.size + 2) wb wm) := (by show Below _ _ _; have hs := HSB.out; have hs2 : wb.drew.heap.size = wb.heap.size := rfl; first | exact HD0.out.trans (hbm.mono (by omega)) | exact (HD0.out.alloc (by omega) _).trans (hbm.mono (by simp; omega))); have HOm : Hid (Out (w.heap.size + 2) wm (.slice (some ⟨g, 0, none⟩) m0 kk) (ints (tk n S))) := (by show Out _ _ _ _; have hs := HSB.out; have hs2 : wb.drew.heap.size = wb.heap.size := rfl; first | exact hO.mono (by omega) | exact hO.mono (by simp; omega)); obtain ⟨d0, d1, d2, -⟩ := HEm.out.row.three; have HNE1 : Hid (w.heap.size ≠ wb.heap.size) := (by show _ ≠ _; have := HSB.out; omega); have HNE2 : Hid (w.heap.size ≠ wm.heap.size) := (by show _ ≠ _; have := HSB.out; have := HBm.out.size; omega); clear hg hO hk1 hk2) | (go_at_call 32; refine (l2Made_any _ _ _ _ _ _ _ _ _).mono ?_; rintro e wr ⟨rfl, hbr⟩; have HEr : Hid (Beg w n ring p m0 cap wr) := (by show Beg _ _ _ _ _ _ _; first | exact HEm.out.next hbr | exact (HEm.out.next ((Below.refl _ _).alloc (Nat.le_refl _) _)).next hbr); have HBr : Hid (Below (w.heap.size + 2) wb wr) := (by show Below _ _ _; have hs := HSB.out; have hs3 := HBm.out.size; first | exact HBm.out.trans (hbr.mono (by omega)) | exact (HBm.out.alloc (by omega) _).trans (hbr.mono (by simp; omega))); have HO3 : Hid (Out (w.heap.size + 2) wr (.slice (some ⟨g, 0, none⟩) m0 kk) (ints (tk n S))) := (by show Out _ _ _ _; first | exact HOm.out.below hbr | exact Out.below (show Out _ _ _ _ from World.ownsRow.alloc HOm.out _) hbr); obtain ⟨e0, e1, e2, -⟩ := HEr.out.row.three; have HNE3 : Hid (w.heap.size ≠ wr.heap.size) := (by show _ ≠ _; have := HSB.out; have := HBr.out.size; omega); (try (have hz : Below (wm.alloc (.cells #[.int .i64 0, .bool false, .slice none 0 0] 26)).heap.size (wm.alloc (.cells #[.int .i64 0, .bool false, .slice none 0 0] 26)) wr := (by with_reducible exact hbr); have HZ := Lib.hid (z_two hz))); (try (have hz : Below (wb.alloc (.cells #[.int .i64 0, .bool false, .slice none 0 0] 26)).drew.heap.size (wb.alloc (.cells #[.int .i64 0, .bool false, .slice none 0 0] 26)).drew wm := (by with_reducible exact hbm); have hz2 : Below wm.heap.size wm wr := (by with_reducible exact hbr); have HZ : Hid (OwnArr wr wb.heap.size 26 [.int .i64 0, .bool false, .slice none 0 0]) := Lib.hid (z_one hz hz2))); (try obtain ⟨z0, z1, z2, y0, y1, y2⟩ := HZ.out.three)))
    · go_wp2_with fail
      go_meet
      have hg : w.heap.size + 2 ≤ wr.heap.size := by have := HSB.out; have := HBr.out.size; omega
      exact ⟨_, some ⟨g, 0, none⟩, kk, rfl, Lib.hid hg, Lib.hid (OwnArr.made wr 26 [.int .i64 n, .bool ring, .slice (some ⟨g, 0, none⟩) m0 kk]), Lib.hid (World.ownsRow.alloc HO3.out _), Lib.hid (HBr.out.alloc hg _)⟩
    · go_wp2_with fail
      go_meet
      have hg : w.heap.size + 2 ≤ wm.heap.size := by have := HSB.out; have := HBm.out.size; omega
      obtain ⟨f1, f2, f3⟩ := fin_box (.int .i64 n) (.bool ring) (.slice (some ⟨g, 0, none⟩) m0 kk) HZ.out rfl hg HO3.out HBr.out
      exact ⟨_, some ⟨g, 0, none⟩, kk, rfl, Lib.hid hg, Lib.hid f1, Lib.hid f2, Lib.hid f3⟩
    · go_wp2_with fail
      go_meet
      have hg : w.heap.size + 2 ≤ wb.heap.size := by have := HSB.out; omega
      obtain ⟨f1, f2, f3⟩ := fin_box (.int .i64 n) (.bool ring) (.slice (some ⟨g, 0, none⟩) m0 kk) HZ.out rfl hg HO3.out HBr.out
      exact ⟨_, some ⟨g, 0, none⟩, kk, rfl, Lib.hid hg, Lib.hid f1, Lib.hid f2, Lib.hid f3⟩
  case rest =>
    obtain ⟨g, q, c, rfl, HG, HX0, HU0, HB⟩ := hcut
    have HE0 := Lib.hid (HE.out.next2 HB.out)
    have hgl := HG.out
    clear HEd HD0 HW MK HB HE HG c0 c1 c2
    go_wp2_with fail
    go_loopw [1] (fun kv wr => ∃ (T : Nat → Bool) (rem : Nat) (q : Option Addr) (c m : Nat), rem ≤ most ∧ kv = .int .i64 rem ∧ Hid (aftM n ring 0 rem T = aftM n ring 0 most S) ∧ Hid (rem + (tk n T).length ≤ n) ∧ Hid ((ints (tk n T)).length = m) ∧ Hid (Beg w n ring p m0 cap wr) ∧ Hid (OwnArr wr g 26 [.int .i64 n, .bool ring, .slice q m c]) ∧ Hid (Out (w.heap.size + 2) wr (.slice q m c) (ints (tk n T)))) (fun kv _ => (intOf kv).toNat)
    case atStart => exact ⟨S, most, q, c, m0, Nat.le_refl _, rfl, Lib.hid rfl, HT0, HM, HE0, HX0, HU0⟩
    case round =>
      obtain ⟨T, rem, q, c, m, hrem, rfl, HOA, HTL, HM2, HE, HX, HU⟩ := hrel
      clear HE0 HX0 HU0
      obtain ⟨c0, c1, c2, f0, f1, f2⟩ := HX.out.three
      by_cases hlt : 0 < rem
      · obtain ⟨r, rfl⟩ : ∃ r, rem = r + 1 := ⟨rem - 1, by omega⟩
        have hk1 : (0 : Int) < ((r + 1 : Nat) : Int) := by omega
        have hml : ¬ (tk n T).length = n := by have := HTL.out; omega
        have hPn := polS_free (ring := ring) hml
        have PA := politeS_any n ring q c T wr.drew _ _ (HU.out.ri.1.bel ((Below.refl _ wr).drew)) h2 hn
        rw [HM2.out] at PA
        obtain ⟨P, hP⟩ : ∃ P, polS n ring T = P := ⟨_, rfl⟩
        rw [hP] at PA hPn
        have hst := (ordM_step (n := n) (ring := ring) (least := 0) (S := T) (by rw [pol_same, hP]; omega) r).2
        have hxl := headM_lt (n := n) (ring := ring) (least := 0) (S := T) (by rw [pol_same, hP]; omega)
        have hx0 : (ints P)[0]?.getD 0 = ((headM n ring 0 T : Nat) : Int) := by
          rw [ints_get hPn, ← hP, ← pol_same]; rfl
        have hOA := HOA.out
        rw [hst] at hOA
        obtain ⟨x, hx⟩ : ∃ x, headM n ring 0 T = x := ⟨_, rfl⟩
        rw [hx] at hxl hx0 hOA
        have HOA2 := Lib.hid hOA
        have HXL := Lib.hid hxl
        have HX0 := Lib.hid hx0
        have hpl := ints_length P
        obtain ⟨k, hk⟩ : ∃ k, (ints P).length = k := ⟨_, rfl⟩
        rw [hk] at hpl
        have hkp : 0 < k := by omega
        have hk0 : (0 : Int) < (k : Int) := by omega
        have HK := Lib.hid hk
        have PA2 := Lib.hid PA
        have hts := tk_setS hxl.1 hxl.2
        have HM4 : Hid ((ints (tk n (setS T x))).length = m + 1) := by
          show _ = _
          have := HM2.out
          rw [ints_length] at this ⊢; omega
        have HTL4 : Hid (r + (tk n (setS T x)).length ≤ n) := by
          show _ ≤ _
          have := HTL.out
          omega
        have hwr : IntKind.i64.wrap (((r + 1 : Nat) : Int) - 1) = (r : Int) := by
          rw [IntWalk.i64_in _ (by omega)]; omega
        have HEd := Lib.hid (HE.out.next ((Below.refl _ wr).drew))
        have HXd : Hid (OwnArr wr.drew g 26 [.int .i64 n, .bool ring, .slice q m c]) := HX.out
        have HUd : Hid (Out (w.heap.size + 2) wr.drew (.slice q m c) (ints (tk n T))) := HU.out
        clear hst hxl hx0 hx hP hOA hml hPn hpl hk HOA PA hts HE HX HU
        go_wp2_with fail
        go_region_with (first | (go_at_call 52; refine PA2.out.mono ?_; rintro e w2 ⟨pv, rfl, hPo, hb2⟩; obtain ⟨qp, cp, rfl, -, -, hPr, -⟩ := hPo.rd; rw [HK.out]; obtain ⟨b, off, rfl, -, -, -, hc⟩ := hPr.int (by rw [HK.out]; omega); have h0 := hc 0 (by rw [HK.out]; omega); rw [HX0.out, Nat.add_zero] at h0; have HX2 := Lib.hid (HXd.out.below hb2 HXd.out.lt); have HU2 := Lib.hid (HUd.out.below hb2); have HE2 := Lib.hid (HEd.out.next hb2); obtain ⟨d0, d1, d2, -⟩ := HX2.out.three; clear hPo hPr hc hb2) | (go_at_call 54; have WA := with_any n ring q c (ints (tk n T)) x w2 _ _ HU2.out.ri.1 (by have := ints_tk_len n T; omega) (by rw [mem_ints_tk]; rintro ⟨j, h1, _, h3⟩; have : j = x := (by omega); rw [this, HXL.out.2] at h3; cases h3); rw [put_setS HXL.out.1 HXL.out.2, HM2.out] at WA; refine WA.mono ?_; rintro e w4 ⟨u, rfl, hT, hb4⟩; have HX4 := Lib.hid (HX2.out.below hb4 HX2.out.lt); have HE4 := Lib.hid (HE2.out.next hb4); have hsz := HX2.out.lt; obtain ⟨q4, c4, rfl, -⟩ := hT.rd; rw [HM4.out] at hT ⊢; have HT := Lib.hid (hT.mono (by omega : w.heap.size + 2 ≤ _)); obtain ⟨z0, z1, z2, y0, y1, y2⟩ := HX4.out.three; clear hT hb4 WA))
        all_goals
          obtain ⟨f1, f2, f3⟩ := fin_box (.int .i64 n) (.bool ring) (.slice q4 (m + 1) c4) HX4.out rfl hgl HT.out (Below.refl (w.heap.size + 2) w4)
          have HE5 := Lib.hid (HE4.out.next2 f3)
          have HX5 := Lib.hid f1
          have HU5 := Lib.hid f2
          clear f1 f2 f3 HT HE4 HE2 HX2 HU2 HEd HXd HUd
          go_wp2_with fail
          go_roundw
          case rel => exact ⟨setS T x, r, q4, c4, m + 1, by omega, rfl, HOA2, HTL4, HM4, HE5, HX5, HU5⟩
          case measure => simp [intOf]
      · have hr0 : rem = 0 := by omega
        subst hr0
        have hU' := HU.out
        have hOA := HOA.out
        have e2 : aftM n ring 0 0 T = T := rfl
        rw [e2] at hOA
        rw [hOA] at hU'
        have HUF := Lib.hid hU'
        obtain ⟨z0, z1, z2, y0, y1, y2⟩ := HE.out.res.three
        clear hU' hOA e2 HOA HU
        go_wp2_with fail
        exact ret_row Try.results45 rfl (HE.out.out _ _ _).1 rfl ⟨_, rfl, (HUF.out.boxed HE.out.res _ _ _).mono (by omega), (HE.out.out _ _ _).2⟩
end Go.Proofs.Ytlfodeodfjjaeaa
