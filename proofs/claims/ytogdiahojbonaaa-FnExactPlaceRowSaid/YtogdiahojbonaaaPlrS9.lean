/- Chapter 9, spec side: spec.PlaceRow. -/
import Derived.Test.YtogdiahojbonaaaGrpS9
import Derived.Test.YtogdiahojbonaaaSgI9
import Derived.Test.YtogdiahojbonaaaWith
import Derived.Test.YtogdiahojbonaaaBox9
namespace Go.Proofs.Ytogdiahojbonaaa
open Go.RowKit

theorem put_upTo {n : Nat} {T : Nat → Bool} {x k : Nat} (hk : k < n) (hx : x ≤ k) (h : T k = false) : putM (k : Int) (ints (tk n (upTo T x k))) = ints (tk n (upTo T x (k + 1))) := by
  rw [take_spec hk (by unfold upTo; rw [h]; simp)]
  congr 1
  apply tk_congr
  intro q _
  unfold upTo
  by_cases e : q = k
  · subst e; simp [hx]
  · have e1 : decide (q < k + 1) = decide (q < k) := decide_eq_decide.2 (by omega)
    rw [e1, decide_eq_false e, Bool.or_false]
theorem fit_free {n : Nat} {T : Nat → Bool} {d : Int} {Z X q : Nat} (hd : 0 ≤ d) (h : fitG n T d Z X = true) (h1 : X ≤ q) (h2 : q < X + Z) : T q = false := by
  obtain ⟨-, h3, h4⟩ := fitG_true.1 h
  cases hT : T q with
  | false => rfl
  | true => exact absurd (by omega) (h4 q (by omega) hT)
theorem upTo_zero (S : Nat → Bool) (x : Nat) (n : Nat) : tk n (upTo S x x) = tk n S := by
  apply tk_congr
  intro q _
  unfold upTo
  by_cases h : x ≤ q
  · have : ¬ q < x := by omega
    simp [this]
  · simp [h]
theorem upTo_zero' (S : Nat → Bool) (x : Nat) (n : Nat) : tk n (upTo S x (x + 0)) = tk n S := upTo_zero S x n
theorem upTo_seated {n : Nat} {S : Nat → Bool} {gs ps : List Int} {k Z X : Nat} (hX : ps[k]?.getD 0 = (X : Int)) (hZ : gs[k]?.getD 0 = (Z : Int)) : tk n (upTo (seatedM S gs ps k) X (X + Z)) = tk n (seatedM S gs ps (k + 1)) := by
  apply tk_congr
  intro q _
  rw [seatedM_succ]
  unfold upTo grpAt
  rw [hX, hZ]
  have e1 : decide (X ≤ q) = decide ((X : Int) ≤ (q : Int)) := decide_eq_decide.2 (by omega)
  have e2 : decide (q < X + Z) = decide ((q : Int) < (X : Int) + (Z : Int)) := decide_eq_decide.2 (by omega)
  rw [e1, e2]

set_option maxRecDepth 4000 in
set_option maxHeartbeats 2000000 in
theorem placeRowS_bad (s : Int) (ring : Bool) (p : Option Addr) (cap : Nat) (xs : List Int) (qg : Option Addr) (cg : Nat) (gs : List Int) (d : Int) (qp : Option Addr) (cp : Nat) (ps : List Int) (w : World) (lo hi lo2 hi2 : Nat)
    (hin : Ri lo hi w p xs) (hlen : xs.length ≤ 1048576) (hing : Ri lo2 hi2 w qg gs) (hleng : gs.length ≤ 1048576) (hr : pvB s ring xs gs d = false) :
    Calls Try.prog 27 #[rowV s ring p xs.length cap, .slice qg gs.length cg, .int .i64 d, .slice qp ps.length cp] w (MadeRow w 0 false [] false) := by
  have hE := Beg.start w s ring p xs.length cap
  have I := l9Groups_any s ring p cap xs qg cg gs d _ lo hi lo2 hi2 (hin.below hE.bel hin.top) hlen (hing.below hE.bel hing.top) hleng
  rw [hr] at I
  replace I := Lib.hid I
  obtain ⟨m0, hm0⟩ : ∃ m, xs.length = m := ⟨_, rfl⟩
  rw [hm0] at hE I ⊢
  obtain ⟨m1, hm1⟩ : ∃ m, gs.length = m := ⟨_, rfl⟩
  rw [hm1] at I ⊢
  have HE := Lib.hid hE
  obtain ⟨c0, c1, c2, -⟩ := HE.out.row.three
  clear hin hm0 hlen hE hing hleng hr hm1
  unfold MadeRow
  go_enter Try.func27, Try.ntmps27
  go_wp2_with fail
  refine I.out.mono ?_
  rintro e w2 ⟨rfl, hb2⟩
  have HE2 := Lib.hid (HE.out.next hb2)
  obtain ⟨z0, z1, z2, y0, y1, y2⟩ := HE2.out.res.three
  clear I HE hb2 c0 c1 c2
  go_wp2_with fail
  exact ret_row2 Try.results27 rfl rfl (HE2.out.out _ _ _).1 rfl ⟨_, rfl, Out.none _ _, (HE2.out.out _ _ _).2⟩

set_option maxRecDepth 4000 in
set_option maxHeartbeats 10000000 in
theorem placeRowS_any (n : Nat) (p : Option Addr) (cap : Nat) (S : Nat → Bool) (qg : Option Addr) (cg : Nat) (gs : List Int) (d : Int) (qp : Option Addr) (cp : Nat) (ps : List Int) (w : World) (lo hi lo2 hi2 lo3 hi3 : Nat)
    (hin : Ri lo hi w p (ints (tk n S))) (hing : Ri lo2 hi2 w qg gs) (hinp : Ri lo3 hi3 w qp ps) (hpl : ps.length ≤ 1048576) (hpc : ps.length ≤ cp) (hpm : cp ≤ maxLen) (hr : pvB n false (ints (tk n S)) gs d = true) :
    Calls Try.prog 27 #[rowV n false p (ints (tk n S)).length cap, .slice qg gs.length cg, .int .i64 d, .slice qp ps.length cp] w
      (MadeRow w (if plgB n S d gs ps then (n : Int) else 0) false (if plgB n S d gs ps then ints (tk n (seatedM S gs ps gs.length)) else []) (plgB n S d gs ps)) := by
  obtain ⟨g1, g2, -, g4, g5, g6⟩ := pvB_is hr
  have hn : 2 ≤ n ∧ n ≤ 24 := by
    obtain ⟨n', S', e, -, h0, h, -⟩ := rowB_is g2
    have : n = n' := by omega
    omega
  have hlen := ints_tk_len n S
  have hE := Beg.start w n false p (ints (tk n S)).length cap
  have I := l9Groups_any n false p cap (ints (tk n S)) qg cg gs d _ lo hi lo2 hi2 (hin.below hE.bel hin.top) (by omega) (hing.below hE.bel hing.top) (by omega)
  rw [hr] at I
  replace I := Lib.hid I
  have PL := fun (w' : World) (h' : Below w.heap.size w w') => placingS_any n p cap S qg cg gs d qp cp ps w' lo hi lo2 hi2 lo3 hi3 (hin.below h' hin.top) hn.2 (hing.below h' hing.top) g5 (hinp.below h' hinp.top) hpl hpc hpm g6 g1
  have MK := Lib.hid (fun (w' : World) (h' : Below w.heap.size w w') => l1Own_any p cap (ints (tk n S)) w' lo hi (hin.below h' hin.top) (by omega))
  have HI2 := Lib.hid (fun (w' : World) (h' : Below w.heap.size w w') => hing.below h' hing.top)
  have HI3 := Lib.hid (fun (w' : World) (h' : Below w.heap.size w w') => hinp.below h' hinp.top)
  have HP : Hid (plgB n S d gs ps = true → ps.length = gs.length ∧ ∀ i, i < gs.length → fitG n (seatedM S gs ps i) d (gs[i]?.getD 0) (ps[i]?.getD 0) = true) := by
    show _ → _
    intro h
    unfold plgB at h
    rw [Bool.and_eq_true, decide_eq_true_eq] at h
    exact ⟨h.1, fun i hi => plcUp_is h.2 hi⟩
  have HG1 : Hid (∀ k, k < gs.length → 1 ≤ gs[k]?.getD 0) := by
    show ∀ _, _
    intro k hk
    rw [List.getElem?_eq_getElem hk]
    exact g1 _ (List.getElem_mem hk)
  have WA := Lib.hid (fun (q : Option Addr) (c : Nat) (T : Nat → Bool) (x : Int) (w' : World) (lo hi : Nat) (hin : Ri lo hi w' q (ints (tk n T))) (hx : x ∉ ints (tk n T)) => with_any n false q c (ints (tk n T)) x w' lo hi hin (by have := ints_tk_len n T; omega) hx)
  obtain ⟨R, hR⟩ : ∃ R, plgB n S d gs ps = R := ⟨_, rfl⟩
  rw [hR] at PL HP ⊢
  replace PL := Lib.hid PL
  obtain ⟨m0, hm⟩ : ∃ m, (ints (tk n S)).length = m := ⟨_, rfl⟩
  rw [hm] at hE I PL MK ⊢
  have HM := Lib.hid hm
  obtain ⟨g0, hg0⟩ : ∃ m, gs.length = m := ⟨_, rfl⟩
  rw [hg0] at I PL HP HG1 g4 g5 ⊢
  have HG := Lib.hid hg0
  obtain ⟨m2, hm2⟩ : ∃ m, ps.length = m := ⟨_, rfl⟩
  rw [hm2] at PL HP ⊢
  have HK := Lib.hid hm2
  have HE := Lib.hid hE
  obtain ⟨c0, c1, c2, -⟩ := HE.out.row.three
  obtain ⟨hn2, hn24⟩ := hn
  clear hin hm hlen hE hing hr hg0 hm2 hinp hpl hpc hpm g1 g2 hR
  cases R with
  | false =>
    simp only [Bool.false_eq_true, if_false]
    unfold MadeRow
    clear HP WA HI2 HI3 MK
    go_enter Try.func27, Try.ntmps27
    go_wp2_with fail
    refine I.out.mono ?_
    rintro e w2 ⟨rfl, hb2⟩
    have HE2 := Lib.hid (HE.out.next hb2)
    clear I HE hb2 c0 c1 c2
    obtain ⟨c0, c1, c2, -⟩ := HE2.out.row.three
    have PL2 := Lib.hid (PL.out _ HE2.out.bel)
    go_wp2_with fail
    refine PL2.out.mono ?_
    rintro e w3 ⟨rfl, hb3⟩
    have HE3 := Lib.hid (HE2.out.next hb3)
    clear HE2 hb3 c0 c1 c2
    obtain ⟨z0, z1, z2, y0, y1, y2⟩ := HE3.out.res.three
    go_wp2_with fail
    exact ret_row2 Try.results27 rfl rfl (HE3.out.out _ _ _).1 rfl ⟨_, rfl, Out.none _ _, (HE3.out.out _ _ _).2⟩
  | true =>
    simp only [if_true]
    obtain ⟨LF, hLF⟩ : ∃ L, ints (tk n (seatedM S gs ps g0)) = L := ⟨_, rfl⟩
    rw [hLF]
    have HLF := Lib.hid hLF
    obtain ⟨hp1, hp2⟩ := HP.out rfl
    subst hp1
    have HFT := Lib.hid hp2
    clear hLF hp2 HP
    unfold MadeRow
    go_enter Try.func27, Try.ntmps27
    go_wp2_with fail
    refine I.out.mono ?_
    rintro e w2 ⟨rfl, hb2⟩
    have HE2 := Lib.hid (HE.out.next hb2)
    clear I HE hb2 c0 c1 c2
    obtain ⟨c0, c1, c2, -⟩ := HE2.out.row.three
    have PL2 := Lib.hid (PL.out _ HE2.out.bel)
    go_wp2_with fail
    refine PL2.out.mono ?_
    rintro e wb ⟨rfl, hb3⟩
    have HE := Lib.hid (HE2.out.next hb3)
    have HSB : Hid (w.heap.size + 2 ≤ wb.heap.size) := Nat.succ_le_of_lt HE.out.res.lt
    have HEd := Lib.hid (HE.out.next ((Below.refl _ wb).drew))
    have HD0 := Lib.hid ((Below.refl (w.heap.size + 2) wb).drew)
    clear HE2 hb3 c0 c1 c2 PL PL2
    obtain ⟨c0, c1, c2, -⟩ := HE.out.row.three
    go_upto_region 3 with fail
    go_cut [10] (fun v wx => ∃ g q c, v = .pointer (some ⟨g, 0, none⟩) ∧ Hid (w.heap.size + 2 ≤ g) ∧ Hid (OwnArr wx g 28 [.int .i64 n, .bool false, .slice q m0 c]) ∧ Hid (Out (w.heap.size + 2) wx (.slice q m0 c) (ints (tk n S))) ∧ Hid (Below (w.heap.size + 2) wb wx))
    case first =>
      go_region_held3 (fun w' => w'.cell? ⟨w.heap.size, 0, none⟩ = some (.int .i64 n) ∧ w'.cell? ⟨w.heap.size, 1, none⟩ = some (.bool false) ∧ w'.cell? ⟨w.heap.size, 2, none⟩ = some (.slice p m0 cap)) ((first | with_reducible exact ⟨c0, c1, c2⟩ | with_reducible exact ⟨d0, d1, d2⟩ | with_reducible exact ⟨e0, e1, e2⟩ | (obtain ⟨s0, s1, s2⟩ := (by assumption : _ ∧ _ ∧ _); with_reducible exact ⟨cell_alloc9 s0, cell_alloc9 s1, cell_alloc9 s2⟩) | (obtain ⟨s0, s1, s2⟩ := (by assumption : _ ∧ _ ∧ _); have hne := HNE1.out; with_reducible exact ⟨cell_set9 (cell_set9 (cell_set9 s0 hne) hne) hne, cell_set9 (cell_set9 (cell_set9 s1 hne) hne) hne, cell_set9 (cell_set9 (cell_set9 s2 hne) hne) hne⟩) | (obtain ⟨s0, s1, s2⟩ := (by assumption : _ ∧ _ ∧ _); have hne := HNE2.out; with_reducible exact ⟨cell_set9 (cell_set9 (cell_set9 s0 hne) hne) hne, cell_set9 (cell_set9 (cell_set9 s1 hne) hne) hne, cell_set9 (cell_set9 (cell_set9 s2 hne) hne) hne⟩) | (obtain ⟨s0, s1, s2⟩ := (by assumption : _ ∧ _ ∧ _); have hne := HNE3.out; with_reducible exact ⟨cell_set9 (cell_set9 (cell_set9 s0 hne) hne) hne, cell_set9 (cell_set9 (cell_set9 s1 hne) hne) hne, cell_set9 (cell_set9 (cell_set9 s2 hne) hne) hne⟩) | go_keep)) (first | (go_at_call 49; refine (MK.out _ (by first | exact HEd.out.bel | exact HEd.out.bel.alloc HEd.out.bel.size _)).mono ?_; rintro e wm ⟨g, kk, rfl, hg, hk1, hk2, hO, hbm⟩; have HEm : Hid (Beg w n false p m0 cap wm) := (by show Beg _ _ _ _ _ _ _; first | exact HEd.out.next hbm | exact (HEd.out.next ((Below.refl _ _).alloc (Nat.le_refl _) _)).next hbm); have HBm : Hid (Below (w.heap.size + 2) wb wm) := (by show Below _ _ _; have hs := HSB.out; have hs2 : wb.drew.heap.size = wb.heap.size := rfl; first | exact HD0.out.trans (hbm.mono (by omega)) | exact (HD0.out.alloc (by omega) _).trans (hbm.mono (by simp; omega))); have HOm : Hid (Out (w.heap.size + 2) wm (.slice (some ⟨g, 0, none⟩) m0 kk) (ints (tk n S))) := (by show Out _ _ _ _; have hs := HSB.out; have hs2 : wb.drew.heap.size = wb.heap.size := rfl; first | exact hO.mono (by omega) | exact hO.mono (by simp; omega)); obtain ⟨d0, d1, d2, -⟩ := HEm.out.row.three; have HNE1 : Hid (w.heap.size ≠ wb.heap.size) := (by show _ ≠ _; have := HSB.out; omega); have HNE2 : Hid (w.heap.size ≠ wm.heap.size) := (by show _ ≠ _; have := HSB.out; have := HBm.out.size; omega); clear hg hO hk1 hk2) | (go_at_call 48; refine (l2Made_any _ _ _ _ _ _ _ _ _).mono ?_; rintro e wr ⟨rfl, hbr⟩; have HEr : Hid (Beg w n false p m0 cap wr) := (by show Beg _ _ _ _ _ _ _; first | exact HEm.out.next hbr | exact (HEm.out.next ((Below.refl _ _).alloc (Nat.le_refl _) _)).next hbr); have HBr : Hid (Below (w.heap.size + 2) wb wr) := (by show Below _ _ _; have hs := HSB.out; have hs3 := HBm.out.size; first | exact HBm.out.trans (hbr.mono (by omega)) | exact (HBm.out.alloc (by omega) _).trans (hbr.mono (by simp; omega))); have HO3 : Hid (Out (w.heap.size + 2) wr (.slice (some ⟨g, 0, none⟩) m0 kk) (ints (tk n S))) := (by show Out _ _ _ _; first | exact HOm.out.below hbr | exact Out.below (show Out _ _ _ _ from World.ownsRow.alloc HOm.out _) hbr); obtain ⟨e0, e1, e2, -⟩ := HEr.out.row.three; have HNE3 : Hid (w.heap.size ≠ wr.heap.size) := (by show _ ≠ _; have := HSB.out; have := HBr.out.size; omega); (try (have hz : Below (wm.alloc (.cells #[.int .i64 0, .bool false, .slice none 0 0] 28)).heap.size (wm.alloc (.cells #[.int .i64 0, .bool false, .slice none 0 0] 28)) wr := (by with_reducible exact hbr); have HZ := Lib.hid (z_two9 hz))); (try (have hz : Below (wb.alloc (.cells #[.int .i64 0, .bool false, .slice none 0 0] 28)).drew.heap.size (wb.alloc (.cells #[.int .i64 0, .bool false, .slice none 0 0] 28)).drew wm := (by with_reducible exact hbm); have hz2 : Below wm.heap.size wm wr := (by with_reducible exact hbr); have HZ : Hid (OwnArr wr wb.heap.size 28 [.int .i64 0, .bool false, .slice none 0 0]) := Lib.hid (z_one9 hz hz2))); (try obtain ⟨z0, z1, z2, y0, y1, y2⟩ := HZ.out.three)))
      · go_wp2_with fail
        go_meet
        have hg : w.heap.size + 2 ≤ wr.heap.size := by have := HSB.out; have := HBr.out.size; omega
        exact ⟨_, some ⟨g, 0, none⟩, kk, rfl, Lib.hid hg, Lib.hid (OwnArr.made wr 28 [.int .i64 n, .bool false, .slice (some ⟨g, 0, none⟩) m0 kk]), Lib.hid (World.ownsRow.alloc HO3.out _), Lib.hid (HBr.out.alloc hg _)⟩
      · go_wp2_with fail
        go_meet
        have hg : w.heap.size + 2 ≤ wm.heap.size := by have := HSB.out; have := HBm.out.size; omega
        obtain ⟨f1, f2, f3⟩ := fin_box9 (.int .i64 n) (.bool false) (.slice (some ⟨g, 0, none⟩) m0 kk) HZ.out rfl hg HO3.out HBr.out
        exact ⟨_, some ⟨g, 0, none⟩, kk, rfl, Lib.hid hg, Lib.hid f1, Lib.hid f2, Lib.hid f3⟩
      · go_wp2_with fail
        go_meet
        have hg : w.heap.size + 2 ≤ wb.heap.size := by have := HSB.out; omega
        obtain ⟨f1, f2, f3⟩ := fin_box9 (.int .i64 n) (.bool false) (.slice (some ⟨g, 0, none⟩) m0 kk) HZ.out rfl hg HO3.out HBr.out
        exact ⟨_, some ⟨g, 0, none⟩, kk, rfl, Lib.hid hg, Lib.hid f1, Lib.hid f2, Lib.hid f3⟩
    case rest =>
      obtain ⟨g, q, c, rfl, HGB, HX0, HU0, HB⟩ := hcut
      have HE0 := Lib.hid (HE.out.next2 HB.out)
      have hgl := HGB.out
      clear HEd HD0 MK HB HE HGB c0 c1 c2 HSB
      go_wp2_with fail
      go_loopw [11, 12] (fun i _ wr => ∃ (k : Nat) (q : Option Addr) (c m : Nat), k ≤ m2 ∧ i = .int .i64 (k : Int) ∧ Hid ((ints (tk n (seatedM S gs ps k))).length = m) ∧ Hid (Beg w n false p m0 cap wr) ∧ Hid (OwnArr wr g 28 [.int .i64 n, .bool false, .slice q m c]) ∧ Hid (Out (w.heap.size + 2) wr (.slice q m c) (ints (tk n (seatedM S gs ps k))))) (fun i _ _ => m2 - (intOf i).toNat)
      case atStart => exact ⟨0, q, c, m0, Nat.zero_le _, rfl, by show _ = _; rw [seatedM_zero]; exact HM.out, HE0, HX0, by show Out _ _ _ _; rw [seatedM_zero]; exact HU0.out⟩
      case round =>
        obtain ⟨k, q, c, m, hk, rfl, HML, HE, HX, HU⟩ := hrel
        clear HE0 HX0 HU0
        by_cases hlt : k < m2
        · have hk1 : (k : Int) < (m2 : Int) := by omega
          have hk00 : (0 : Int) ≤ (k : Int) := by omega
          have hz1 := HG1.out k hlt
          have hft := HFT.out k hlt
          have hfv := fitG_true.1 hft
          have HZV : Hid (gs[k]?.getD 0 = gs[k]?.getD 0) := rfl
          obtain ⟨z, hz⟩ : ∃ z, gs[k]?.getD 0 = z := ⟨_, rfl⟩
          obtain ⟨x, hx⟩ : ∃ x, ps[k]?.getD 0 = x := ⟨_, rfl⟩
          rw [hz] at hz1 hft hfv
          rw [hx] at hft hfv
          obtain ⟨hv1, hv2, -⟩ := hfv
          obtain ⟨X, rfl⟩ : ∃ X : Nat, x = X := ⟨x.toNat, by omega⟩
          obtain ⟨Z, rfl⟩ : ∃ Z : Nat, z = Z := ⟨z.toNat, by omega⟩
          have hXZ : X + Z ≤ n := by omega
          have HNX := Lib.hid (upTo_seated (n := n) (S := S) (gs := gs) (ps := ps) hx hz)
          have HZZ := Lib.hid hz
          have HXX := Lib.hid hx
          obtain ⟨T, hT⟩ : ∃ T, seatedM S gs ps k = T := ⟨_, rfl⟩
          rw [hT] at hft HNX HML HU
          have HFR := Lib.hid (fun q h1 h2 => fit_free (n := n) (T := T) (q := q) g6 hft h1 h2)
          have HU0 : Hid (Out (w.heap.size + 2) wr (.slice q m c) (ints (tk n (upTo T X (X + 0))))) := by
            show Out _ _ _ _
            rw [upTo_zero']; exact HU.out
          have HML0 : Hid ((ints (tk n (upTo T X (X + 0)))).length = m) := by
            show _ = _
            rw [upTo_zero']; exact HML.out
          clear HML HU hz hx hT hft hv1 hv2 HZV HFT
          obtain ⟨wo, hwo⟩ : ∃ wo, wo = wr := ⟨_, rfl⟩
          subst hwo
          go_wp2_with fail
          go_loopw [12] (fun i wr => ∃ (t : Nat) (q : Option Addr) (c m : Nat), t ≤ Z ∧ i = .int .i64 (t : Int) ∧ Hid ((ints (tk n (upTo T X (X + t)))).length = m) ∧ Hid (Beg w n false p m0 cap wr) ∧ Hid (OwnArr wr g 28 [.int .i64 n, .bool false, .slice q m c]) ∧ Hid (Out (w.heap.size + 2) wr (.slice q m c) (ints (tk n (upTo T X (X + t)))))) (fun i _ => Z - (intOf i).toNat)
          case atStart => exact ⟨0, q, c, m, Nat.zero_le _, rfl, HML0, HE, HX, HU0⟩
          case round =>
            obtain ⟨t, q, c, m, ht, rfl, HML, HE', HX', HU⟩ := hrel
            clear HML0 HU0 HE HX
            obtain ⟨bg, og, rfl, -, -, -, hcg⟩ := (HI2.out wr HE'.out.bel).int (by have := HG.out; omega)
            have hg := hcg k (by have := HG.out; omega)
            rw [HZZ.out] at hg
            clear hcg
            by_cases htz : t < Z
            · have ht1 : (t : Int) < (Z : Int) := by omega
              obtain ⟨bp, op, rfl, -, -, hbp, hcp⟩ := (HI3.out wr HE'.out.bel).int (by have := HK.out; omega)
              have hp := hcp k (by have := HK.out; omega)
              rw [HXX.out] at hp
              clear hcp
              obtain ⟨c0, c1, c2, f0, f1, f2⟩ := HX'.out.three
              obtain ⟨K, hK⟩ : ∃ K, X + t = K := ⟨_, rfl⟩
              have hKi : (X : Int) + (t : Int) = (K : Int) := by omega
              have w1 : IntKind.i64.wrap (K : Int) = (K : Int) := IntWalk.i64_in _ (by omega)
              have hKT := HFR.out K (by omega) (by omega)
              have hput := put_upTo (n := n) (T := T) (x := X) (k := K) (by omega) (by omega) hKT
              have hnot : (K : Int) ∉ ints (tk n (upTo T X K)) := by
                rw [mem_ints_tk]
                rintro ⟨j, h1, _, h3⟩
                have : j = K := by omega
                subst this
                unfold upTo at h3
                rw [hKT] at h3
                simp at h3
              have hK1 : X + (t + 1) = K + 1 := by omega
              rw [hK] at HML HU
              have WA2 := WA.out q c (upTo T X K) (K : Int) wr.drew _ _ (HU.out.ri9.1.bel ((Below.refl _ wr).drew)) hnot
              rw [hput, HML.out] at WA2
              replace WA2 := Lib.hid WA2
              have HEd := Lib.hid (HE'.out.next ((Below.refl _ wr).drew))
              have HXd : Hid (OwnArr wr.drew g 28 [.int .i64 n, .bool false, .slice q m c]) := HX'.out
              have HK1 := Lib.hid hK1
              clear hput hnot hKT hK hK1 HE' HX' HU HML
              go_wp2_with fail
              go_still_tail 7, (by kernel_rfl)
              change wpList _ _ _ _ _ wr.drew
              go_wp2_with fail
              refine WA2.out.mono ?_
              rintro e w4 ⟨u, rfl, hT4, hb4⟩
              have HX4 := Lib.hid (HXd.out.below hb4 HXd.out.lt)
              have HE4 := Lib.hid (HEd.out.next hb4)
              have hsz := HXd.out.lt
              obtain ⟨q4, c4, rfl, -⟩ := hT4.rd
              obtain ⟨m4, hm4⟩ : ∃ m4, (ints (tk n (upTo T X (K + 1)))).length = m4 := ⟨_, rfl⟩
              rw [hm4] at hT4 ⊢
              have HTT := Lib.hid (hT4.mono (by omega : w.heap.size + 2 ≤ _))
              obtain ⟨z0, z1, z2, y0, y1, y2⟩ := HX4.out.three
              obtain ⟨e1, e2, e3⟩ := fin_box9 (.int .i64 n) (.bool false) (.slice q4 m4 c4) HX4.out rfl hgl HTT.out (Below.refl (w.heap.size + 2) w4)
              have HE5 := Lib.hid (HE4.out.next2 e3)
              have HX5 := Lib.hid e1
              rw [← HK1.out] at e2 hm4
              have HU5 := Lib.hid e2
              have HM5 := Lib.hid hm4
              clear hT4 hb4 WA2 e1 e2 e3 HTT HE4 hm4 HX4 HXd HEd c0 c1 c2 f0 f1 f2 hsz
              go_wp2_with fail
              go_roundw
              case rel => exact ⟨t + 1, q4, c4, m4, by omega, by go_num, HM5, HE5, HX5, HU5⟩
              case measure => simp [intOf]; omega
            · have htZ : t = Z := by omega
              subst htZ
              have hml := HML.out
              have hu := HU.out
              rw [HNX.out] at hml hu
              have HM5 := Lib.hid hml
              have HU5 := Lib.hid hu
              clear hml hu HML HU
              go_wp2_with fail
              go_roundw
              case rel => exact ⟨k + 1, q, c, m, by omega, by go_num, HM5, HE', HX', HU5⟩
              case measure => simp [intOf]; omega
        · have hkm : k = m2 := by omega
          subst hkm
          have hu := HU.out
          have hml := HML.out
          rw [HLF.out] at hu hml
          have HU2 := Lib.hid hu
          obtain ⟨c0, c1, c2, -⟩ := HX.out.three
          obtain ⟨z0, z1, z2, y0, y1, y2⟩ := HE.out.res.three
          clear hu hml HU HML
          go_wp2_with fail
          exact ret_row2 Try.results27 rfl rfl (HE.out.out _ _ _).1 rfl ⟨_, rfl, (HU2.out.boxed HE.out.res _ _ _).mono (by omega), (HE.out.out _ _ _).2⟩
end Go.Proofs.Ytogdiahojbonaaa
