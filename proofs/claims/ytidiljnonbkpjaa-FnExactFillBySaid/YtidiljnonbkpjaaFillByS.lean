/- spec.l4Order and spec.FillBy, for every Row and all lists; FillBy on both sides. -/
import Derived.Test.YtidiljnonbkpjaaFillByI
import Derived.Test.YtidiljnonbkpjaaHasS
import Derived.Test.YtidiljnonbkpjaaLonS
import Derived.Test.YtidiljnonbkpjaaWith
import Derived.Test.YtidiljnonbkpjaaFillM
import Derived.Deep.RegionHeld3
import Derived.Deep.DeepCutAuto
namespace Go.Proofs.Ytidiljnonbkpjaa
open Go.RowKit

set_option maxRecDepth 4000 in
set_option maxHeartbeats 1000000 in
theorem l4Order_any (p : Option Addr) (cap : Nat) (xs : List Int) (n : Nat) (w : World) (lo hi : Nat) (hin : Ri lo hi w p xs) (hl : xs.length ≤ 1048576) (hn : n ≤ 1000) :
    Calls Try.prog 46 #[.slice p xs.length cap, .int .i64 n] w fun e w' => e = .returned (.bool (orderB n xs)) ∧ w = w' := by
  rw [orderB_swap]
  have HS := Lib.hid (fun (x : Int) => l1Has_any p cap xs x w lo hi hin hl)
  obtain ⟨m, hm⟩ : ∃ m, xs.length = m := ⟨_, rfl⟩
  rw [hm] at hl HS ⊢
  clear hin hm
  go_enter Try.func46, Try.ntmps46
  go_wp2_with fail
  go_loop [5] (fun i => ∃ k : Nat, k ≤ n ∧ i = .int .i64 k ∧ Hid (∀ j : Nat, j < k → (j : Int) ∈ xs)) (fun i => n - (intOf i).toNat)
  case atStart => exact ⟨0, Nat.zero_le _, rfl, by show ∀ _, _; intro j hj; omega⟩
  case round =>
    obtain ⟨k, hk, rfl, HJ⟩ := hrel
    by_cases hlt : k < n
    · have hk1 : (k : Int) < (n : Int) := by omega
      by_cases hmem : (k : Int) ∈ xs
      · have H1 := HS.out (k : Int)
        rw [decide_eq_true hmem] at H1
        replace H1 := Lib.hid H1
        have HJ2 : Hid (∀ j : Nat, j < k + 1 → (j : Int) ∈ xs) := by
          show ∀ _, _
          intro j hj
          by_cases e : j = k
          · subst e; exact hmem
          · exact HJ.out j (by omega)
        clear hmem
        go_wp2_with fail
        refine H1.out.mono ?_
        rintro e w1 ⟨rfl, rfl⟩
        go_wp2_with fail
        go_round
        case rel => exact ⟨k + 1, by omega, by go_num, HJ2⟩
        case measure => simp [intOf]; omega
      · have H1 := HS.out (k : Int)
        rw [decide_eq_false hmem] at H1
        replace H1 := Lib.hid H1
        have HF : Hid ((List.range n).all (fun i => decide ((i : Int) ∈ xs)) = false) := by
          show _ = _
          rw [List.all_eq_false]
          exact ⟨k, List.mem_range.2 hlt, by simpa using hmem⟩
        clear hmem
        go_wp2_with fail
        refine H1.out.mono ?_
        rintro e w1 ⟨rfl, rfl⟩
        go_wp2_with fail
        go_ret
        exact ⟨by rw [HF.out]; rfl, rfl⟩
    · have hkn : k = n := by omega
      subst hkn
      have HF : Hid ((List.range k).all (fun i => decide ((i : Int) ∈ xs)) = true) := by
        show _ = _
        rw [List.all_eq_true]
        intro i hi
        exact decide_eq_true (HJ.out i (List.mem_range.1 hi))
      have hk1 : ¬ (k : Int) < (k : Int) := by omega
      go_wp2_with fail
      go_ret
      exact ⟨by rw [HF.out, Bool.true_and]; rfl, rfl⟩

set_option maxRecDepth 4000 in
set_option maxHeartbeats 1600000 in
theorem fillByS_bad (s : Int) (ring : Bool) (p : Option Addr) (cap : Nat) (xs : List Int) (q : Option Addr) (c : Nat) (ys : List Int) (w : World) (lo hi lo2 hi2 : Nat) (hin : Ri lo hi w p xs) (hin2 : Ri lo2 hi2 w q ys) (hlen : xs.length ≤ 1048576) (hlen2 : ys.length ≤ 1048576) (h : (fillB s ring xs && orderB s ys) = false) :
    Calls Try.prog 16 #[rowV s ring p xs.length cap, .slice q ys.length c] w (MadeRow w 0 false [] false) := by
  have hE := Beg.start w s ring p xs.length cap
  have R := fun (w' : World) (h' : Below w.heap.size w w') => l4Row_any s ring p cap xs w' lo hi (hin.below h' hin.top) hlen
  cases hf : fillB s ring xs with
  | false =>
    rw [hf] at R
    replace R := Lib.hid R
    have HE := Lib.hid hE
    obtain ⟨m, hm⟩ : ∃ m, xs.length = m := ⟨_, rfl⟩
    rw [hm] at HE R ⊢
    clear hE hin hin2 h hf hm
    unfold MadeRow
    go_enter Try.func16, Try.ntmps16
    go_wp2_with fail
    refine (R.out _ HE.out.bel).mono ?_
    rintro e w1 ⟨rfl, hb1⟩
    have HE1 := Lib.hid (HE.out.next hb1)
    obtain ⟨z0, z1, z2, y0, y1, y2⟩ := HE1.out.res.three
    clear HE hb1 R
    go_wp2_with fail
    exact ret_row2 Try.results16 rfl rfl (HE1.out.out _ _ _).1 rfl ⟨_, rfl, Out.none _ _, (HE1.out.out _ _ _).2⟩
  | true =>
    obtain ⟨n, S, rfl, -, h2, hn, -⟩ := fillB_is hf
    rw [hf] at R h
    rw [Bool.true_and] at h
    have O := fun (w' : World) (h' : Below w.heap.size w w') => l4Order_any q c ys n w' lo2 hi2 (hin2.below h' hin2.top) hlen2 (by omega)
    rw [h] at O
    replace R := Lib.hid R
    replace O := Lib.hid O
    have HE := Lib.hid hE
    obtain ⟨m, hm⟩ : ∃ m, xs.length = m := ⟨_, rfl⟩
    rw [hm] at HE R ⊢
    obtain ⟨m2, hm2⟩ : ∃ m, ys.length = m := ⟨_, rfl⟩
    rw [hm2] at O ⊢
    clear hE hin hin2 h hf hm hm2
    unfold MadeRow
    go_enter Try.func16, Try.ntmps16
    go_wp2_with fail
    refine (R.out _ HE.out.bel).mono ?_
    rintro e w1 ⟨rfl, hb1⟩
    have HE1 := Lib.hid (HE.out.next hb1)
    obtain ⟨c0, c1, c2, -⟩ := HE1.out.row.three
    clear HE hb1 R
    go_wp2_with fail
    refine (O.out _ HE1.out.bel).mono ?_
    rintro e w2 ⟨rfl, rfl⟩
    obtain ⟨z0, z1, z2, y0, y1, y2⟩ := HE1.out.res.three
    clear O c0 c1 c2
    go_wp2_with fail
    exact ret_row2 Try.results16 rfl rfl (HE1.out.out _ _ _).1 rfl ⟨_, rfl, Out.none _ _, (HE1.out.out _ _ _).2⟩

set_option maxRecDepth 4000 in
set_option maxHeartbeats 4000000 in
theorem fillByS_any (n : Nat) (ring : Bool) (p : Option Addr) (cap : Nat) (S : Nat → Bool) (q : Option Addr) (c : Nat) (l : List Nat) (w : World) (lo hi lo2 hi2 : Nat) (hin : Ri lo hi w p (ints (tk n S))) (h2 : 2 ≤ n) (hn : n ≤ 12) (h3 : ring = true → 3 ≤ n) (hin2 : Ri lo2 hi2 w q (ints l)) (hl : ∀ x ∈ l, x < n) (hll : l.length ≤ 1000) (ho : orderB n (ints l) = true) :
    Calls Try.prog 16 #[rowV n ring p (ints (tk n S)).length cap, .slice q (ints l).length c] w (MadeRow w n ring (ints (tk n (fillM n ring S l))) true) := by
  have hlen := ints_tk_len n S
  have hlen2 : (ints l).length ≤ 1000 := by rw [ints_length]; exact hll
  have hE := Beg.start w n ring p (ints (tk n S)).length cap
  have R := fun (w' : World) (h' : Below w.heap.size w w') => l4Row_any n ring p cap (ints (tk n S)) w' lo hi (hin.below h' hin.top) (by omega)
  rw [fillB_of h2 hn h3] at R
  have O := fun (w' : World) (h' : Below w.heap.size w w') => l4Order_any q c (ints l) n w' lo2 hi2 (hin2.below h' hin2.top) (by omega) (by omega)
  rw [ho] at O
  have MK := Lib.hid (fun (w' : World) (h' : Below w.heap.size w w') => l1Own_any p cap (ints (tk n S)) w' lo hi (hin.below h' hin.top) (by omega))
  have HI2 := Lib.hid hin2
  have HL := Lib.hid hl
  replace R := Lib.hid R
  replace O := Lib.hid O
  have HE := Lib.hid hE
  obtain ⟨m0, hm⟩ : ∃ m, (ints (tk n S)).length = m := ⟨_, rfl⟩
  rw [hm] at HE R MK ⊢
  have HM := Lib.hid hm
  obtain ⟨m, hm2⟩ : ∃ m, (ints l).length = m := ⟨_, rfl⟩
  rw [hm2] at O hlen2 ⊢
  have hlm2 : l.length = m := by rw [← hm2, ints_length]
  have HLM := Lib.hid hlm2
  clear hE hin hin2 hm hm2 hlen ho hl hll hlm2
  unfold MadeRow
  go_enter Try.func16, Try.ntmps16
  go_wp2_with fail
  refine (R.out _ HE.out.bel).mono ?_
  rintro e w1 ⟨rfl, hb1⟩
  have HE1 := Lib.hid (HE.out.next hb1)
  obtain ⟨c0, c1, c2, -⟩ := HE1.out.row.three
  clear HE hb1 R
  go_wp2_with fail
  refine (O.out _ HE1.out.bel).mono ?_
  rintro e wb ⟨rfl, rfl⟩
  clear O
  obtain ⟨wb, rfl⟩ : ∃ wb : World, wb = w1 := ⟨_, rfl⟩
  have HEd := Lib.hid (HE1.out.next ((Below.refl _ wb).drew))
  have hsb : w.heap.size + 2 ≤ wb.heap.size := HE1.out.res.lt
  have HSB := Lib.hid hsb
  have HD0 := Lib.hid ((Below.refl wb.heap.size wb).drew)
  have HDZ : Hid (Below wb.heap.size wb (wb.alloc (.cells #[.int .i64 0, .bool false, .slice none 0 0] 26)).drew) := by show Below _ _ _; exact ((Below.refl _ _).alloc (Nat.le_refl _) _).drew
  clear hsb
  go_upto_region 3 with fail
  go_cut [6] (fun v wx => ∃ g q c, v = .pointer (some ⟨g, 0, none⟩) ∧ Hid (wb.heap.size ≤ g) ∧ Hid (OwnArr wx g 26 [.int .i64 n, .bool ring, .slice q m0 c]) ∧ Hid (Out wb.heap.size wx (.slice q m0 c) (ints (tk n S))) ∧ Hid (Below wb.heap.size wb wx))
  case first =>
    go_region_held3 (fun w' => w'.cell? ⟨w.heap.size, 0, none⟩ = some (.int .i64 n) ∧ w'.cell? ⟨w.heap.size, 1, none⟩ = some (.bool ring) ∧ w'.cell? ⟨w.heap.size, 2, none⟩ = some (.slice p m0 cap)) ((first | with_reducible exact ⟨c0, c1, c2⟩ | with_reducible exact ⟨d0, d1, d2⟩ | with_reducible exact ⟨e0, e1, e2⟩ | (obtain ⟨s0, s1, s2⟩ := (by assumption : _ ∧ _ ∧ _); with_reducible exact ⟨cell_allocP s0, cell_allocP s1, cell_allocP s2⟩) | (obtain ⟨s0, s1, s2⟩ := (by assumption : _ ∧ _ ∧ _); have hne := N0.out; with_reducible exact ⟨cell_set3P s0 hne, cell_set3P s1 hne, cell_set3P s2 hne⟩) | (obtain ⟨s0, s1, s2⟩ := (by assumption : _ ∧ _ ∧ _); have hne := N1.out; with_reducible exact ⟨cell_set3P s0 hne, cell_set3P s1 hne, cell_set3P s2 hne⟩) | go_keep)) (first
      | (go_at_call 38; refine (MK.out _ (by first | with_reducible exact HEd.out.bel | exact HE1.out.bel.trans (HDZ.out.mono HE1.out.bel.size))).mono ?_; rintro e wm ⟨g, kk, rfl, hg, hk1, hk2, hO, hbm⟩; have HBm : Hid (Below wb.heap.size wb wm) := (by show Below _ _ _; first | with_reducible exact HD0.out.trans (hbm.mono HD0.out.size) | with_reducible exact HDZ.out.trans (hbm.mono HDZ.out.size)); have HOm : Hid (Out wb.heap.size wm (.slice (some ⟨g, 0, none⟩) m0 kk) (ints (tk n S))) := (by show Out _ _ _ _; first | with_reducible exact hO.mono HD0.out.size | with_reducible exact hO.mono HDZ.out.size); have HEm := Lib.hid (HE1.out.next HBm.out); obtain ⟨d0, d1, d2, -⟩ := HEm.out.row.three; have N0 : Hid (w.heap.size ≠ wb.heap.size) := (by show _ ≠ _; have := HSB.out; omega); have N1 : Hid (w.heap.size ≠ wm.heap.size) := (by show _ ≠ _; have := HSB.out; have := HBm.out.size; omega); clear hg hk1 hk2 hO; (first | (have hz : Below (wb.alloc (.cells #[.int .i64 0, .bool false, .slice none 0 0] 26)).drew.heap.size (wb.alloc (.cells #[.int .i64 0, .bool false, .slice none 0 0] 26)).drew wm := (by with_reducible exact hbm); have HZ := Lib.hid (z_oneP hz)) | skip))
      | (go_at_call 47; refine (l2Made_any _ _ _ _ _ _ _ _ _).mono ?_; rintro e wr ⟨rfl, hbr⟩; have HBr : Hid (Below wb.heap.size wb wr) := (by show Below _ _ _; first | with_reducible exact HBm.out.trans (hbr.mono HBm.out.size) | with_reducible exact (HBm.out.alloc HBm.out.size _).trans (hbr.mono (HBm.out.alloc HBm.out.size _).size)); have HOr : Hid (Out wb.heap.size wr (.slice (some ⟨g, 0, none⟩) m0 kk) (ints (tk n S))) := (by show Out _ _ _ _; first | with_reducible exact HOm.out.below hbr | with_reducible exact Out.below (World.ownsRow.alloc HOm.out _) hbr); have HEr := Lib.hid (HE1.out.next HBr.out); obtain ⟨e0, e1, e2, -⟩ := HEr.out.row.three; (first | (have HZ := Lib.hid (HZ.out.below hbr HZ.out.lt)) | (have hz : Below (wm.alloc (.cells #[.int .i64 0, .bool false, .slice none 0 0] 26)).heap.size (wm.alloc (.cells #[.int .i64 0, .bool false, .slice none 0 0] 26)) wr := (by with_reducible exact hbr); have HZ := Lib.hid (z_twoP hz)) | skip); (try obtain ⟨z0, z1, z2, y0, y1, y2⟩ := HZ.out.three)))
    all_goals
      go_wp2_with fail
      go_meet
      first
        | (obtain ⟨f1, f2, f3⟩ := fin_boxP (.int .i64 n) (.bool ring) (.slice (some ⟨g, 0, none⟩) m0 kk) HZ.out rfl (by first | exact Nat.le_refl _ | exact HBm.out.size) HOr.out HBr.out; exact ⟨_, some ⟨g, 0, none⟩, kk, rfl, Lib.hid (by first | exact Nat.le_refl _ | exact HBm.out.size), Lib.hid f1, Lib.hid f2, Lib.hid f3⟩)
        | exact ⟨_, some ⟨g, 0, none⟩, kk, rfl, Lib.hid HBr.out.size, Lib.hid (OwnArr.made wr 26 [.int .i64 n, .bool ring, .slice (some ⟨g, 0, none⟩) m0 kk]), Lib.hid (World.ownsRow.alloc HOr.out _), Lib.hid (HBr.out.alloc HBr.out.size _)⟩
  case rest =>
    obtain ⟨g, qx, cx, rfl, HG0, HX0, HO0, HB⟩ := hcut
    have HE0 := Lib.hid (HE1.out.next HB.out)
    have hg2 : w.heap.size + 2 ≤ g := by have := HG0.out; have := HSB.out; omega
    have HO0' : Hid (Out (w.heap.size + 2) wc (.slice qx m0 cx) (ints (tk n S))) := by show Out _ _ _ _; exact HO0.out.mono HSB.out
    clear HB HE1 HEd HD0 HDZ MK HG0 HO0 c0 c1 c2 HSB
    go_wp2_with fail
    go_loopw [7] (fun i wr => ∃ (j : Nat) (T : Nat → Bool) (qx : Option Addr) (k cx : Nat), j ≤ m ∧ i = .int .i64 j ∧ Hid ((ints (tk n T)).length = k) ∧ Hid (T = fillM n ring S (l.take j)) ∧ Hid (Beg w n ring p m0 cap wr) ∧ Hid (OwnArr wr g 26 [.int .i64 n, .bool ring, .slice qx k cx]) ∧ Hid (Out (w.heap.size + 2) wr (.slice qx k cx) (ints (tk n T)))) (fun i _ => m - (intOf i).toNat)
    case atStart => exact ⟨0, S, qx, m0, cx, Nat.zero_le _, rfl, HM, Lib.hid rfl, HE0, HX0, HO0'⟩
    case round =>
      obtain ⟨j, T, qx, k, cx, hj, rfl, HK, HT, HE, HX, HO⟩ := hrel
      clear HE0 HX0 HO0' HM
      by_cases hlt : j < m
      · have hjl : j < l.length := by have := HLM.out; omega
        obtain ⟨b, off, rfl, -, -, hbw, hc⟩ := HI2.out.int (by rw [ints_length]; omega)
        have h00 := hc j (by rw [ints_length]; exact hjl)
        rw [ints_get hjl] at h00
        have hyn := HL.out _ (nat_mem hjl)
        have hst := fillM_step n ring S hjl
        obtain ⟨y, hy⟩ : ∃ y, l[j]?.getD 0 = y := ⟨_, rfl⟩
        rw [hy] at h00 hyn hst
        rw [← HT.out] at hst
        have H00 := Lib.hid (fun (w' : World) (h' : Below w.heap.size w w') => (h'.cell (p := ⟨b, off + j, none⟩) hbw).trans h00)
        have LS := lonS_any n ring qx cx T wr.drew _ _ (HO.out.riP.bel ((Below.refl _ wr).drew)) (by omega)
        rw [HK.out] at LS
        have hin0 := has_tk (n := n) (k := y) (S := lonM n ring T) hyn
        have hll0 := ints_tk_len n (lonM n ring T)
        obtain ⟨B, hB⟩ : ∃ B, lonM n ring T y = B := ⟨_, rfl⟩
        rw [hB] at hst hin0
        obtain ⟨LL, hLL⟩ : ∃ LL, ints (tk n (lonM n ring T)) = LL := ⟨_, rfl⟩
        rw [hLL] at LS hin0 hll0
        replace LS := Lib.hid LS
        have HIN := Lib.hid hin0
        have HLL := Lib.hid hll0
        have HST := Lib.hid hst
        have hT0 : B = true → T y = false := by
          intro e; subst e
          unfold lonM at hB
          rw [Bool.and_eq_true] at hB
          simpa using hB.1
        have ht0 : (0 : Int) ≤ (j : Int) := by omega
        have ht1 : (j : Int) < (m : Int) := by omega
        replace hT0 := Lib.hid hT0
        have HEd := Lib.hid (HE.out.next ((Below.refl _ wr).drew))
        have HXd : Hid (OwnArr wr.drew g 26 [.int .i64 n, .bool ring, .slice qx k cx]) := HX.out
        have HD := Lib.hid ((Below.refl wr.heap.size wr).drew)
        clear hc hy hst hB hin0 hll0 hLL h00
        go_wp2_with fail
        go_cut [36] (fun v wx => v = .bool B ∧ Hid (Below wr.heap.size wr wx))
        case first =>
          obtain ⟨x0, x1, x2, -⟩ := HXd.out.three
          have h0 := H00.out _ HEd.out.bel
          go_region_held3 (fun w' => w'.cell? ⟨g, 0, none⟩ = some (.int .i64 n) ∧ w'.cell? ⟨g, 1, none⟩ = some (.bool ring) ∧ w'.cell? ⟨g, 2, none⟩ = some (.slice qx k cx) ∧ w'.cell? ⟨b, off + j, none⟩ = some (.int .i64 y)) ((first | with_reducible exact ⟨x0, x1, x2, h0⟩ | with_reducible exact ⟨d0, d1, d2, h02⟩ | go_keep)) (first
            | (go_at_call 49; refine LS.out.mono ?_; rintro e w2 ⟨v, rfl, hLo, hb2⟩; obtain ⟨qv, cv, rfl, -, -, hLr, -⟩ := hLo.rd; have HD2 := Lib.hid (HD.out.trans (hb2.mono HD.out.size)); have HX2 := Lib.hid (HXd.out.below hb2 HXd.out.lt); obtain ⟨d0, d1, d2, -⟩ := HX2.out.three; have h02 := H00.out _ (HEd.out.next hb2).bel; have LH := l1Has_any qv cv LL (y : Int) w2 _ _ hLr (by have := HLL.out; omega); rw [HIN.out] at LH; replace LH := Lib.hid LH; clear hLo hb2 hLr)
            | (go_at_call 48; refine LH.out.mono ?_; rintro e w3 ⟨rfl, rfl⟩))
          all_goals
            go_wp2_with fail
            go_meet
            exact ⟨rfl, HD2⟩
        case rest =>
          obtain ⟨rfl, HBc⟩ := hcut
          obtain ⟨w1, rfl⟩ : ∃ w1 : World, w1 = wc := ⟨_, rfl⟩
          have HE1 := Lib.hid (HE.out.next HBc.out)
          have HX1 := Lib.hid (HX.out.below HBc.out HX.out.lt)
          have HO1 := Lib.hid (HO.out.below HBc.out)
          clear HE HX HO HEd HXd HD HBc LS HIN HLL
          cases B with
          | true =>
            have hTy := hT0.out rfl
            obtain ⟨T2, hT2⟩ : ∃ T2 : Nat → Bool, (fun i => if i = y then true else T i) = T2 := ⟨_, rfl⟩
            have hput : putM (y : Int) (ints (tk n T)) = ints (tk n T2) := by
              rw [take_spec hyn hTy, ← hT2]
              congr 1
              refine tk_congr fun i _ => ?_
              by_cases e : i = y
              · simp [e]
              · simp [e]
            have HT2 : Hid (T2 = fillM n ring S (l.take (j + 1))) := by
              show _ = _
              rw [HST.out, if_pos rfl]; exact hT2.symm
            have hnot : (y : Int) ∉ ints (tk n T) := by
              rw [mem_ints_tk]
              rintro ⟨i, h1, _, h3'⟩
              have : i = y := by omega
              rw [this, hTy] at h3'; cases h3'
            have HW2 := Lib.hid (fun (w' : World) (h' : Below w1.heap.size w1 w') => with_any n ring qx cx (ints (tk n T)) (y : Int) w' _ _ (HO1.out.riP.bel h') (by have := ints_tk_len n T; omega) hnot)
            replace HW2 := HW2.out
            rw [hput, HK.out] at HW2
            replace HW2 := Lib.hid HW2
            obtain ⟨k2, hk2⟩ : ∃ k2, (ints (tk n T2)).length = k2 := ⟨_, rfl⟩
            have HK2 := Lib.hid hk2
            have HD1 := Lib.hid ((Below.refl w1.heap.size w1).drew)
            have HX1d : Hid (OwnArr w1.drew g 26 [.int .i64 n, .bool ring, .slice qx k cx]) := HX1.out
            have h0 := H00.out _ HE1.out.bel
            obtain ⟨x0, x1, x2, -⟩ := HX1.out.three
            clear hT2 hput hnot hTy hk2
            go_wp2_with fail
            go_region_with (go_at_call 50; refine (HW2.out _ HD1.out).mono ?_; rintro e w4 ⟨u, rfl, hT4, hb4⟩; obtain ⟨q4, c4, rfl, -⟩ := hT4.rd; rw [HK2.out] at hT4 ⊢; have HX4 := Lib.hid (HX1d.out.below hb4 HX1d.out.lt); have HB4 := Lib.hid (HD1.out.trans (hb4.mono HD1.out.size)); have HU4 := Lib.hid (hT4.mono HD1.out.size); obtain ⟨z0, z1, z2, y0, y1, y2⟩ := HX4.out.three; clear hT4 hb4)
            all_goals
              obtain ⟨f1, f2, f3⟩ := fin_boxP (.int .i64 n) (.bool ring) (.slice q4 k2 c4) HX4.out rfl hg2 (HU4.out.mono HE1.out.res.lt) (HB4.out.mono HE1.out.res.lt)
              have HX5 := Lib.hid f1
              have HO5 := Lib.hid f2
              have HE5 := Lib.hid (HE1.out.next2 f3)
              clear f1 f2 f3 HX1 HO1 HE1 HX4 HB4 HU4 HX1d x0 x1 x2
              go_wp2_with fail
              go_roundw
              case rel => exact ⟨j + 1, T2, q4, k2, c4, by omega, by go_num, HK2, HT2, HE5, HX5, HO5⟩
              case measure => simp [intOf]; omega
          | false =>
            have HT2 : Hid (T = fillM n ring S (l.take (j + 1))) := by
              show _ = _
              rw [HST.out, if_neg (by simp)]
            go_wp2_with fail
            go_roundw
            case rel => exact ⟨j + 1, T, qx, k, cx, by omega, by go_num, HK, HT2, HE1, HX1, HO1⟩
            case measure => simp [intOf]; omega
      · have hjm : j = m := by omega
        subst hjm
        have hto : l.take j = l := List.take_of_length_le (by rw [HLM.out]; exact Nat.le_refl _)
        have hT := HT.out
        rw [hto] at hT
        subst hT
        have ht1 : ¬ (j : Int) < (j : Int) := by omega
        obtain ⟨x0, x1, x2, -⟩ := HX.out.three
        obtain ⟨z0, z1, z2, y0, y1, y2⟩ := HE.out.res.three
        clear hto HT
        go_wp2_with fail
        exact ret_row2 Try.results16 rfl rfl (HE.out.out _ _ _).1 rfl ⟨_, rfl, (HO.out.boxed HE.out.res _ _ _).mono (by omega), (HE.out.out _ _ _).2⟩

theorem fillBy_both (s : Int) (ring : Bool) (xs ys : List Int) : ∃ (s' : Int) (ring' : Bool) (L : List Int) (B : Bool), L.length ≤ 24 ∧
    (∀ (p : Option Addr) (cap : Nat) (q : Option Addr) (c : Nat) (w : World) (lo hi lo2 hi2 : Nat), Ri lo hi w p xs → Ri lo2 hi2 w q ys → xs.length ≤ 1048576 → ys.length ≤ 1048576 → Calls Try.prog 16 #[rowV s ring p xs.length cap, .slice q ys.length c] w (MadeRow w s' ring' L B)) ∧
    (∀ (p : Option Addr) (cap : Nat) (q : Option Addr) (c : Nat) (w : World) (lo hi lo2 hi2 : Nat), Ri lo hi w p xs → Ri lo2 hi2 w q ys → xs.length ≤ 1048576 → ys.length ≤ 1048576 → Calls Try.prog 18 #[rowV s ring p xs.length cap, .slice q ys.length c] w (MadeRow w s' ring' L B)) := by
  cases h : (fillB s ring xs && orderB s ys) with
  | true =>
    rw [Bool.and_eq_true] at h
    obtain ⟨n, S, rfl, rfl, h2, hn, h3⟩ := fillB_is h.1
    obtain ⟨l, rfl, hl, hm⟩ := orderB_is h.2
    exact ⟨n, ring, ints (tk n (fillM n ring S l)), true, by have := ints_tk_len n (fillM n ring S l); omega,
      fun p cap q c w lo hi lo2 hi2 hin hin2 _ _ => fillByS_any n ring p cap S q c l w lo hi lo2 hi2 hin h2 hn h3 hin2 hm (by omega) h.2,
      fun p cap q c w lo hi lo2 hi2 hin hin2 _ _ => fillByI_any n ring p cap S q c l w lo hi lo2 hi2 hin h2 hn h3 hin2 hm (by omega) h.2⟩
  | false =>
    exact ⟨0, false, [], false, by simp,
      fun p cap q c w lo hi lo2 hi2 hin hin2 hl hl2 => fillByS_bad s ring p cap xs q c ys w lo hi lo2 hi2 hin hin2 hl hl2 h,
      fun p cap q c w lo hi lo2 hi2 hin hin2 hl hl2 => fillByI_bad s ring p cap xs q c ys w lo hi lo2 hi2 hin hin2 hl hl2 h⟩
end Go.Proofs.Ytidiljnonbkpjaa
