/- spec.InsertSeat, for every Row, all places and both marks. -/
import Derived.Test.YtefbepebgmalpaaPut
import Derived.Test.YtefbepebgmalpaaKept
import Derived.Lib.SmallJoins
namespace Go.Proofs.Ytefbepebgmalpaa
open Go.RowKit

/-- a valid Row has the place -/
def placeB (s : Int) (ring : Bool) (xs : List Int) (a : Int) : Bool := rowB s ring xs && (decide (0 ≤ a) && decide (a ≤ s))

set_option maxRecDepth 4000 in
set_option maxHeartbeats 1600000 in
theorem insS_bad (s : Int) (ring : Bool) (p : Option Addr) (cap : Nat) (xs : List Int) (a : Int) (t : Bool) (w : World) (lo hi : Nat) (hin : Ri lo hi w p xs) (hlen : xs.length ≤ 1048576) (h : placeB s ring xs a = false) :
    Calls Try.prog 24 #[rowV s ring p xs.length cap, .int .i64 a, .bool t] w (MadeRow w 0 false [] false) := by
  have hE := Beg.start w s ring p xs.length cap
  have R := fun (w' : World) (h' : Below w.heap.size w w') => l2Row_any s ring p cap xs w' lo hi (hin.below h' hin.top) hlen
  have IN := fun w' => l1In_any a 0 s w'
  have HE := Lib.hid hE
  replace R := Lib.hid R
  clear hE hin
  unfold MadeRow
  unfold placeB at h
  cases hr : rowB s ring xs with
  | false =>
    rw [hr] at R
    clear h hr
    go_enter Try.func24, Try.ntmps24
    go_wp2_with fail
    refine (R.out _ HE.out.bel).mono ?_
    rintro e w1 ⟨rfl, hb1⟩
    have HE1 := Lib.hid (HE.out.next hb1)
    obtain ⟨z0, z1, z2, y0, y1, y2⟩ := HE1.out.res.three
    clear HE hb1 R
    go_wp2_with fail
    exact ret_row2 Try.results24 rfl rfl (HE1.out.out _ _ _).1 rfl ⟨_, rfl, Out.none _ _, (HE1.out.out _ _ _).2⟩
  | true =>
    rw [hr] at R h
    simp only [Bool.true_and] at h
    rw [h] at IN
    replace IN := Lib.hid IN
    clear h hr
    go_enter Try.func24, Try.ntmps24
    go_wp2_with fail
    refine (R.out _ HE.out.bel).mono ?_
    rintro e w1 ⟨rfl, hb1⟩
    have HE1 := Lib.hid (HE.out.next hb1)
    obtain ⟨z0, z1, z2, y0, y1, y2⟩ := HE1.out.res.three
    obtain ⟨c0, c1, c2, -⟩ := HE1.out.row.three
    clear HE hb1 R
    go_wp2_with fail
    refine (IN.out _).mono ?_
    rintro e w2 ⟨rfl, rfl⟩
    go_wp2_with fail
    exact ret_row2 Try.results24 rfl rfl (HE1.out.out _ _ _).1 rfl ⟨_, rfl, Out.none _ _, (HE1.out.out _ _ _).2⟩

set_option maxRecDepth 4000 in
set_option maxHeartbeats 4000000 in
theorem insS_any (n : Nat) (ring : Bool) (p : Option Addr) (cap : Nat) (S : Nat → Bool) (a : Nat) (t : Bool) (w : World) (lo hi' : Nat) (hin : Ri lo hi' w p (ints (tk n S))) (h2 : 2 ≤ n) (hn : n ≤ 24) (h3 : ring = true → 3 ≤ n) (ha : a ≤ n) (B : Bool) (hB : rowB ((n : Int) + 1) ring (ints (tk (n + 1) (insS S a t))) = B) :
    Calls Try.prog 24 #[rowV n ring p (ints (tk n S)).length cap, .int .i64 a, .bool t] w (MadeRow w (if B then (n : Int) + 1 else 0) (ring && B) (if B then ints (tk (n + 1) (insS S a t)) else []) B) := by
  obtain ⟨i0, hi, hz0, hz1, hz2⟩ := info_parts infoInt
  have hlen := ints_tk_len n S
  have hE := Beg.start w n ring p (ints (tk n S)).length cap
  have RW := fun (w' : World) (h' : Below w.heap.size w w') => l2Row_any n ring p cap (ints (tk n S)) w' lo hi' (hin.below h' hin.top) (by omega)
  rw [rowB_of h2 hn h3] at RW
  have IN := fun w' => l1In_any (a : Int) 0 (n : Int) w'
  have hC : (decide (0 ≤ (a : Int)) && decide ((a : Int) ≤ (n : Int))) = true := by simp; omega
  rw [hC] at IN
  have HSH := Lib.hid (shift_spec (S := S) ha)
  have HIS := Lib.hid (insert_spec (S := S) ha)
  have HNI := Lib.hid (insert_notin (n := n) (p := a) (S := S))
  have HL : Hid (∀ x ∈ tk n S, x < n) := by show ∀ _, _; exact fun x hx => (mem_tk.1 hx).1
  have HLN := Lib.hid (ints_tk_len (n + 1) (insS S a false))
  have HLT := Lib.hid (ints_tk_len (n + 1) (insS S a t))
  obtain ⟨l, hl⟩ : ∃ l, tk n S = l := ⟨_, rfl⟩
  rw [hl] at hin hlen RW HSH HL hE ⊢
  obtain ⟨q, hq⟩ : ∃ q, l.length = q := ⟨_, rfl⟩
  have hql : (ints l).length = q := by rw [ints_length, hq]
  rw [hql] at hlen RW hE ⊢
  obtain ⟨LF, hLF⟩ : ∃ LF, ints (tk (n + 1) (insS S a false)) = LF := ⟨_, rfl⟩
  rw [hLF] at HSH HIS HNI HLN
  have HQ : Hid (LF.length = q) := by show _ = _; rw [← HSH.out, List.length_map, hql]
  have HI := Lib.hid hin
  have HE := Lib.hid hE
  replace RW := Lib.hid RW
  replace IN := Lib.hid IN
  replace hq := Lib.hid hq
  have e1 : IntKind.i64.wrap ((n : Int) + 1) = (n : Int) + 1 := IntWalk.i64_in _ (by omega)
  replace hLF := Lib.hid hLF
  clear hE hin hC hl hql h3
  unfold MadeRow
  go_enter Try.func24, Try.ntmps24
  go_wp2_with fail
  refine (RW.out _ HE.out.bel).mono ?_
  rintro e w1 ⟨rfl, hb1⟩
  have HE1 := Lib.hid (HE.out.next hb1)
  clear HE RW hb1
  obtain ⟨c0, c1, c2, -⟩ := HE1.out.row.three
  go_wp2_with fail
  refine (IN.out _).mono ?_
  rintro e w2 ⟨rfl, rfl⟩
  clear IN
  obtain ⟨w3, hw3⟩ : ∃ w3, w3 = (w1.alloc (.cells #[] 3)).alloc (.cells #[Value.int .i64 ((n : Int) + 1), Value.bool ring, Value.slice (some ⟨w1.heap.size, 0, none⟩) 0 0] 26) := ⟨_, rfl⟩
  have hB3 : Below w1.heap.size w1 w3 := by rw [hw3]; exact ((Below.refl _ w1).alloc (Nat.le_refl _) _).alloc (by simp) _
  have hX3 : OwnArr w3 (w1.heap.size + 1) 26 [.int .i64 ((n : Int) + 1), .bool ring, .slice (some ⟨w1.heap.size, 0, none⟩) 0 0] := by rw [hw3]; exact OwnArr.mk' rfl (by simp)
  have hO3 : Out w1.heap.size w3 (.slice (some ⟨w1.heap.size, 0, none⟩) 0 0) [] := by rw [hw3]; exact World.ownsRow.alloc (Out.nilLit w1) _
  have HE3 := Lib.hid (HE1.out.next hB3)
  have HX3 := Lib.hid hX3
  have HO3 := Lib.hid (hO3.mono (Nat.le_of_lt HE1.out.res.lt))
  have hX13 : w.heap.size + 1 < w1.heap.size := HE1.out.res.lt
  clear HE1 hB3 hX3 hO3
  go_wp2_with fail
  rw [← hw3]
  clear c0 c1 c2 hw3
  go_loopw [9, 10] (fun i _ wr => ∃ (j : Nat) (v : Value), j ≤ q ∧ i = .int .i64 j ∧ ¬ v = .slice none 0 0 ∧ Hid (Beg w n ring p q cap wr) ∧ Hid (OwnArr wr (w1.heap.size + 1) 26 [.int .i64 ((n : Int) + 1), .bool ring, v]) ∧ Hid (Out (w.heap.size + 1) wr v ((ints (l.take j)).map (shiftI a)))) (fun i _ _ => q - (intOf i).toNat)
  case atStart => exact ⟨0, _, Nat.zero_le _, rfl, by simp, HE3, HX3, HO3⟩
  case round =>
    obtain ⟨j, v, hj, rfl, hvn, HE, HX, HO⟩ := hrel
    clear HE3 HX3 HO3
    obtain ⟨c0, c1, c2, -⟩ := HE.out.row.three
    obtain ⟨x0, x1, x2, f0, f1, f2⟩ := HX.out.three
    by_cases hlt : j < q
    · have hjl : j < l.length := by have := hq.out; omega
      obtain ⟨b, off, rfl, -, -, hbw, hc⟩ := HI.out.int (by rw [ints_length]; omega)
      have h0 := (HE.out.bel.cell (p := ⟨b, off + j, none⟩) hbw).trans (hc j (by rw [ints_length]; exact hjl))
      rw [ints_get hjl] at h0
      have hyn := HL.out _ (nat_mem hjl)
      have hst : l.take (j + 1) = l.take j ++ [l[j]?.getD 0] := by
        rw [List.take_succ_eq_append_getElem hjl, List.getElem?_eq_getElem hjl]; rfl
      obtain ⟨y, hy⟩ : ∃ y, l[j]?.getD 0 = y := ⟨_, rfl⟩
      rw [hy] at h0 hyn hst
      have ht1 : (j : Int) < (q : Int) := by omega
      have HT0 : Hid ((ints (l.take (j + 1))).map (shiftI a) = (ints (l.take j)).map (shiftI a) ++ [shiftI a (y : Int)]) := by
        show _ = _
        rw [hst, ints_append, List.map_append]; rfl
      have HL0 : Hid (((ints (l.take j)).map (shiftI a)).length ≤ j) := by
        show _ ≤ _
        rw [List.length_map, ints_length, List.length_take, hq.out]; omega
      have hne1 := Lib.hid (own_ne HO.out HX.out)
      have hne2 := Lib.hid (own_ne HO.out HE.out.row)
      have hne3 := Lib.hid (own_ne HO.out HE.out.res)
      have hblk := Lib.hid (own_block HO.out)
      obtain ⟨k, vs, hkl, hvs, hown⟩ := HO.out.open'
      have hlk := HL0.out
      rw [hkl] at hlk
      have hsz2 := HX.out.lt
      have hszr := HE.out.res.lt
      replace hkl := Lib.hid hkl
      replace hvs := Lib.hid hvs
      have e2 : IntKind.i64.wrap ((y : Int) + 1) = (y : Int) + 1 := IntWalk.i64_in _ (by omega)
      clear hc hy hst
      by_cases hya : a ≤ y
      · have hyI : (a : Int) ≤ (y : Int) := by omega
        have HT : Hid ((ints (l.take (j + 1))).map (shiftI a) = (ints (l.take j)).map (shiftI a) ++ [(y : Int) + 1]) := by
          show _ = _
          rw [HT0.out]
          unfold shiftI
          rw [if_pos hyI]
        clear HT0
        go_wp2_with (at_builtin; refine wpList_append_own _ rfl _ _ 22 rfl (w.heap.size + 1) 3 i0 (.int .i64 0) 1 8 Try.underlying22 hi hz0 hz1 hz2 rfl (by decide) _ _ _ rfl (hown.alloc _) ⟨wr.heap.size, 0, none⟩ 1 1 [.int .i64 ((y : Int) + 1)] rfl rfl (cell_one_new _ _ _) (fun x hx => by simp at hx; subst hx; rfl) (by unfold maxLen; omega) (by omega) (by simp; omega) ?_; intro v' w5 hown' hgrow5 hnil5; obtain ⟨g', cp', rfl⟩ := Go.Joins.ownsRow_form hown' (by omega); have HX5 := Lib.hid (OwnArr.grown (HX.out.alloc _) hgrow5 hne1.out); have HR5 := Lib.hid (OwnArr.grown (HE.out.row.alloc _) hgrow5 hne2.out); have HS5 := Lib.hid (OwnArr.grown (HE.out.res.alloc _) hgrow5 hne3.out); obtain ⟨d0, d1, d2, g0, g1, g2⟩ := HX5.out.three)
        have hG : Below w.heap.size wr w5 := ((Below.refl w.heap.size wr).alloc (by omega) _).grown hgrow5 (by simp; omega) (fun k' h' => by have := hblk.out k' h'; omega)
        have HO5 : Hid (Out (w.heap.size + 1) w5 (.slice (some ⟨g', 0, none⟩) (k + 1) cp') ((ints (l.take (j + 1))).map (shiftI a))) := by
          show Out _ _ _ _
          rw [HT.out]; exact Out.close hkl.out hvs.out hown'
        have hne5 := Lib.hid (own_ne HO5.out HX5.out)
        have HX6 := Lib.hid (HX5.out.set 2 (.slice (some ⟨g', 0, none⟩) (k + 1) cp'))
        have HE6 : Hid (Beg w n ring (some ⟨b, off, none⟩) q cap (w5.setCell ⟨w1.heap.size + 1, 2, none⟩ (.slice (some ⟨g', 0, none⟩) (k + 1) cp'))) := by
          refine ⟨HR5.out.other (a := ⟨w1.heap.size + 1, 2, none⟩) (by show w.heap.size ≠ w1.heap.size + 1; omega) _, HS5.out.other (a := ⟨w1.heap.size + 1, 2, none⟩) (by show w.heap.size + 1 ≠ w1.heap.size + 1; omega) _, ?_⟩
          exact (HE.out.bel.trans hG).setCell (p := ⟨w1.heap.size + 1, 2, none⟩) (by show _ ≤ w1.heap.size + 1; omega) _
        have HO6 := Lib.hid (HO5.out.other (a := ⟨w1.heap.size + 1, 2, none⟩) hne5.out (.slice (some ⟨g', 0, none⟩) (k + 1) cp'))
        clear hown' hgrow5 hnil5 hown hG HO5 HX5 HR5 HS5 hne5 HX HE HO
        go_wp2_with fail
        go_roundw
        case rel => exact ⟨j + 1, .slice (some ⟨g', 0, none⟩) (k + 1) cp', by omega, by go_num, by simp, HE6, HX6, HO6⟩
        case measure => simp [intOf]; omega
      · have hyI : ¬ (a : Int) ≤ (y : Int) := by omega
        have HT : Hid ((ints (l.take (j + 1))).map (shiftI a) = (ints (l.take j)).map (shiftI a) ++ [(y : Int)]) := by
          show _ = _
          rw [HT0.out]
          unfold shiftI
          rw [if_neg hyI]
        clear HT0
        go_wp2_with (at_builtin; refine wpList_append_own _ rfl _ _ 22 rfl (w.heap.size + 1) 3 i0 (.int .i64 0) 1 8 Try.underlying22 hi hz0 hz1 hz2 rfl (by decide) _ _ _ rfl (hown.alloc _) ⟨wr.heap.size, 0, none⟩ 1 1 [.int .i64 ((y : Int))] rfl rfl (cell_one_new _ _ _) (fun x hx => by simp at hx; subst hx; rfl) (by unfold maxLen; omega) (by omega) (by simp; omega) ?_; intro v' w5 hown' hgrow5 hnil5; obtain ⟨g', cp', rfl⟩ := Go.Joins.ownsRow_form hown' (by omega); have HX5 := Lib.hid (OwnArr.grown (HX.out.alloc _) hgrow5 hne1.out); have HR5 := Lib.hid (OwnArr.grown (HE.out.row.alloc _) hgrow5 hne2.out); have HS5 := Lib.hid (OwnArr.grown (HE.out.res.alloc _) hgrow5 hne3.out); obtain ⟨d0, d1, d2, g0, g1, g2⟩ := HX5.out.three)
        have hG : Below w.heap.size wr w5 := ((Below.refl w.heap.size wr).alloc (by omega) _).grown hgrow5 (by simp; omega) (fun k' h' => by have := hblk.out k' h'; omega)
        have HO5 : Hid (Out (w.heap.size + 1) w5 (.slice (some ⟨g', 0, none⟩) (k + 1) cp') ((ints (l.take (j + 1))).map (shiftI a))) := by
          show Out _ _ _ _
          rw [HT.out]; exact Out.close hkl.out hvs.out hown'
        have hne5 := Lib.hid (own_ne HO5.out HX5.out)
        have HX6 := Lib.hid (HX5.out.set 2 (.slice (some ⟨g', 0, none⟩) (k + 1) cp'))
        have HE6 : Hid (Beg w n ring (some ⟨b, off, none⟩) q cap (w5.setCell ⟨w1.heap.size + 1, 2, none⟩ (.slice (some ⟨g', 0, none⟩) (k + 1) cp'))) := by
          refine ⟨HR5.out.other (a := ⟨w1.heap.size + 1, 2, none⟩) (by show w.heap.size ≠ w1.heap.size + 1; omega) _, HS5.out.other (a := ⟨w1.heap.size + 1, 2, none⟩) (by show w.heap.size + 1 ≠ w1.heap.size + 1; omega) _, ?_⟩
          exact (HE.out.bel.trans hG).setCell (p := ⟨w1.heap.size + 1, 2, none⟩) (by show _ ≤ w1.heap.size + 1; omega) _
        have HO6 := Lib.hid (HO5.out.other (a := ⟨w1.heap.size + 1, 2, none⟩) hne5.out (.slice (some ⟨g', 0, none⟩) (k + 1) cp'))
        clear hown' hgrow5 hnil5 hown hG HO5 HX5 HR5 HS5 hne5 HX HE HO
        go_wp2_with fail
        go_roundw
        case rel => exact ⟨j + 1, .slice (some ⟨g', 0, none⟩) (k + 1) cp', by omega, by go_num, by simp, HE6, HX6, HO6⟩
        case measure => simp [intOf]; omega
    · have hjq : j = q := by omega
      subst hjq
      have hto : l.take j = l := List.take_of_length_le (by have := hq.out; omega)
      have hO := HO.out
      rw [hto, HSH.out] at hO
      obtain ⟨g, c, e, hg1, hg2, hgc, hcm⟩ := hO.some' hvn
      rw [HQ.out] at e hgc
      subst e
      have hkb := HLN.out
      rw [HQ.out] at hkb
      cases t with
      | false =>
        have HO2 := Lib.hid hO
        have HFIN : Hid (LF = ints (tk (n + 1) (insS S a false))) := by show _ = _; rw [hLF.out]
        have hLm : LF.length = j := HQ.out
        clear hO HO hto
        have K := kept_any ((n : Int) + 1) ring (some ⟨g, 0, none⟩) c LF wr _ _ (by obtain ⟨p', c', e, -, -, h, -⟩ := HO2.out.rd; simp only [Value.slice.injEq] at e; obtain ⟨rfl, -⟩ := e; exact h) (by have := hLm; omega) _ hLm B (by rw [← hB, HFIN.out])
        replace K := Lib.hid K
        obtain ⟨x0, x1, x2, -⟩ := HX.out.three
        cases B with
        | true =>
          go_wp2_with fail
          refine K.out.mono ?_
          rintro e w9 ⟨rfl, hb9⟩
          have HE9 := Lib.hid (HE.out.next hb9)
          have HO9 := Lib.hid (HO2.out.below hb9)
          obtain ⟨z0, z1, z2, y0, y1, y2⟩ := HE9.out.res.three
          clear x0 x1 x2 HE HX HO2 hb9
          go_wp2_with fail
          refine ret_row2 Try.results24 rfl rfl (HE9.out.out _ _ _).1 rfl ⟨_, by simp; rfl, ?_, (HE9.out.out _ _ _).2⟩
          show Out w.heap.size _ _ (ints (tk (n + 1) (insS S a _)))
          rw [← HFIN.out]
          exact (HO9.out.boxed HE9.out.res _ _ _).mono (Nat.le_succ _)
        | false =>
          go_wp2_with fail
          refine K.out.mono ?_
          rintro e w9 ⟨rfl, hb9⟩
          have HE9 := Lib.hid (HE.out.next hb9)
          obtain ⟨z0, z1, z2, y0, y1, y2⟩ := HE9.out.res.three
          clear x0 x1 x2 HE HX hb9
          go_wp2_with fail
          refine ret_row2 Try.results24 rfl rfl (HE9.out.out _ _ _).1 rfl ⟨_, by simp; rfl, ?_, (HE9.out.out _ _ _).2⟩
          show Out w.heap.size _ _ []
          exact Out.none _ _
      | true =>
        have PU := l1Put_any g 0 c LF (a : Int) wr (w.heap.size + 1) wr.heap.size (by obtain ⟨p', c', e, -, -, h, -⟩ := hO.rd; simp only [Value.slice.injEq] at e; obtain ⟨rfl, -⟩ := e; exact h) (by rw [HQ.out]; omega) (by rw [HQ.out]; exact hgc) hcm HNI.out
        rw [HQ.out] at PU
        replace PU := Lib.hid PU
        have HFIN : Hid (putM (a : Int) LF = ints (tk (n + 1) (insS S a true))) := by show _ = _; rw [← HIS.out]
        have hLm : (putM (a : Int) LF).length = j + 1 := by rw [putM_length, HQ.out]
        obtain ⟨x0, x1, x2, f0, f1, f2⟩ := HX.out.three
        have hszr := HE.out.res.lt
        have hXlt := HX.out.lt
        clear hO HO hto
        go_wp2_with fail
        refine PU.out.mono ?_
        rintro e w4 ⟨g4, c4, rfl, hg4, -, -, hO4, hb4⟩
        clear x0 x1 x2 f0 f1 f2 PU hg1 hg2 hgc hcm
        have HX4 := Lib.hid (HX.out.below hb4 HX.out.lt)
        have HE4 := Lib.hid (HE.out.next hb4)
        obtain ⟨x0, x1, x2, f0, f1, f2⟩ := HX4.out.three
        have hne4 := Lib.hid (own_ne hO4 HX4.out)
        have HX6 := Lib.hid (HX4.out.set 2 (.slice (some ⟨g4, 0, none⟩) (j + 1) c4))
        have HE6 : Hid (Beg w n ring p j cap (w4.setCell ⟨w1.heap.size + 1, 2, none⟩ (.slice (some ⟨g4, 0, none⟩) (j + 1) c4))) := by
          refine ⟨HE4.out.row.other (a := ⟨w1.heap.size + 1, 2, none⟩) (by show w.heap.size ≠ w1.heap.size + 1; omega) _, HE4.out.res.other (a := ⟨w1.heap.size + 1, 2, none⟩) (by show w.heap.size + 1 ≠ w1.heap.size + 1; omega) _, ?_⟩
          exact HE4.out.bel.setCell (p := ⟨w1.heap.size + 1, 2, none⟩) (by show _ ≤ w1.heap.size + 1; omega) _
        have HO6 := Lib.hid ((hO4.other (a := ⟨w1.heap.size + 1, 2, none⟩) hne4.out (.slice (some ⟨g4, 0, none⟩) (j + 1) c4)).mono (by omega : w.heap.size + 1 ≤ wr.heap.size))
        clear hO4 hb4 HX HE HX4 HE4 hne4
        go_wp2_with fail
        clear x0 x1 x2 f0 f1 f2
        have K := kept_any ((n : Int) + 1) ring (some ⟨g4, 0, none⟩) c4 (putM (a : Int) LF) _ _ _ (by obtain ⟨p', c', e, -, -, h, -⟩ := HO6.out.rd; simp only [Value.slice.injEq] at e; obtain ⟨rfl, -⟩ := e; exact h) (by have := hLm; omega) _ hLm B (by rw [← hB, HFIN.out])
        replace K := Lib.hid K
        obtain ⟨x0, x1, x2, -⟩ := HX6.out.three
        cases B with
        | true =>
          go_wp2_with fail
          refine K.out.mono ?_
          rintro e w9 ⟨rfl, hb9⟩
          have HE9 := Lib.hid (HE6.out.next hb9)
          have HO9 := Lib.hid (HO6.out.below hb9)
          obtain ⟨z0, z1, z2, y0, y1, y2⟩ := HE9.out.res.three
          clear x0 x1 x2 HE6 HX6 HO6 hb9
          go_wp2_with fail
          refine ret_row2 Try.results24 rfl rfl (HE9.out.out _ _ _).1 rfl ⟨_, by simp; rfl, ?_, (HE9.out.out _ _ _).2⟩
          show Out w.heap.size _ _ (ints (tk (n + 1) (insS S a _)))
          rw [← HFIN.out]
          exact (HO9.out.boxed HE9.out.res _ _ _).mono (Nat.le_succ _)
        | false =>
          go_wp2_with fail
          refine K.out.mono ?_
          rintro e w9 ⟨rfl, hb9⟩
          have HE9 := Lib.hid (HE6.out.next hb9)
          obtain ⟨z0, z1, z2, y0, y1, y2⟩ := HE9.out.res.three
          clear x0 x1 x2 HE6 HX6 hb9
          go_wp2_with fail
          refine ret_row2 Try.results24 rfl rfl (HE9.out.out _ _ _).1 rfl ⟨_, by simp; rfl, ?_, (HE9.out.out _ _ _).2⟩
          show Out w.heap.size _ _ []
          exact Out.none _ _
end Go.Proofs.Ytefbepebgmalpaa
