/- impl.welcome: newcomers one by one, for every valid Row. -/
import Derived.Test.YtfpndbekinibhaaOrdM
import Derived.Test.YtfpndbekinibhaaPol
import Derived.Test.YtfpndbekinibhaaTakeF
import Derived.Deep.RegionHeld3
import Derived.Deep.DeepCutAuto
import Derived.StillTailTactics
namespace Go.Proofs.Ytfpndbekinibhaa
open Go.RowKit

theorem lt_of_cell {w : World} {a : Addr} {v : Value} (h : w.cell? a = some v) : a.block < w.heap.size := by
  rcases Nat.lt_or_ge a.block w.heap.size with h' | h'
  · exact h'
  · simp [World.cell?, Array.getElem?_eq_none h'] at h
theorem cell_alloc {w : World} {b i : Nat} {v : Value} {o : Obj} (h : w.cell? ⟨b, i, none⟩ = some v) : (w.alloc o).cell? ⟨b, i, none⟩ = some v := by
  have hb : b < w.heap.size := lt_of_cell h
  rw [World.cell?_alloc_past (w := w) _ b _ hb]; exact h
theorem cell_set {w : World} {b i : Nat} {v : Value} {a : Addr} {x : Value} (h : w.cell? ⟨b, i, none⟩ = some v) (hb : b ≠ a.block) : (w.setCell a x).cell? ⟨b, i, none⟩ = some v := by
  rw [← h]
  exact World.cell?_of_block (w := w) (a := ⟨b, i, none⟩) (Below.heap_setCell _ _ _ _ hb)

theorem rowOf_ok (n : Nat) (ring : Bool) (q : Option Addr) (S : Nat → Bool) (w : World) (lo hi : Nat) (hin : Rd lo hi w q (bv (bl n S))) (h2 : 2 ≤ n) (hn : n ≤ 24) (h3 : ring = true → 3 ≤ n) :
    Calls Try.prog 63 #[.bool ring, .slice q n n] w fun e w' => ∃ r c, e = .returned (.tuple #[.agg #[.int .i64 n, .bool ring, .slice r (ints (tk n S)).length c], .bool true]) ∧ Out w.heap.size w' (.slice r (ints (tk n S)).length c) (ints (tk n S)) ∧ Below w.heap.size w w' := by
  refine (rowOf_any n ring q n S w lo hi hin (by omega) true (rowB_of h2 hn h3)).mono ?_
  rintro e w' ⟨v, rfl, hO, hb⟩
  obtain ⟨r, c, rfl, -⟩ := (hO rfl).rd
  exact ⟨r, c, by simp, hO rfl, hb⟩

theorem results_tmp_cell {fn : Func} {p u : Tmp} {ty : TypeId} (h : fn.results = #[.tmp u, .cell p ty]) (tmps : Array Value) (P : Program) (w : World) :
    (results fn tmps).run P w = ((asAddr (tmps.getD p undef)).run P w).andThen fun a w₁ => ((loadVar ty a).run P w₁).andThen fun v w₂ => .ok (.tuple #[tmps.getD u undef, v]) w₂ := by
  simp only [results, h]
  simp [Sem.run_bind, Result.andThen]
theorem ret_row3 {fn : Func} {R : Ending → World → Prop} {a : Act} {w : World} {p u : Tmp} {b : Nat} {x y z : Value} {v : Value} (h : fn.results = #[.tmp u, .cell p 31]) (hp : a.tmps.getD p undef = .pointer (some ⟨b, 0, none⟩)) (hu : a.tmps.getD u undef = v)
    (ho : OwnArr w b 31 [x, y, z]) (hd : a.defers = []) (hR : R (.returned (.tuple #[v, .agg #[x, y, z]])) w) : bodyPost Try.prog fn R .ret a w := by
  refine bodyPost_ret (v := .tuple #[v, .agg #[x, y, z]]) ?_ hd hR
  rw [results_tmp_cell h, hp, hu]
  simp only [asAddr, Sem.run_pure, Result.andThen]
  rw [load_row ho]
def lenV : Value → Nat
  | .slice _ n _ => n
  | _ => 0
theorem Out.ri {B : Nat} {w : World} {q : Option Addr} {m c : Nat} {xs : List Int} (h : Out B w (.slice q m c) xs) : Ri B w.heap.size w q xs ∧ m ≤ c ∧ c ≤ maxLen := by
  obtain ⟨q', c', e, h1, h2, hR, -⟩ := h.rd
  simp only [Value.slice.injEq] at e
  obtain ⟨rfl, rfl, rfl⟩ := e
  exact ⟨hR, h1, h2⟩
theorem fin_box {wb x : World} {B g : Nat} {v : Value} {xs : List Int} {ys : List Value} {y0 y1 y2 : Value} (a b c : Value) (hz : OwnArr x g 31 ys) (hys : ys = [y0, y1, y2]) (hg : B ≤ g) (ho : Out B x v xs) (hb : Below B wb x) :
    OwnArr (((x.setCell ⟨g, 0, none⟩ a).setCell ⟨g, 1, none⟩ b).setCell ⟨g, 2, none⟩ c) g 31 [a, b, c] ∧ Out B (((x.setCell ⟨g, 0, none⟩ a).setCell ⟨g, 1, none⟩ b).setCell ⟨g, 2, none⟩ c) v xs ∧ Below B wb (((x.setCell ⟨g, 0, none⟩ a).setCell ⟨g, 1, none⟩ b).setCell ⟨g, 2, none⟩ c) := by
  subst hys
  exact ⟨((hz.set 0 a).set 1 b).set 2 c, ho.boxed hz _ _ _, ((hb.setCell (by show _ ≤ g; omega) _).setCell (by show _ ≤ g; omega) _).setCell (by show _ ≤ g; omega) _⟩
theorem z_two {w w' : World} (h : Below (w.alloc (.cells #[.int .i64 0, .bool false, .slice none 0 0] 31)).heap.size (w.alloc (.cells #[.int .i64 0, .bool false, .slice none 0 0] 31)) w') : OwnArr w' w.heap.size 31 [.int .i64 0, .bool false, .slice none 0 0] :=
  (OwnArr.made w 31 [.int .i64 0, .bool false, .slice none 0 0]).below h (OwnArr.made w 31 [.int .i64 0, .bool false, .slice none 0 0]).lt
theorem z_one {w x w' : World} (h : Below (w.alloc (.cells #[.int .i64 0, .bool false, .slice none 0 0] 31)).drew.heap.size (w.alloc (.cells #[.int .i64 0, .bool false, .slice none 0 0] 31)).drew x) (h2 : Below x.heap.size x w') : OwnArr w' w.heap.size 31 [.int .i64 0, .bool false, .slice none 0 0] :=
  ((OwnArr.made w 31 [.int .i64 0, .bool false, .slice none 0 0]).drew.below h (OwnArr.made w 31 [.int .i64 0, .bool false, .slice none 0 0]).lt).below h2 ((OwnArr.made w 31 [.int .i64 0, .bool false, .slice none 0 0]).drew.below h (OwnArr.made w 31 [.int .i64 0, .bool false, .slice none 0 0]).lt).lt

set_option maxRecDepth 4000 in
set_option maxHeartbeats 1000000 in
theorem welcome_any (n : Nat) (ring : Bool) (p : Option Addr) (cap : Nat) (S : Nat → Bool) (most least : Nat) (w : World) (lo hi : Nat) (hin : Ri lo hi w p (ints (tk n S))) (h2 : 2 ≤ n) (hn : n ≤ 24) (h3 : ring = true → 3 ≤ n) (hle : least ≤ 24) (hmo : most ≤ 24) :
    Calls Try.prog 46 #[rowV n ring p (ints (tk n S)).length cap, .int .i64 most, .int .i64 least] w fun e w' => ∃ v u, e = .returned (.tuple #[v, .agg #[.int .i64 n, .bool ring, u]]) ∧ Out w.heap.size w' v (ints (ordM n ring least most S)) ∧ Out w.heap.size w' u (ints (tk n (aftM n ring least most S))) ∧ Below w.heap.size w w' := by
  have hlen := ints_tk_len n S
  have hE := Beg.start w n ring p (ints (tk n S)).length cap
  have MK := Lib.hid (fun (w' : World) (h' : Below w.heap.size w w') => marksOf_any n ring p cap S w' lo hi (hin.below h' hin.top) hn)
  have RO := Lib.hid (fun (q : Option Addr) (w' : World) (l h' : Nat) (h : Rd l h' w' q (bv (bl n S))) => rowOf_ok n ring q S w' l h' h h2 hn h3)
  obtain ⟨wb, hwb⟩ : ∃ wb, ((w.alloc (.cells #[Value.int .i64 n, Value.bool ring, Value.slice p (ints (tk n S)).length cap] 31)).alloc (.cells #[Value.int .i64 0, Value.bool false, Value.slice none 0 0] 31)).alloc (.cells #[] 3) = wb := ⟨_, rfl⟩
  have hEb : Beg w n ring p (ints (tk n S)).length cap wb := by
    rw [← hwb]; exact hE.next ((Below.refl _ _).alloc (Nat.le_refl _) _)
  have hOb : Out (w.heap.size + 2) wb (.slice (some ⟨w.heap.size + 2, 0, none⟩) 0 0) [] := by
    have h := Out.nilLit ((w.alloc (.cells #[Value.int .i64 n, Value.bool ring, Value.slice p (ints (tk n S)).length cap] 31)).alloc (.cells #[Value.int .i64 0, Value.bool false, Value.slice none 0 0] 31))
    have hs : ((w.alloc (.cells #[Value.int .i64 n, Value.bool ring, Value.slice p (ints (tk n S)).length cap] 31)).alloc (.cells #[Value.int .i64 0, Value.bool false, Value.slice none 0 0] 31)).heap.size = w.heap.size + 2 := by simp
    rw [hs, hwb] at h
    exact h
  have hsb : wb.heap.size = w.heap.size + 3 := by rw [← hwb]; simp
  have HE := Lib.hid hEb
  have HO := Lib.hid hOb
  have HW := Lib.hid hwb
  have HSB := Lib.hid hsb
  obtain ⟨m0, hm⟩ : ∃ m, (ints (tk n S)).length = m := ⟨_, rfl⟩
  rw [hm] at HE MK HW RO ⊢
  have HM := Lib.hid hm
  have HEd := Lib.hid (HE.out.next ((Below.refl _ wb).drew))
  have HD0 := Lib.hid ((Below.refl (w.heap.size + 3) wb).drew)
  clear hE hin hlen hm hEb hOb hsb hwb
  obtain ⟨c0, c1, c2, -⟩ := HE.out.row.three
  go_enter Try.func46, Try.ntmps46
  go_upto_region 2 with fail
  rw [HW.out]
  go_cut [9] (fun v wx => ∃ g q c, v = .pointer (some ⟨g, 0, none⟩) ∧ Hid (w.heap.size + 3 ≤ g) ∧ Hid (OwnArr wx g 31 [.int .i64 n, .bool ring, .slice q m0 c]) ∧ Hid (Out (w.heap.size + 3) wx (.slice q m0 c) (ints (tk n S))) ∧ Hid (Below (w.heap.size + 3) wb wx))
  case first =>
    go_region_held3 (fun w' => w'.cell? ⟨w.heap.size, 0, none⟩ = some (.int .i64 n) ∧ w'.cell? ⟨w.heap.size, 1, none⟩ = some (.bool ring) ∧ w'.cell? ⟨w.heap.size, 2, none⟩ = some (.slice p m0 cap)) ((first | with_reducible exact ⟨c0, c1, c2⟩ | with_reducible exact ⟨d0, d1, d2⟩ | with_reducible exact ⟨e0, e1, e2⟩ | (obtain ⟨s0, s1, s2⟩ := (by assumption : _ ∧ _ ∧ _); with_reducible exact ⟨cell_alloc s0, cell_alloc s1, cell_alloc s2⟩) | (obtain ⟨s0, s1, s2⟩ := (by assumption : _ ∧ _ ∧ _); have hne := HNE1.out; with_reducible exact ⟨cell_set (cell_set (cell_set s0 hne) hne) hne, cell_set (cell_set (cell_set s1 hne) hne) hne, cell_set (cell_set (cell_set s2 hne) hne) hne⟩) | (obtain ⟨s0, s1, s2⟩ := (by assumption : _ ∧ _ ∧ _); have hne := HNE2.out; with_reducible exact ⟨cell_set (cell_set (cell_set s0 hne) hne) hne, cell_set (cell_set (cell_set s1 hne) hne) hne, cell_set (cell_set (cell_set s2 hne) hne) hne⟩) | (obtain ⟨s0, s1, s2⟩ := (by assumption : _ ∧ _ ∧ _); have hne := HNE3.out; with_reducible exact ⟨cell_set (cell_set (cell_set s0 hne) hne) hne, cell_set (cell_set (cell_set s1 hne) hne) hne, cell_set (cell_set (cell_set s2 hne) hne) hne⟩) | go_keep)) (first | (go_at_call 64; refine (MK.out _ (by first | exact HEd.out.bel | exact HEd.out.bel.alloc HEd.out.bel.size _)).mono ?_; rintro e wm ⟨g, rfl, hg, hO, hbm⟩; have HEm : Hid (Beg w n ring p m0 cap wm) := (by show Beg _ _ _ _ _ _ _; first | exact HEd.out.next hbm | exact (HEd.out.next ((Below.refl _ _).alloc (Nat.le_refl _) _)).next hbm); have HBm : Hid (Below (w.heap.size + 3) wb wm) := (by show Below _ _ _; have hs := HSB.out; have hs2 : wb.drew.heap.size = wb.heap.size := rfl; first | exact HD0.out.trans (hbm.mono (by omega)) | exact (HD0.out.alloc (by omega) _).trans (hbm.mono (by simp; omega))); have HR := Lib.hid (Rd.of_own hO (Nat.zero_le g) (Nat.lt_succ_self g) hO.lt n); rw [List.take_of_length_le (by rw [bv_length, bl_length]; exact Nat.le_refl _)] at HR; obtain ⟨d0, d1, d2, -⟩ := HEm.out.row.three; have HNE1 : Hid (w.heap.size ≠ wb.heap.size) := (by show _ ≠ _; have := HSB.out; omega); have HNE2 : Hid (w.heap.size ≠ wm.heap.size) := (by show _ ≠ _; have := HSB.out; have := HBm.out.size; omega); clear hg hO) | (go_at_call 63; refine (RO.out _ _ _ _ (by first | exact HR.out | exact HR.out.bel ((Below.refl _ _).alloc (Nat.le_refl _) _))).mono ?_; rintro e wr ⟨q, c, rfl, hO3, hbr⟩; have HEr : Hid (Beg w n ring p m0 cap wr) := (by show Beg _ _ _ _ _ _ _; first | exact HEm.out.next hbr | exact (HEm.out.next ((Below.refl _ _).alloc (Nat.le_refl _) _)).next hbr); have HBr : Hid (Below (w.heap.size + 3) wb wr) := (by show Below _ _ _; have hs := HSB.out; have hs3 := HBm.out.size; first | exact HBm.out.trans (hbr.mono (by omega)) | exact (HBm.out.alloc (by omega) _).trans (hbr.mono (by simp; omega))); have HO3 : Hid (Out (w.heap.size + 3) wr (.slice q m0 c) (ints (tk n S))) := (by show Out _ _ _ _; have hs := HSB.out; have hs3 := HBm.out.size; first | exact hO3.mono (by omega) | exact hO3.mono (by simp; omega)); obtain ⟨e0, e1, e2, -⟩ := HEr.out.row.three; have HNE3 : Hid (w.heap.size ≠ wr.heap.size) := (by show _ ≠ _; have := HSB.out; have := HBr.out.size; omega); (try (have hz : Below (wm.alloc (.cells #[.int .i64 0, .bool false, .slice none 0 0] 31)).heap.size (wm.alloc (.cells #[.int .i64 0, .bool false, .slice none 0 0] 31)) wr := (by with_reducible exact hbr); have HZ := Lib.hid (z_two hz))); (try (have hz : Below (wb.alloc (.cells #[.int .i64 0, .bool false, .slice none 0 0] 31)).drew.heap.size (wb.alloc (.cells #[.int .i64 0, .bool false, .slice none 0 0] 31)).drew wm := (by with_reducible exact hbm); have hz2 : Below wm.heap.size wm wr := (by with_reducible exact hbr); have HZ : Hid (OwnArr wr wb.heap.size 31 [.int .i64 0, .bool false, .slice none 0 0]) := Lib.hid (z_one hz hz2))); (try obtain ⟨z0, z1, z2, y0, y1, y2⟩ := HZ.out.three); clear hO3))
    · go_wp2_with fail
      go_meet
      have hg : w.heap.size + 3 ≤ wr.heap.size := by have := HSB.out; have := HBr.out.size; omega
      exact ⟨_, q, c, rfl, Lib.hid hg, Lib.hid (OwnArr.made wr 31 [.int .i64 n, .bool ring, .slice q m0 c]), Lib.hid (World.ownsRow.alloc HO3.out _), Lib.hid (HBr.out.alloc hg _)⟩
    · go_wp2_with fail
      go_meet
      have hg : w.heap.size + 3 ≤ wm.heap.size := by have := HSB.out; have := HBm.out.size; omega
      obtain ⟨f1, f2, f3⟩ := fin_box (.int .i64 n) (.bool ring) (.slice q m0 c) HZ.out rfl hg HO3.out HBr.out
      exact ⟨_, q, c, rfl, Lib.hid hg, Lib.hid f1, Lib.hid f2, Lib.hid f3⟩
    · go_wp2_with fail
      go_meet
      have hg : w.heap.size + 3 ≤ wb.heap.size := by have := HSB.out; omega
      obtain ⟨f1, f2, f3⟩ := fin_box (.int .i64 n) (.bool ring) (.slice q m0 c) HZ.out rfl hg HO3.out HBr.out
      exact ⟨_, q, c, rfl, Lib.hid hg, Lib.hid f1, Lib.hid f2, Lib.hid f3⟩
  case rest =>
    obtain ⟨g, q, c, rfl, HG, HX0, HU0, HB⟩ := hcut
    have HE0 := Lib.hid (HE.out.next2 (HB.out.mono (by omega)))
    have HO0 : Hid (Out (w.heap.size + 2) wc (.slice (some ⟨w.heap.size + 2, 0, none⟩) 0 0) (ints [])) := by
      show Out _ _ _ _
      exact HO.out.below (by rw [HSB.out]; exact HB.out)
    have HV0 : Hid (∀ k, (Value.slice (some ⟨w.heap.size + 2, 0, none⟩) 0 0).ownBlock = some k → ¬ (Value.slice q m0 c).ownBlock = some k) := by
      show ∀ _, _
      intro k hk hk2
      have := own_block HU0.out k hk2
      simp [Value.ownBlock] at hk
      omega
    have hgl := HG.out
    clear HEd HD0 HW MK RO HB HE HO HG c0 c1 c2
    go_wp2_with fail
    go_loopw [8, 11] (fun v _ wr => ∃ (T : Nat → Bool) (D : List Nat) (rem : Nat) (q : Option Addr) (c m : Nat), rem ≤ most ∧ Hid (D.length + rem = most) ∧ Hid (D ++ ordM n ring least rem T = ordM n ring least most S ∧ aftM n ring least rem T = aftM n ring least most S) ∧ Hid ((ints (tk n T)).length = m) ∧ Hid (Beg w n ring p m0 cap wr) ∧ Hid (OwnArr wr g 31 [.int .i64 n, .bool ring, .slice q m c]) ∧ Hid (Out (w.heap.size + 2) wr v (ints D)) ∧ Hid (Out (w.heap.size + 3) wr (.slice q m c) (ints (tk n T))) ∧ Hid (∀ k, v.ownBlock = some k → ¬ (Value.slice q m c).ownBlock = some k)) (fun v _ _ => most - lenV v)
    case atStart => exact ⟨S, [], most, q, c, m0, Nat.le_refl _, Lib.hid (by simp), Lib.hid ⟨rfl, rfl⟩, HM, HE0, HX0, HO0, HU0, HV0⟩
    case round =>
      obtain ⟨T, D, rem, q, c, m, hrem, HDR, HOA, HM2, HE, HX, HO, HU, HV⟩ := hrel
      clear HE0 HX0 HO0 HU0 HV0
      obtain ⟨qv, cv, rfl, -, -, -, -⟩ := HO.out.rd
      have hD := ints_length D
      have hdr := HDR.out
      obtain ⟨d, hd⟩ : ∃ d, (ints D).length = d := ⟨_, rfl⟩
      rw [hd] at HO HV hD ⊢
      rw [← hD] at hdr
      have HDL := Lib.hid hD
      have HDRR := Lib.hid hdr
      obtain ⟨c0, c1, c2, f0, f1, f2⟩ := HX.out.three
      clear hd hD hdr HDR
      by_cases hlt : d < most
      · have hk1 : (d : Int) < (most : Int) := by omega
        have PA := Lib.hid (politeI_any n ring q c T least wr _ _ HU.out.ri.1 h2 hn h3 hle)
        rw [HM2.out] at PA
        obtain ⟨P, hP⟩ : ∃ P, polM n ring T least = P := ⟨_, rfl⟩
        rw [hP] at PA
        have HP := Lib.hid hP
        clear hP
        go_wp2_with fail
        refine PA.out.mono ?_
        rintro e w1 ⟨pv, rfl, hPo, hb1⟩
        have HE1 := Lib.hid (HE.out.next hb1)
        have HX1 := Lib.hid (HX.out.below hb1 HX.out.lt)
        have HO1 := Lib.hid (HO.out.below hb1)
        have HU1 := Lib.hid (HU.out.below hb1)
        have hlw := HX.out.lt
        obtain ⟨qp, cp, rfl, -, -, hPr, -⟩ := hPo.rd
        have hPl := ints_length P
        obtain ⟨k, hk⟩ : ∃ k, (ints P).length = k := ⟨_, rfl⟩
        have hVlt : ∀ j, (Value.slice qv d cv).ownBlock = some j → j < wr.heap.size := fun j hj => (World.ownsRow.lt HO.out j hj).2
        rw [hk] at hPo hPl ⊢
        have HPL := Lib.hid hPl
        by_cases hk0 : k = 0
        · subst hk0
          have HST := Lib.hid (ordM_stop (n := n) (ring := ring) (least := least) (S := T) (by rw [HP.out]; exact hPl.symm) rem)
          have hO' := HO1.out
          have hU' := HU1.out
          have hOA := HOA.out
          rw [HST.out.1, HST.out.2, List.append_nil] at hOA
          rw [hOA.1] at hO'
          rw [hOA.2] at hU'
          have HOF := Lib.hid hO'
          have HUF := Lib.hid hU'
          clear hPo hPr hPl hk hVlt HPL HST hO' hU' hOA HO1 HU1 HE HX HO HU hb1 PA HOA c0 c1 c2 f0 f1 f2
          obtain ⟨c0, c1, c2, f0, f1, f2⟩ := HX1.out.three
          obtain ⟨z0, z1, z2, y0, y1, y2⟩ := HE1.out.res.three
          have HE1d := Lib.hid (HE1.out.next ((Below.refl _ w1).drew))
          have HOFd : Hid (Out (w.heap.size + 2) w1.drew (.slice qv d cv) (ints (ordM n ring least most S))) := HOF.out
          have HUFd : Hid (Out (w.heap.size + 3) w1.drew (.slice q m c) (ints (tk n (aftM n ring least most S)))) := HUF.out
          go_wp2_with fail
          go_region
          all_goals
            go_wp2_with fail
            exact ret_row3 Try.results46 rfl rfl (HE1d.out.out _ _ _).1 rfl ⟨_, _, rfl, (HOFd.out.boxed HE1d.out.res _ _ _).mono (by omega), (HUFd.out.boxed HE1d.out.res _ _ _).mono (by omega), (HE1d.out.out _ _ _).2⟩
        · have hk1' : (0 : Int) < (k : Int) := by omega
          have hne : ((k : Int) == 0) = false := by simp; omega
          have hPn : ¬ P.length = 0 := by omega
          obtain ⟨b, off, rfl, hbl, -, -, hc⟩ := hPr.int (by omega)
          have h0 := hc 0 (by omega)
          have hx0 : (ints P)[0]?.getD 0 = ((headM n ring least T : Nat) : Int) := by
            rw [ints_get (by omega), ← HP.out]; rfl
          rw [hx0, Nat.add_zero] at h0
          have hxl := headM_lt (n := n) (ring := ring) (least := least) (S := T) (by rw [HP.out]; exact hPn)
          have hdr := HDRR.out
          obtain ⟨r, rfl⟩ : ∃ r, rem = r + 1 := ⟨rem - 1, by omega⟩
          have hst := ordM_step (n := n) (ring := ring) (least := least) (S := T) (by rw [HP.out]; exact hPn) r
          have hOA := HOA.out
          rw [hst.1, hst.2] at hOA
          obtain ⟨x, hx⟩ : ∃ x, headM n ring least T = x := ⟨_, rfl⟩
          rw [hx] at h0 hxl hOA
          have HXL := Lib.hid hxl
          replace hOA := Lib.hid hOA
          have hne1 := Lib.hid (own_ne HO1.out HX1.out)
          have hblk := Lib.hid (own_block HO1.out)
          have hs1 := HE1.out.res.lt
          replace hVlt := Lib.hid hVlt
          have hbl' := Lib.hid hbl
          clear hPo hPr hPl hk HPL hx hx0 hst hc HE HX HO HU hb1 PA HOA c0 c1 c2 f0 f1 f2 hxl hdr hPn
          go_wp2_with (at_builtin; refine wpList_app rfl _ _ rfl (w.heap.size + 2) _ (ints D) rfl (World.ownsRow.alloc HO1.out (.cells #[.int .i64 (x : Int)] 3)) _ 1 1 0 (w1.heap.size + 1) [(x : Int)] rfl (lit_one (OwnArr.made w1 _ [_]) _ (Nat.lt_succ_self _) (by simp)) rfl (by rw [ints_length, ← HDL.out]; omega) (by simp; omega) ?_; intro v3 w3 hO3 hg3 hn3)
          have hG3 : Below (w.heap.size + 2) w1 w3 := ((Below.refl (w.heap.size + 2) w1).alloc (by omega) _).grown hg3 (by simp; omega) hblk.out
          have HE3 := Lib.hid (HE1.out.next2 hG3)
          have HX3 := Lib.hid (OwnArr.grown (HX1.out.alloc _) hg3 hne1.out)
          have HU3 : Hid (Out (w.heap.size + 3) w3 (.slice q m c) (ints (tk n T))) := by
            refine World.ownsRow.kept (World.ownsRow.alloc HU1.out _) hg3 ?_
            cases hu : (Value.slice q m c).ownBlock with
            | none => exact .inl rfl
            | some j => exact .inr fun e => HV.out j e.symm hu
          have h03 : w3.cell? ⟨b, off, none⟩ = some (.int .i64 (x : Int)) := hg3.cell (cell_alloc h0) (fun e => by have := hVlt.out b e.symm; have := hbl'.out; omega)
          obtain ⟨qv3, cv3, rfl, -, -, -, -⟩ := hO3.rd
          have hl3 : (ints D ++ [(x : Int)]).length = d + 1 := by rw [List.length_append, ints_length, ← HDL.out]; rfl
          rw [hl3] at hO3 ⊢
          have HO3 := Lib.hid hO3
          have TK : Hid (Calls Try.prog 52 #[rowV n ring q (ints (tk n T)).length c, .int .i64 x] w3.drew (MadeRow w3.drew n ring (ints (tk n (setS T x))) true)) := takeI_any n ring q c T x w3.drew _ _ (HU3.out.ri.1.bel ((Below.refl _ w3).drew)) h2 hn h3 HXL.out.1 HXL.out.2
          rw [HM2.out] at TK
          have HE3d := Lib.hid (HE3.out.next ((Below.refl _ w3).drew))
          have HX3d : Hid (OwnArr w3.drew g 31 [.int .i64 n, .bool ring, .slice q m c]) := HX3.out
          have HO3d : Hid (Out (w.heap.size + 2) w3.drew (.slice qv3 (d + 1) cv3) (ints D ++ [(x : Int)])) := HO3.out
          obtain ⟨c0, c1, c2, -⟩ := HX3.out.three
          clear hG3 hg3 hn3 hO3 h0 HE1 HX1 HO1 HU1 HV hne1 hblk hVlt HE3 HX3
          have hkN : 0 < k := by omega
          go_wp2_with fail
          go_region_with (first | (go_at_call 52; refine TK.out.mono ?_; rintro e w4 ⟨u, rfl, hT, hb4⟩; obtain ⟨q4, c4, rfl, -⟩ := hT.rd; obtain ⟨m4, hm4⟩ : ∃ m4, (ints (tk n (setS T x))).length = m4 := ⟨_, rfl⟩; rw [hm4] at hT ⊢; have HM4 := Lib.hid hm4; have HE4 := Lib.hid (HE3d.out.next hb4); have HX4 := Lib.hid (HX3d.out.below hb4 HX3d.out.lt); have HO4 := Lib.hid (HO3d.out.below hb4); have HT := Lib.hid hT; obtain ⟨d0, d1, d2, y0, y1, y2⟩ := HX4.out.three; clear hT hm4 hb4))
          all_goals
            have hs3 : w3.drew.heap.size = w3.heap.size := rfl
            have hw3 : w.heap.size + 3 ≤ w3.drew.heap.size := by have := HX3d.out.lt; omega
            obtain ⟨f1, f2, f3⟩ := fin_box (.int .i64 n) (.bool ring) (.slice q4 m4 c4) HX4.out rfl hgl (HT.out.mono hw3) (Below.refl (w.heap.size + 3) w4)
            have HV5 : Hid (∀ k, (Value.slice qv3 (d + 1) cv3).ownBlock = some k → ¬ (Value.slice q4 m4 c4).ownBlock = some k) := by
              show ∀ _, _
              intro j hj hj2
              have h1 := (World.ownsRow.lt HO3.out j hj).2
              have h2 := own_block HT.out j hj2
              omega
            have HE5 := Lib.hid (HE4.out.next2 (f3.mono (by omega)))
            have HO5 := Lib.hid (HO4.out.boxed HX4.out (.int .i64 n) (.bool ring) (.slice q4 m4 c4))
            have HX5 := Lib.hid f1
            have HU5 := Lib.hid f2
            have hDX : ints D ++ [(x : Int)] = ints (D ++ [x]) := by rw [ints_append]; rfl
            rw [hDX] at HO5
            have HDX5 : Hid ((D ++ [x]).length + r = most) := by
              show _ = _
              have := HDRR.out
              have := HDL.out
              rw [List.length_append]; simp; omega
            have HOA5 : Hid ((D ++ [x]) ++ ordM n ring least r (setS T x) = ordM n ring least most S ∧ aftM n ring least r (setS T x) = aftM n ring least most S) := by
              show _ ∧ _
              have := hOA.out
              rw [List.append_assoc]; exact this
            clear f1 f2 f3 HT HE4 HO4 HE3d HX3d HO3d TK c0 c1 c2 h03 HO3 HU3 hDX
            go_wp2_with fail
            go_roundw
            case rel => exact ⟨setS T x, D ++ [x], r, q4, c4, m4, by omega, HDX5, HOA5, HM4, HE5, HX5, HO5, HU5, HV5⟩
            case measure =>
              simp [lenV]; omega
      · have hdr := HDRR.out
        have hr0 : rem = 0 := by omega
        subst hr0
        have hO' := HO.out
        have hU' := HU.out
        have hOA := HOA.out
        have e1 : ordM n ring least 0 T = [] := rfl
        have e2 : aftM n ring least 0 T = T := rfl
        rw [e1, e2, List.append_nil] at hOA
        rw [hOA.1] at hO'
        rw [hOA.2] at hU'
        have HE1d := Lib.hid (HE.out.next ((Below.refl _ wr).drew))
        have HOFd : Hid (Out (w.heap.size + 2) wr.drew (.slice qv d cv) (ints (ordM n ring least most S))) := hO'
        have HUFd : Hid (Out (w.heap.size + 3) wr.drew (.slice q m c) (ints (tk n (aftM n ring least most S)))) := hU'
        have hk1 : ¬ (d : Int) < (most : Int) := by omega
        obtain ⟨z0, z1, z2, y0, y1, y2⟩ := HE.out.res.three
        clear hO' hU' hOA e1 e2 HOA hdr HO HU HV
        go_wp2_with fail
        go_region
        all_goals
          go_wp2_with fail
          exact ret_row3 Try.results46 rfl rfl (HE1d.out.out _ _ _).1 rfl ⟨_, _, rfl, (HOFd.out.boxed HE1d.out.res _ _ _).mono (by omega), (HUFd.out.boxed HE1d.out.res _ _ _).mono (by omega), (HE1d.out.out _ _ _).2⟩
end Go.Proofs.Ytfpndbekinibhaa
