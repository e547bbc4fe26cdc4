/- Chapter 9, spec side: spec.l9Place. -/
import Derived.Test.YtogdiahojbonaaaPlsM9
import Derived.Test.YtogdiahojbonaaaGrpS9
import Derived.Test.YtogdiahojbonaaaOwnL
import Derived.Deep.RegionLaw
namespace Go.Proofs.Ytogdiahojbonaaa
open Go.RowKit

theorem load_plc {w : World} {b : Nat} {x y : Value} (h : OwnArr w b 56 [x, y]) :
    (loadVar 56 ⟨b, 0, none⟩).run Try.prog w = .ok (.agg #[x, y]) w := by
  have c0 := h.cell 0
  have c1 := h.cell 1
  simp [go_sem, c0, c1]
/-- a function whose one result is what a search has found, in a box -/
theorem ret_plc {fn : Func} {R : Ending → World → Prop} {a : Act} {w : World} {p : Tmp} {b : Nat} {x y : Value} (h : fn.results = #[.cell p 56]) (hp : a.tmps.getD p undef = .pointer (some ⟨b, 0, none⟩))
    (ho : OwnArr w b 56 [x, y]) (hd : a.defers = []) (hR : R (.returned (.agg #[x, y])) w) : bodyPost Try.prog fn R .ret a w := by
  refine bodyPost_ret (v := .agg #[x, y]) ?_ hd hR
  rw [results_cell h, hp]
  simp only [asAddr, Sem.run_pure, Result.andThen]
  exact load_plc ho
theorem own_neP {B : Nat} {w : World} {v : Value} {xs : List Int} {R : Nat} {ys : List Value} (h : Out B w v xs) (hR : OwnArr w R 56 ys) : ¬ v.ownBlock = some R := by
  intro e
  rcases h.2 with ⟨hv, _⟩ | ⟨g, cap, cur, hv, _, hh, _⟩
  · subst hv; simp [Value.ownBlock] at e
  · subst hv
    simp only [Value.ownBlock, Option.some.injEq] at e
    subst e
    unfold OwnArr at hR
    rw [hR] at hh
    simp only [Option.some.injEq, Obj.cells.injEq] at hh
    exact absurd hh.2.1 (by decide)
theorem ints_snocP (l : List Nat) (k : Nat) : ints (l ++ [k]) = ints l ++ [(k : Int)] := by unfold ints; rw [List.map_append]; rfl

/-- the boxes of a search: the line, what has been found, the result -/
structure PlB (w : World) (n : Nat) (p : Option Addr) (m cap : Nat) (fv : Value) (c : Int) (wr : World) : Prop where
  row : OwnArr wr w.heap.size 28 [.int .i64 n, .bool false, .slice p m cap]
  box : OwnArr wr (w.heap.size + 1) 56 [fv, .int .i64 c]
  res : OwnArr wr (w.heap.size + 1 + 1) 56 [.slice none 0 0, .int .i64 0]
  bel : Below w.heap.size w wr
theorem PlB.next {w : World} {n : Nat} {p : Option Addr} {m cap : Nat} {fv : Value} {c : Int} {wr w' : World} (h : PlB w n p m cap fv c wr) (hb : Below wr.heap.size wr w') : PlB w n p m cap fv c w' :=
  ⟨h.row.below hb h.row.lt, h.box.below hb h.box.lt, h.res.below hb h.res.lt, h.bel.trans (hb.mono h.bel.size)⟩
theorem PlB.cells {w : World} {n : Nat} {p : Option Addr} {m cap : Nat} {fv : Value} {c : Int} {wr : World} (h : PlB w n p m cap fv c wr) : wr.cell? ⟨w.heap.size, 0, none⟩ = some (.int .i64 n) ∧ wr.cell? ⟨w.heap.size, 1, none⟩ = some (.bool false) ∧ wr.cell? ⟨w.heap.size, 2, none⟩ = some (.slice p m cap) ∧ wr.cell? ⟨w.heap.size + 1, 0, none⟩ = some fv ∧ wr.cell? ⟨w.heap.size + 1, 1, none⟩ = some (.int .i64 c) ∧ wr.cell? ⟨w.heap.size + 1 + 1, 0, none⟩ = some (.slice none 0 0) ∧ wr.cell? ⟨w.heap.size + 1 + 1, 1, none⟩ = some (.int .i64 0) :=
  ⟨h.row.cell 0, h.row.cell 1, h.row.cell 2, h.box.cell 0, h.box.cell 1, h.res.cell 0, h.res.cell 1⟩
theorem PlB.free {w : World} {n : Nat} {p : Option Addr} {m cap : Nat} {fv : Value} {c : Int} {wr : World} (h : PlB w n p m cap fv c wr) : wr.frozen? ⟨w.heap.size + 1, 0, none⟩ = false ∧ wr.frozen? ⟨w.heap.size + 1, 1, none⟩ = false ∧ wr.frozen? ⟨w.heap.size + 1 + 1, 0, none⟩ = false ∧ wr.frozen? ⟨w.heap.size + 1 + 1, 1, none⟩ = false := ⟨h.box.free 0, h.box.free 1, h.res.free 0, h.res.free 1⟩
theorem PlB.turn {w : World} {n : Nat} {p : Option Addr} {m cap : Nat} {fv : Value} {c : Int} {wr : World} (h : PlB w n p m cap fv c wr) (fv' : Value) (c' : Int) : PlB w n p m cap fv' c' ((wr.setCell ⟨w.heap.size + 1, 0, none⟩ fv').setCell ⟨w.heap.size + 1, 1, none⟩ (.int .i64 c')) :=
  ⟨(h.row.other (by show w.heap.size ≠ w.heap.size + 1; omega) _).other (by show w.heap.size ≠ w.heap.size + 1; omega) _, (h.box.set 0 _).set 1 _, (h.res.other (by show w.heap.size + 1 + 1 ≠ w.heap.size + 1; omega) _).other (by show w.heap.size + 1 + 1 ≠ w.heap.size + 1; omega) _, (h.bel.setCell (by show w.heap.size ≤ w.heap.size + 1; omega) _).setCell (by show w.heap.size ≤ w.heap.size + 1; omega) _⟩
theorem PlB.fin {w : World} {n : Nat} {p : Option Addr} {m cap : Nat} {fv : Value} {c : Int} {wr : World} (h : PlB w n p m cap fv c wr) {B : Nat} {xs : List Int} (ho : Out B wr fv xs) : OwnArr ((wr.setCell ⟨w.heap.size + 1 + 1, 0, none⟩ fv).setCell ⟨w.heap.size + 1 + 1, 1, none⟩ (.int .i64 c)) (w.heap.size + 1 + 1) 56 [fv, .int .i64 c] ∧ Out B ((wr.setCell ⟨w.heap.size + 1 + 1, 0, none⟩ fv).setCell ⟨w.heap.size + 1 + 1, 1, none⟩ (.int .i64 c)) fv xs ∧ Below w.heap.size w ((wr.setCell ⟨w.heap.size + 1 + 1, 0, none⟩ fv).setCell ⟨w.heap.size + 1 + 1, 1, none⟩ (.int .i64 c)) := by
  have hne := own_neP ho h.res
  exact ⟨(h.res.set 0 _).set 1 _, (ho.other (a := ⟨w.heap.size + 1 + 1, 0, none⟩) hne _).other (a := ⟨w.heap.size + 1 + 1, 1, none⟩) hne _, (h.bel.setCell (by show _ ≤ w.heap.size + 1 + 1; omega) _).setCell (by show _ ≤ w.heap.size + 1 + 1; omega) _⟩
theorem PlB.start (w : World) (n : Nat) (p : Option Addr) (m cap : Nat) (fv : Value) (c : Int) : PlB w n p m cap fv c (((w.alloc (.cells #[.int .i64 n, .bool false, .slice p m cap] 28)).alloc (.cells #[fv, .int .i64 c] 56)).alloc (.cells #[.slice none 0 0, .int .i64 0] 56)) :=
  ⟨((OwnArr.made w _ [_, _, _]).alloc _).alloc _, (OwnArr.mk' rfl (by simp)).alloc _, OwnArr.mk' rfl (by simp), (((Below.refl _ _).alloc (Nat.le_refl _) _).alloc (by simp) _).alloc (by simp; omega) _⟩

set_option maxRecDepth 4000 in
set_option maxHeartbeats 10000000 in
theorem l9Place_any (n : Nat) (p : Option Addr) (cap : Nat) (S : Nat → Bool) (qg : Option Addr) (cg : Nat) (gs : List Int) (d : Int) (once : Bool) (hn1 : 1 ≤ n) (hn : n ≤ 24) (hgl : gs.length ≤ 5) (hd : 0 ≤ d) (hg1 : ∀ g ∈ gs, 1 ≤ g) : ∀ (j : Nat) (b : List Nat) (B : Nat) (v fv : Value) (F : List Nat) (c0 : Nat) (w : World) (lo hi lo2 hi2 : Nat), Ri lo hi w p (ints (tk n S)) → Ri lo2 hi2 w qg gs → b.length + j = gs.length → (∀ j, j < b.length → 0 ≤ (ints b)[j]?.getD 0 ∧ (ints b)[j]?.getD 0 + gs[j]?.getD 0 ≤ (n : Int) ∧ 1 ≤ gs[j]?.getD 0) → Out B w v (ints b) → Out B w fv (ints F) → B ≤ w.heap.size → c0 + cwS n S d gs b ≤ 1000000000 →
    Calls Try.prog 44 #[rowV n false p (ints (tk n S)).length cap, .slice qg gs.length cg, .int .i64 d, v, .bool once, .agg #[fv, .int .i64 (c0 : Int)]] w fun e w' => ∃ fv', e = .returned (.agg #[fv', .int .i64 (((plS n S d gs once b (F, c0)).2 : Nat) : Int)]) ∧ Out B w' fv' (ints (plS n S d gs once b (F, c0)).1) ∧ Below w.heap.size w w' := by
  intro j
  induction j with
  | zero =>
    intro b B v fv F c0 w lo hi lo2 hi2 hin hing hbj hv hO hF hB hbd
    obtain ⟨q, c, rfl, -, -, -, -⟩ := Out.rd hO
    obtain ⟨qf, cf, rfl, -, -, -, -⟩ := Out.rd hF
    obtain ⟨lf, hlf⟩ : ∃ k, (ints F).length = k := ⟨_, rfl⟩
    rw [hlf] at hF ⊢
    clear hlf
    obtain ⟨fv, hfv⟩ : ∃ fv, fv = Value.slice qf lf cf := ⟨_, rfl⟩
    rw [← hfv] at hF ⊢
    have HP0 := Lib.hid (PlB.start w n p (ints (tk n S)).length cap fv (c0 : Int))
    have hll : b.length = gs.length := by omega
    rw [plS_leaf hll]
    have hcw : cwS n S d gs b = 1 := by unfold cwS; rw [hll, List.drop_of_length_le (Nat.le_refl _)]; rfl
    have hil := ints_length b
    have HO := Lib.hid (hO.below HP0.out.bel)
    have HF := Lib.hid (hF.below HP0.out.bel)
    rw [hil, hll] at HO ⊢
    obtain ⟨m, hm⟩ : ∃ m, (ints (tk n S)).length = m := ⟨_, rfl⟩
    rw [hm] at HP0 HO HF ⊢
    obtain ⟨w1, hw1⟩ : ∃ w1, w1 = ((w.alloc (.cells #[.int .i64 n, .bool false, .slice p m cap] 28)).alloc (.cells #[fv, .int .i64 (c0 : Int)] 56)).alloc (.cells #[.slice none 0 0, .int .i64 0] 56) := ⟨_, rfl⟩
    rw [← hw1] at HP0 HO HF
    have HW := Lib.hid hw1.symm
    clear hw1
    obtain ⟨k, hk⟩ : ∃ k, gs.length = k := ⟨_, rfl⟩
    rw [hk] at HO ⊢
    have hwc : IntKind.i64.wrap ((c0 : Int) + 1) = (c0 : Int) + 1 := IntWalk.i64_in _ (by omega)
    have hci : ((c0 + 1 : Nat) : Int) = (c0 : Int) + 1 := by omega
    have hneO := own_neP HO.out HP0.out.box
    have hneF := own_neP HF.out HP0.out.box
    clear hin hing hbj hv hO hF hll hil hm hk hcw
    subst hfv
    obtain ⟨c1, c2, c3, c4, c5, c6, c7⟩ := HP0.out.cells
    obtain ⟨f1, f2, f3, f4⟩ := HP0.out.free
    by_cases h0 : c0 = 0
    · have hO1 := (HO.out.other (a := ⟨w.heap.size + 1, 0, none⟩) hneO (.slice q k c)).other (a := ⟨w.heap.size + 1, 1, none⟩) hneO (.int .i64 1)
      have HP1 := Lib.hid (HP0.out.turn (.slice q k c) 1)
      obtain ⟨hr, ho, hb⟩ := HP1.out.fin hO1
      have HR := Lib.hid hr
      have HOO := Lib.hid ho
      have HBB := Lib.hid hb
      clear hneO hneF hO1 hr ho hb HF HO hwc hci hbd
      subst h0
      rw [if_pos rfl]
      rw [show ((0 : Nat) : Int) = 0 from rfl] at HW ⊢
      go_enter Try.func44, Try.ntmps44
      go_upto_region 1 with fail
      rw [HW.out]
      go_wp2_with fail
      exact ret_plc Try.results44 rfl HR.out rfl ⟨_, rfl, HOO.out, HBB.out⟩
    · have h00 : ¬ (c0 : Int) = 0 := by omega
      have hF1 := (HF.out.other (a := ⟨w.heap.size + 1, 0, none⟩) hneF (.slice qf lf cf)).other (a := ⟨w.heap.size + 1, 1, none⟩) hneF (.int .i64 ((c0 : Int) + 1))
      have hP1 := HP0.out.turn (.slice qf lf cf) ((c0 : Int) + 1)
      have hF2 := HF.out.other (a := ⟨w.heap.size + 1, 1, none⟩) hneF (.int .i64 ((c0 : Int) + 1))
      have HP1 : Hid (PlB w n p m cap (.slice qf lf cf) ((c0 : Int) + 1) (w1.setCell ⟨w.heap.size + 1, 1, none⟩ (.int .i64 ((c0 : Int) + 1)))) :=
        ⟨HP0.out.row.other (by show w.heap.size ≠ w.heap.size + 1; omega) _, HP0.out.box.set 1 _, HP0.out.res.other (by show w.heap.size + 1 + 1 ≠ w.heap.size + 1; omega) _, HP0.out.bel.setCell (by show w.heap.size ≤ w.heap.size + 1; omega) _⟩
      obtain ⟨hr, ho, hb⟩ := HP1.out.fin hF2
      have HR := Lib.hid hr
      have HOO := Lib.hid ho
      have HBB := Lib.hid hb
      rw [if_neg h0, hci]
      clear hneO hneF hF1 hF2 hP1 hr ho hb HF HO hci hbd h0
      go_enter Try.func44, Try.ntmps44
      go_upto_region 1 with fail
      rw [HW.out]
      go_wp2_with fail
      exact ret_plc Try.results44 rfl HR.out rfl ⟨_, rfl, HOO.out, HBB.out⟩
  | succ j ih =>
    intro b B v fv F c0 w lo hi lo2 hi2 hin hing hbj hv hO hF hB hbd
    obtain ⟨q, c, rfl, hlc, -, hR, -⟩ := Out.rd hO
    obtain ⟨qf, cf, rfl, -, -, -, -⟩ := Out.rd hF
    have hll : b.length < gs.length := by omega
    have hmi : (ints b).length = b.length := ints_length b
    have OWN := Lib.hid (fun (w' : World) (h' : Below w.heap.size w w') => l1Own_any q c (ints b) w' B w.heap.size (hR.below h' hR.top) (by omega))
    have MY := Lib.hid (fun (x : Nat) (w' : World) (h' : Below w.heap.size w w') => by
      have h := fitsS_any n p cap S qg cg gs d q c (ints b) (x : Int) w' lo hi lo2 hi2 B w.heap.size (hin.below h' hin.top) hn (hing.below h' hing.top) hgl (hR.below h' hR.top) (by omega) hd hg1 (by rw [hmi]; exact hv)
      rw [show fitG n (seatedM S gs (ints b) (ints b).length) d (gs[(ints b).length]?.getD 0) (x : Int) = phiP n S d gs b (gs[b.length]?.getD 0) x by rw [hmi]; rfl] at h
      exact h)
    have hIH := fun (x : Nat) (hx : x < n) (hf : phiP n S d gs b (gs[b.length]?.getD 0) x = true) (v' fv' : Value) (F' : List Nat) (c' : Nat) (w' : World) (hw : Below w.heap.size w w') (h1 : Out B w' v' (ints b ++ [(x : Int)])) (h2 : Out B w' fv' (ints F')) (h4 : c' + cwS n S d gs (b ++ [x]) ≤ 1000000000) => ih (b ++ [x]) B v' fv' F' c' w' lo hi lo2 hi2 (hin.below hw hin.top) (hing.below hw hing.top) (by rw [List.length_append]; simp; omega) (by
      intro t ht
      have hfx := (fitG_true.1 (show fitG n (seatedM S gs (ints b) b.length) d (gs[b.length]?.getD 0) (x : Int) = true from hf))
      rw [List.length_append, List.length_singleton] at ht
      rw [ints_snocP]
      by_cases e : t = b.length
      · subst e
        rw [← hmi, List.getElem?_append_right (Nat.le_refl _), Nat.sub_self]
        have hm : gs[b.length]?.getD 0 ∈ gs := by rw [List.getElem?_eq_getElem hll]; exact List.getElem_mem hll
        have := hg1 _ hm
        rw [hmi]
        refine ⟨by simp, ?_, this⟩
        have := hfx.2.1
        simp only [List.getElem?_cons_zero, Option.getD_some]
        omega
      · rw [List.getElem?_append_left (by omega)]
        exact hv t (by omega)) (by rw [ints_snocP]; exact h1) h2 (Nat.le_trans hB hw.size) h4
    have hstep := plS_step (n := n) (S := S) (d := d) (gs := gs) (once := once) (pl := b) (st := (F, c0)) hd hg1 hll
    have hpart := fun x hx hf => Nat.le_trans (cwS_part (n := n) (S := S) (d := d) (gs := gs) (once := once) (pl := b) (st := (F, c0)) (x := x) hd hg1 hll hx hf) hbd
    obtain ⟨MA, hMA⟩ : ∃ f : Nat → Bool, f = fun x => phiP n S d gs b (gs[b.length]?.getD 0) x := ⟨_, rfl⟩
    have hma : ∀ x, phiP n S d gs b (gs[b.length]?.getD 0) x = MA x := fun x => by rw [hMA]
    obtain ⟨PS, hPS⟩ : ∃ f : Nat → List Nat × Nat → List Nat × Nat, f = fun x st => plS n S d gs once (b ++ [x]) st := ⟨_, rfl⟩
    have hps : ∀ x st, plS n S d gs once (b ++ [x]) st = PS x st := fun x st => by rw [hPS]
    obtain ⟨CW, hCW⟩ : ∃ f : Nat → Nat, f = fun x => cwS n S d gs (b ++ [x]) := ⟨_, rfl⟩
    have hcw : ∀ x, cwS n S d gs (b ++ [x]) = CW x := fun x => by rw [hCW]
    simp only [hma, hps, hcw] at MY hIH hstep hpart
    obtain ⟨FO, hFO⟩ : ∃ f : Nat → List Nat × Nat, f = fun x => foldN x (fun p st => if once = true ∧ 0 < st.2 then st else if MA p = true then PS p st else st) (F, c0) := ⟨_, rfl⟩
    have hfo : ∀ x, foldN x (fun p st => if once = true ∧ 0 < st.2 then st else if MA p = true then PS p st else st) (F, c0) = FO x := fun x => by rw [hFO]
    have hfs : ∀ x, FO (x + 1) = if once = true ∧ 0 < (FO x).2 then FO x else if MA x = true then PS x (FO x) else FO x := by
      intro x
      rw [hFO]
      exact foldN_succ _ _ _
    have hf0 : FO 0 = (F, c0) := by rw [hFO]; rfl
    simp only [hfo] at hstep hpart
    have hstop : ∀ x t, once = true → 0 < (FO x).2 → FO (x + t) = FO x := by
      intro x t h1 h2
      induction t with
      | zero => rfl
      | succ t iht => rw [← Nat.add_assoc, hfs, iht, if_pos ⟨h1, h2⟩]
    rw [hstep]
    have HFS := Lib.hid hfs
    have HPA := Lib.hid hpart
    have HSTP := Lib.hid hstop
    have HP0 := PlB.start w n p (ints (tk n S)).length cap (.slice qf (ints F).length cf) (c0 : Int)
    have HF0 : Hid (Out B (((w.alloc (.cells #[.int .i64 n, .bool false, .slice p (ints (tk n S)).length cap] 28)).alloc (.cells #[.slice qf (ints F).length cf, .int .i64 (c0 : Int)] 56)).alloc (.cells #[.slice none 0 0, .int .i64 0] 56)) (.slice qf (ints F).length cf) (ints (FO 0).1)) := by
      show Out _ _ _ _
      rw [hf0]
      exact hF.below HP0.bel
    have hc0 : ((FO 0).2 : Int) = (c0 : Int) := by rw [hf0]
    obtain ⟨mb, hmb⟩ : ∃ k, b.length = k := ⟨_, rfl⟩
    rw [hmi, hmb] at OWN MY ⊢
    obtain ⟨k, hk⟩ : ∃ k, gs.length = k := ⟨_, rfl⟩
    rw [hk] at MY hIH ⊢
    obtain ⟨m, hm⟩ : ∃ m, (ints (tk n S)).length = m := ⟨_, rfl⟩
    rw [hm] at MY hIH HP0 HF0 ⊢
    obtain ⟨lf, hlf⟩ : ∃ m, (ints F).length = m := ⟨_, rfl⟩
    rw [hlf] at HP0 HF0 ⊢
    have HP1 : Hid (PlB w n p m cap (.slice qf lf cf) ((FO 0).2 : Int) (((w.alloc (.cells #[.int .i64 n, .bool false, .slice p m cap] 28)).alloc (.cells #[.slice qf lf cf, .int .i64 (c0 : Int)] 56)).alloc (.cells #[.slice none 0 0, .int .i64 0] 56))) := by
      show PlB _ _ _ _ _ _ _ _
      rw [hc0]
      exact HP0
    have IH : Hid (∀ (x : Nat), x < n → MA x = true → ∀ (p3 : Option Addr) (c3 : Nat) (qf : Option Addr) (lf cf : Nat) (F' : List Nat) (c' : Nat) (w' : World), Below w.heap.size w w' → Out B w' (.slice p3 (mb + 1) c3) (ints b ++ [(x : Int)]) → Out B w' (.slice qf lf cf) (ints F') → c' + CW x ≤ 1000000000 → Calls Try.prog 44 #[rowV n false p m cap, .slice qg k cg, .int .i64 d, .slice p3 (mb + 1) c3, .bool once, .agg #[.slice qf lf cf, .int .i64 (c' : Int)]] w' fun e w'' => ∃ fv', e = .returned (.agg #[fv', .int .i64 (((PS x (F', c')).2 : Nat) : Int)]) ∧ Out B w'' fv' (ints (PS x (F', c')).1) ∧ Below w'.heap.size w' w'') := fun x h1 hf p3 c3 qf lf cf F' c' w' hw h3 h4 h5 => hIH x h1 hf _ _ F' c' w' hw h3 h4 h5
    have HMI : Hid ((ints b).length = mb) := by show _ = _; rw [hmi]; exact hmb
    have hmbK : mb + 1 ≤ 5 := by omega
    have hne2 : ¬ mb = k := by omega
    have hne : ¬ (mb : Int) = (k : Int) := by omega
    have hne3 : ((mb : Int) == (k : Int)) = false := by rw [beq_eq_false_iff_ne]; omega
    clear hO hF hR ih hIH hv hbj hin hing hstep hpart hma hMA hps hPS hcw hCW hfo hFO hfs hf0 hstop hmb hk hm hlf hmi hlc hbd hll HP0
    obtain ⟨c1, c2, c3, c4, c5, c6, c7⟩ := HP1.out.cells
    go_enter Try.func44, Try.ntmps44
    go_wp2_with fail
    clear c1 c2 c3 c4 c5 c6 c7
    go_loopw [13] (fun i wr => ∃ (x : Nat) (qf : Option Addr) (lf cf : Nat), x ≤ n ∧ i = .int .i64 (x : Int) ∧ Hid (Out B wr (.slice qf lf cf) (ints (FO x).1)) ∧ Hid (PlB w n p m cap (.slice qf lf cf) ((FO x).2 : Int) wr)) (fun i _ => n - (intOf i).toNat)
    case atStart => exact ⟨0, qf, lf, cf, Nat.zero_le _, rfl, HF0, HP1⟩
    case round =>
      obtain ⟨x, qf, lf, cf, hx, rfl, HF, HP⟩ := hrel
      clear HF0 HP1
      have hfsx := HFS.out x
      have hpax := HPA.out x
      have hstx := fun h1 h2 => HSTP.out x (n - x) h1 h2
      obtain ⟨st, hst⟩ : ∃ st, FO x = st := ⟨_, rfl⟩
      obtain ⟨F', c'⟩ := st
      rw [hst] at HF HP hfsx hpax hstx
      simp only at HF HP hfsx hpax hstx
      have HFX := Lib.hid hfsx
      have HPX := Lib.hid hpax
      have HSX := Lib.hid hstx
      have HSE := Lib.hid hst
      clear hfsx hpax hstx hst
      obtain ⟨c1, c2, c3, c4, c5, c6, c7⟩ := HP.out.cells
      by_cases hlt : x < n
      · have hk1 : (x : Int) < (n : Int) := by omega
        have hwx : IntKind.i64.wrap ((x : Int) + 1) = (x : Int) + 1 := IntWalk.i64_in _ (by omega)
        go_upto_region 7 with fail
        go_cut [41] (fun v wx => v = .bool (!(once && decide (0 < c'))) ∧ wr = wx)
        case first =>
          cases once with
          | false =>
            go_wp2_with fail
            go_meet
            exact ⟨rfl, rfl⟩
          | true =>
            by_cases hc0 : 0 < c'
            · have hc1 : (0 : Int) < (c' : Int) := by omega
              have hd0 := decide_eq_true hc0
              go_wp2_with fail
              go_meet
              exact ⟨by rw [hd0]; rfl, rfl⟩
            · have hc1 : ¬ (0 : Int) < (c' : Int) := by omega
              have hd0 := decide_eq_false hc0
              go_wp2_with fail
              go_meet
              exact ⟨by rw [hd0]; rfl, rfl⟩
        case rest =>
          obtain ⟨rfl, rfl⟩ := hcut
          obtain ⟨go, hgo⟩ : ∃ b, (!(once && decide (0 < c'))) = b := ⟨_, rfl⟩
          rw [hgo]
          cases go with
          | false =>
            have hoc : once = true ∧ 0 < c' := by simpa using hgo
            have hn0 := HSX.out hoc.1 hoc.2
            rw [show x + (n - x) = n by omega] at hn0
            obtain ⟨hr, ho, hb⟩ := HP.out.fin HF.out
            obtain ⟨f1, f2, f3, f4⟩ := HP.out.free
            have HR := Lib.hid hr
            have HOO := Lib.hid ho
            have HBB := Lib.hid hb
            have HN0 := Lib.hid hn0
            clear hr ho hb hoc hgo hn0
            go_wp2_with fail
            refine ret_plc Try.results44 rfl HR.out rfl ?_
            rw [HN0.out]
            exact ⟨_, rfl, HOO.out, HBB.out⟩
          | true =>
            have hoc : ¬ (once = true ∧ 0 < c') := by
              intro h
              rw [h.1, decide_eq_true h.2] at hgo
              cases hgo
            have hfx := HFX.out
            rw [if_neg hoc] at hfx
            have M2 := MY.out x wr HP.out.bel
            obtain ⟨y, hy⟩ : ∃ y, MA x = y := ⟨_, rfl⟩
            rw [hy] at M2 hfx
            have HY := Lib.hid hy
            have HFX2 := Lib.hid hfx
            replace M2 := Lib.hid M2
            clear hy hfx hoc hgo
            go_wp2_with fail
            refine M2.out.mono ?_
            rintro e wy ⟨rfl, hby⟩
            have HPy := Lib.hid (HP.out.next hby)
            have HFy := Lib.hid (HF.out.below hby)
            clear hby M2 HP HF c1 c2 c3 c4 c5 c6 c7
            obtain ⟨c1, c2, c3, c4, c5, c6, c7⟩ := HPy.out.cells
            cases y with
            | false =>
              have hfx := HFX2.out
              rw [if_neg (by simp)] at hfx
              have HF2 : Hid (Out B wy (.slice qf lf cf) (ints (FO (x + 1)).1)) := by
                show Out _ _ _ _
                rw [hfx]; exact HFy.out
              have HP2 : Hid (PlB w n p m cap (.slice qf lf cf) ((FO (x + 1)).2 : Int) wy) := by
                show PlB _ _ _ _ _ _ _ _
                rw [hfx]; exact HPy.out
              clear hfx HFX2 HY HFy HPy
              go_wp2_with fail
              go_roundw
              case rel => exact ⟨x + 1, qf, lf, cf, by omega, by go_num, HF2, HP2⟩
              case measure => simp [intOf]; omega
            | true =>
              have hfx := HFX2.out
              rw [if_pos rfl] at hfx
              have HFX3 := Lib.hid hfx
              have hsz := HPy.out.bel.size
              have HPz := HPX.out hlt HY.out
              have HB' := Lib.hid HPy.out.bel
              have RWC : Hid (∀ w2, Below wy.heap.size wy w2 → w2.cell? ⟨w.heap.size, 0, none⟩ = some (.int .i64 n) ∧ w2.cell? ⟨w.heap.size, 1, none⟩ = some (.bool false) ∧ w2.cell? ⟨w.heap.size, 2, none⟩ = some (.slice p m cap) ∧ w2.cell? ⟨w.heap.size + 1, 0, none⟩ = some (.slice qf lf cf) ∧ w2.cell? ⟨w.heap.size + 1, 1, none⟩ = some (.int .i64 (c' : Int))) := fun w2 h2 => by
                obtain ⟨k0, k1, k2, k3, k4, -, -⟩ := (HPy.out.next h2).cells
                exact ⟨k0, k1, k2, k3, k4⟩
              have FRE : Hid (∀ w2, Below wy.heap.size wy w2 → w2.frozen? ⟨w.heap.size + 1, 0, none⟩ = false ∧ w2.frozen? ⟨w.heap.size + 1, 1, none⟩ = false) := fun w2 h2 => by
                obtain ⟨k0, k1, -, -⟩ := (HPy.out.next h2).free
                exact ⟨k0, k1⟩
              obtain ⟨k3, k4, k5, k6, k7⟩ := RWC.out (wy.alloc (.cells #[.int .i64 (x : Int)] 3)) ((Below.refl _ wy).alloc (Nat.le_refl _) _)
              have HBd := Lib.hid HB'.out.drew
              have HBa : Hid (Below w.heap.size w (wy.alloc (.cells #[.int .i64 (x : Int)] 3)).drew) := by show Below _ _ _; exact (HB'.out.alloc hsz _).drew
              have AFd : Hid (∀ w2 g c2, Out wy.drew.heap.size w2 (.slice (some ⟨g, 0, none⟩) mb c2) (ints b) → Below wy.drew.heap.size wy.drew w2 → Hid (Out wy.heap.size w2 (.slice (some ⟨g, 0, none⟩) mb c2) (ints b)) ∧ Hid (Below wy.heap.size wy w2) ∧ Hid True ∧ (w2.cell? ⟨w.heap.size, 0, none⟩ = some (.int .i64 n) ∧ w2.cell? ⟨w.heap.size, 1, none⟩ = some (.bool false) ∧ w2.cell? ⟨w.heap.size, 2, none⟩ = some (.slice p m cap) ∧ w2.cell? ⟨w.heap.size + 1, 0, none⟩ = some (.slice qf lf cf) ∧ w2.cell? ⟨w.heap.size + 1, 1, none⟩ = some (.int .i64 (c' : Int)))) := by
                show ∀ _, _
                intro w2 g c2 h1 h2
                exact ⟨h1, (Below.refl _ wy).drew.trans h2, True.intro, RWC.out w2 ((Below.refl _ wy).drew.trans h2)⟩
              have AFa : Hid (∀ w2 g c2, Out (wy.alloc (.cells #[.int .i64 (x : Int)] 3)).drew.heap.size w2 (.slice (some ⟨g, 0, none⟩) mb c2) (ints b) → Below (wy.alloc (.cells #[.int .i64 (x : Int)] 3)).drew.heap.size (wy.alloc (.cells #[.int .i64 (x : Int)] 3)).drew w2 → Hid (Out wy.heap.size w2 (.slice (some ⟨g, 0, none⟩) mb c2) (ints b)) ∧ Hid (Below wy.heap.size wy w2) ∧ Hid (OwnArr w2 wy.heap.size 3 [.int .i64 (x : Int)]) ∧ (w2.cell? ⟨w.heap.size, 0, none⟩ = some (.int .i64 n) ∧ w2.cell? ⟨w.heap.size, 1, none⟩ = some (.bool false) ∧ w2.cell? ⟨w.heap.size, 2, none⟩ = some (.slice p m cap) ∧ w2.cell? ⟨w.heap.size + 1, 0, none⟩ = some (.slice qf lf cf) ∧ w2.cell? ⟨w.heap.size + 1, 1, none⟩ = some (.int .i64 (c' : Int)))) := by
                show ∀ _, _
                intro w2 g c2 h1 h2
                have hs : (wy.alloc (.cells #[.int .i64 (x : Int)] 3)).drew.heap.size = wy.heap.size + 1 := by simp
                have h2' : Below wy.heap.size wy w2 := (((Below.refl _ wy).alloc (Nat.le_refl _) _).drew).trans (h2.mono (by omega))
                refine ⟨Out.mono h1 (by omega), h2', ?_, RWC.out w2 h2'⟩
                show OwnArr _ _ _ _
                have h5 : OwnArr (wy.alloc (.cells #[.int .i64 (x : Int)] 3)).drew wy.heap.size 3 [.int .i64 (x : Int)] := OwnArr.made wy _ [_]
                exact h5.below h2 (by omega)
              have HC0 : Hid (∀ (p3 : Option Addr) (c3 : Nat) (w' : World), Below wy.heap.size wy w' → Out wy.heap.size w' (.slice p3 (mb + 1) c3) (ints b ++ [(x : Int)]) → Calls Try.prog 44 #[rowV n false p m cap, .slice qg k cg, .int .i64 d, .slice p3 (mb + 1) c3, .bool once, .agg #[.slice qf lf cf, .int .i64 (c' : Int)]] w' fun e w'' => ∃ q4 l4 c4, e = .returned (.agg #[.slice q4 l4 c4, .int .i64 (((FO (x + 1)).2 : Nat) : Int)]) ∧ Out B w'' (.slice q4 l4 c4) (ints (FO (x + 1)).1) ∧ Below w'.heap.size w' w'') := by
                show ∀ _, _
                intro p3 c3 w' hw h1
                have hC := IH.out x hlt HY.out p3 c3 qf lf cf F' c' w' (HB'.out.trans (hw.mono hsz)) (h1.mono (Nat.le_trans hB hsz)) (HFy.out.below hw) HPz
                rw [← HFX3.out] at hC
                refine hC.mono ?_
                rintro e w'' ⟨fv', rfl, ho, hb'⟩
                obtain ⟨q4, c4, rfl, -⟩ := ho.rd
                exact ⟨_, _, _, rfl, ho, hb'⟩
              obtain ⟨NX, hNX⟩ : ∃ st, FO (x + 1) = st := ⟨_, rfl⟩
              have HNX := Lib.hid hNX
              rw [hNX] at HC0
              obtain ⟨F2, e2⟩ := NX
              simp only at HC0
              have CL : Hid (∀ (q4 : Option Addr) (l4 c4 : Nat) (w4 : World), Below wy.heap.size wy w4 → Out B w4 (.slice q4 l4 c4) (ints F2) → Hid (Out B ((w4.setCell ⟨w.heap.size + 1, 0, none⟩ (.slice q4 l4 c4)).setCell ⟨w.heap.size + 1, 1, none⟩ (.int .i64 (e2 : Int))) (.slice q4 l4 c4) (ints (FO (x + 1)).1)) ∧ Hid (PlB w n p m cap (.slice q4 l4 c4) ((FO (x + 1)).2 : Int) ((w4.setCell ⟨w.heap.size + 1, 0, none⟩ (.slice q4 l4 c4)).setCell ⟨w.heap.size + 1, 1, none⟩ (.int .i64 (e2 : Int))))) := by
                show ∀ _, _
                intro q4 l4 c4 w4 hb ho
                have hp4 := HPy.out.next hb
                have hne := own_neP ho hp4.box
                rw [HNX.out]
                exact ⟨(ho.other (a := ⟨w.heap.size + 1, 0, none⟩) hne _).other (a := ⟨w.heap.size + 1, 1, none⟩) hne _, hp4.turn _ _⟩
              have hl6 : (ints b).length + 1 ≤ 100000 := by have := HMI.out; omega
              have HL1 : Hid ((ints b ++ [(x : Int)]).length = mb + 1) := by show _ = _; rw [List.length_append, HMI.out]; rfl
              clear HFX2 hfx HPz HFX3 HFy HY hNX c6 c7 HNX HPX HSX HSE HFX HPA HSTP HFS MY IH
              go_wp2_with fail
              go_region_law (first
                | (go_simp; go_at_call 49; refine (OWN.out _ HBd.out).mono ?_; rintro e w2 ⟨g, c2, rfl, hg, hc21, hc22, hO, hb2⟩; obtain ⟨HO1, HB2, HLT, d0, d1, d2, d6, d7⟩ := AFd.out _ _ _ hO hb2; obtain ⟨d3, d4, d5, d8, d9⟩ := RWC.out (w2.alloc (.cells #[.int .i64 (x : Int)] 3)) (HB2.out.alloc HB2.out.size _); clear hO hb2)
                | (go_simp; go_at_call 49; refine (OWN.out _ HBa.out).mono ?_; rintro e w2 ⟨g, c2, rfl, hg, hc21, hc22, hO, hb2⟩; obtain ⟨HO1, HB2, HLT, d0, d1, d2, d6, d7⟩ := AFa.out _ _ _ hO hb2; clear hO hb2)
                | (refine step_app rfl (.tmp 54) (.tmp 56) rfl wy.heap.size (.slice (some ⟨g, 0, none⟩) mb c2) (ints b) (by simp [Act.eval]) (World.ownsRow.alloc HO1.out _) _ 1 1 0 (w2.heap.size + 1) [(x : Int)] (by simp [Act.eval]) (lit_one (OwnArr.made w2 _ [_]) _ (Nat.lt_succ_self _) (by simp)) rfl hl6 (by have := HB2.out.size; simp; omega) ?_; intro v3 w3 hO3 hg3 hn3; have HB3 := Lib.hid ((HB2.out.alloc HB2.out.size (.cells #[.int .i64 (x : Int)] 3)).grown hg3 (by have := HB2.out.size; simp; omega) (own_block HO1.out)); obtain ⟨p3, c3, e3, -, -, -, -⟩ := hO3.rd; rw [HL1.out] at e3; rw [e3] at hO3 ⊢; have HO3 := Lib.hid hO3; obtain ⟨e0, e1, e4, e5, e6⟩ := RWC.out w3 HB3.out; clear hO3 hg3 hn3 e3)
                | (refine step_app rfl (.tmp 54) (.tmp 56) rfl wy.heap.size (.slice (some ⟨g, 0, none⟩) mb c2) (ints b) (by simp [Act.eval]) HO1.out _ 1 1 0 w2.heap.size [(x : Int)] (by simp [Act.eval]) (lit_one HLT.out _ HLT.out.lt (Nat.le_refl _)) rfl hl6 HB2.out.size ?_; intro v3 w3 hO3 hg3 hn3; have HB3 := Lib.hid (HB2.out.grown hg3 HB2.out.size (own_block HO1.out)); obtain ⟨p3, c3, e3, -, -, -, -⟩ := hO3.rd; rw [HL1.out] at e3; rw [e3] at hO3 ⊢; have HO3 := Lib.hid hO3; obtain ⟨e0, e1, e4, e5, e6⟩ := RWC.out w3 HB3.out; clear hO3 hg3 hn3 e3)
                | (go_simp; go_at_call 44; refine (HC0.out _ _ _ HB3.out HO3.out).mono ?_; rintro e w4 ⟨q4, l4, c4', rfl, hO4, hb4⟩; have HB4 := Lib.hid (HB3.out.trans (hb4.mono HB3.out.size)); have HO4 := Lib.hid hO4; obtain ⟨g0, g1, g2, g3, g4⟩ := RWC.out w4 HB4.out; obtain ⟨h0, h1⟩ := FRE.out w4 HB4.out; clear hO4 hb4))
              all_goals
                obtain ⟨HF5, HP5⟩ := CL.out _ _ _ _ HB4.out HO4.out
                clear HB2 HB3 HO1 HO3 HLT HBd HBa AFd AFa HC0 HB4 HO4 d0 d1 d2 d6 d7 e0 e1 e4 e5 e6 g0 g1 g2 g3 g4 h0 h1 RWC FRE k3 k4 k5 k6 k7 CL OWN
                try clear d3 d4 d5 d8 d9
                go_wp2_with fail
                go_roundw
                case rel => exact ⟨x + 1, _, _, _, by omega, by go_num, HF5, HP5⟩
                case measure => simp [intOf]; omega
      · have hxn : x = n := by omega
        have hk1 : ¬ (x : Int) < (n : Int) := by omega
        have hse := HSE.out
        rw [hxn] at hse
        have HN0 := Lib.hid hse
        obtain ⟨hr, ho, hb⟩ := HP.out.fin HF.out
        obtain ⟨f1, f2, f3, f4⟩ := HP.out.free
        have HR := Lib.hid hr
        have HOO := Lib.hid ho
        have HBB := Lib.hid hb
        clear hr ho hb hxn hse
        go_wp2_with fail
        refine ret_plc Try.results44 rfl HR.out rfl ?_
        rw [HN0.out]
        exact ⟨_, rfl, HOO.out, HBB.out⟩
end Go.Proofs.Ytogdiahojbonaaa
