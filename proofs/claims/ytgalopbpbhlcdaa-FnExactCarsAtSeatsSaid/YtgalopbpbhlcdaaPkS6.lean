/- Chapter 6, spec side: spec.l6Park. -/
import Derived.Test.YtgalopbpbhlcdaaBck6
import Derived.Test.YtgalopbpbhlcdaaWith
import Derived.Test.YtgalopbpbhlcdaaOwnL
import Derived.Test.YtgalopbpbhlcdaaMade
import Derived.Deep.RegionHeld3
import Derived.Deep.DeepCutAuto
namespace Go.Proofs.Ytgalopbpbhlcdaa
open Go.RowKit

theorem lt_of_cellK {w : World} {a : Addr} {v : Value} (h : w.cell? a = some v) : a.block < w.heap.size := by
  rcases Nat.lt_or_ge a.block w.heap.size with h' | h'
  · exact h'
  · simp [World.cell?, Array.getElem?_eq_none h'] at h
theorem cell_allocK {w : World} {b i : Nat} {v : Value} {o : Obj} (h : w.cell? ⟨b, i, none⟩ = some v) : (w.alloc o).cell? ⟨b, i, none⟩ = some v := by
  have hb : b < w.heap.size := lt_of_cellK h
  rw [World.cell?_alloc_past (w := w) _ b _ hb]; exact h
theorem cell_setK {w : World} {b i : Nat} {v : Value} {a : Addr} {x : Value} (h : w.cell? ⟨b, i, none⟩ = some v) (hb : b ≠ a.block) : (w.setCell a x).cell? ⟨b, i, none⟩ = some v := by
  rw [← h]
  exact World.cell?_of_block (w := w) (a := ⟨b, i, none⟩) (Below.heap_setCell _ _ _ _ hb)
theorem cell_set3K {w : World} {b c i : Nat} {v x y z : Value} (h : w.cell? ⟨b, i, none⟩ = some v) (hb : b < c) : (((w.setCell ⟨c, 0, none⟩ x).setCell ⟨c, 1, none⟩ y).setCell ⟨c, 2, none⟩ z).cell? ⟨b, i, none⟩ = some v :=
  cell_setK (cell_setK (cell_setK h (by show b ≠ c; omega)) (by show b ≠ c; omega)) (by show b ≠ c; omega)
abbrev E0 : Obj := .cells #[] 3
abbrev Z0 : Obj := .cells #[.int .i64 0, .bool false, .slice none 0 0] 26
abbrev ZC : List Value := [.int .i64 0, .bool false, .slice none 0 0]
theorem nil_at {B : Nat} {w w' : World} (hB : B ≤ w.heap.size) (h : Below (w.alloc E0).heap.size (w.alloc E0) w') : Out B w' (.slice (some ⟨w.heap.size, 0, none⟩) 0 0) [] :=
  ((Out.nilLit w).mono hB).below h
theorem row_at {w w' : World} (h : Below (w.alloc Z0).heap.size (w.alloc Z0) w') : OwnArr w' w.heap.size 26 ZC :=
  (OwnArr.made w 26 ZC).below h (OwnArr.made w 26 ZC).lt
theorem nil_row_at {B : Nat} {w w' : World} (hB : B ≤ w.heap.size) (h : Below ((w.alloc E0).alloc Z0).heap.size ((w.alloc E0).alloc Z0) w') : Out B w' (.slice (some ⟨w.heap.size, 0, none⟩) 0 0) [] ∧ OwnArr w' (w.heap.size + 1) 26 ZC := by
  have hZ := row_at h
  rw [show (w.alloc E0).heap.size = w.heap.size + 1 by simp] at hZ
  exact ⟨Out.below (World.ownsRow.alloc ((Out.nilLit w).mono hB) _) h, hZ⟩
theorem row_nil_at {B : Nat} {w w' : World} (hB : B ≤ w.heap.size) (h : Below ((w.alloc Z0).alloc E0).heap.size ((w.alloc Z0).alloc E0) w') : Out B w' (.slice (some ⟨w.heap.size + 1, 0, none⟩) 0 0) [] ∧ OwnArr w' w.heap.size 26 ZC := by
  have hE := nil_at (B := B) (by simp; omega) h
  rw [show (w.alloc Z0).heap.size = w.heap.size + 1 by simp] at hE
  have hZ := (OwnArr.made w 26 ZC).alloc E0
  exact ⟨hE, hZ.below h hZ.lt⟩
theorem nil_atD {B : Nat} {w w' : World} (hB : B ≤ w.heap.size) (h : Below (w.alloc E0).drew.heap.size (w.alloc E0).drew w') : Out B w' (.slice (some ⟨w.heap.size, 0, none⟩) 0 0) [] := nil_at hB (((Below.refl _ _).drew).trans h)
theorem row_atD {w w' : World} (h : Below (w.alloc Z0).drew.heap.size (w.alloc Z0).drew w') : OwnArr w' w.heap.size 26 ZC := row_at (((Below.refl _ _).drew).trans h)
theorem nil_row_atD {B : Nat} {w w' : World} (hB : B ≤ w.heap.size) (h : Below ((w.alloc E0).alloc Z0).drew.heap.size ((w.alloc E0).alloc Z0).drew w') : Out B w' (.slice (some ⟨w.heap.size, 0, none⟩) 0 0) [] ∧ OwnArr w' (w.heap.size + 1) 26 ZC := nil_row_at hB (((Below.refl _ _).drew).trans h)
theorem row_nil_atD {B : Nat} {w w' : World} (hB : B ≤ w.heap.size) (h : Below ((w.alloc Z0).alloc E0).drew.heap.size ((w.alloc Z0).alloc E0).drew w') : Out B w' (.slice (some ⟨w.heap.size + 1, 0, none⟩) 0 0) [] ∧ OwnArr w' w.heap.size 26 ZC := row_nil_at hB (((Below.refl _ _).drew).trans h)
theorem ext1 (w : World) (o : Obj) : Below w.heap.size w (w.alloc o) := (Below.refl _ _).alloc (Nat.le_refl _) _
theorem ext2 (w : World) (o o' : Obj) : Below w.heap.size w ((w.alloc o).alloc o') := (ext1 w o).alloc (by simp) _
/-- past a call that began behind what x became -/
theorem past {B : Nat} {x y z : World} (h : Below B x y) (hs : B ≤ y.heap.size) (h2 : Below y.heap.size y z) : Below B x z := h.trans (h2.mono hs)
/-- how the cursor of cars and the Row behind them begin -/
def PkB (w0 : World) (B : Nat) (v : Value) (g : Nat) (a b c : Value) (xs : List Int) (wx : World) : Prop :=
  B ≤ g ∧ OwnArr wx g 26 [a, b, c] ∧ Out B wx c xs ∧ Out B wx v [] ∧ Below B w0 wx ∧ ∀ k, v.ownBlock = some k → c.ownBlock ≠ some k
theorem ne_own {e g m c : Nat} (h : e ≠ g) : ∀ k, (Value.slice (some ⟨e, 0, none⟩) 0 0).ownBlock = some k → (Value.slice (some ⟨g, 0, none⟩) m c).ownBlock ≠ some k := by
  intro k h1 h2
  simp [Value.ownBlock] at h1 h2
  omega
theorem PkB.store {w0 : World} {B g : Nat} {v a b c : Value} {xs : List Int} {wx : World} (hg : B ≤ g) (hZ : OwnArr wx g 26 ZC) (hO : Out B wx c xs) (hE : Out B wx v []) (hB : Below B w0 wx) (hn : ∀ k, v.ownBlock = some k → c.ownBlock ≠ some k) :
    PkB w0 B v g a b c xs (((wx.setCell ⟨g, 0, none⟩ a).setCell ⟨g, 1, none⟩ b).setCell ⟨g, 2, none⟩ c) :=
  ⟨hg, ((hZ.set 0 a).set 1 b).set 2 c, hO.boxed hZ _ _ _, hE.boxed hZ _ _ _, ((hB.setCell (by show _ ≤ g; omega) _).setCell (by show _ ≤ g; omega) _).setCell (by show _ ≤ g; omega) _, hn⟩
theorem PkB.nil {w0 : World} {B g e : Nat} {a b c : Value} {xs : List Int} {wx : World} (he : wx.heap.size = e) (hg : B ≤ g) (hX : OwnArr wx g 26 [a, b, c]) (hO : Out B wx c xs) (hB : Below B w0 wx) (hn : ∀ k, (Value.slice (some ⟨e, 0, none⟩) 0 0).ownBlock = some k → c.ownBlock ≠ some k) :
    PkB w0 B (.slice (some ⟨e, 0, none⟩) 0 0) g a b c xs (wx.alloc E0) := by
  subst he
  have hs : B ≤ wx.heap.size := by have := hX.lt; omega
  exact ⟨hg, hX.alloc _, World.ownsRow.alloc hO _, (Out.nilLit wx).mono hs, hB.alloc hs _, hn⟩
theorem PkB.row {w0 : World} {B g : Nat} {v a b c : Value} {xs : List Int} {wx : World} (hg : wx.heap.size = g) (hs : B ≤ wx.heap.size) (hO : Out B wx c xs) (hE : Out B wx v []) (hB : Below B w0 wx) (hn : ∀ k, v.ownBlock = some k → c.ownBlock ≠ some k) :
    PkB w0 B v g a b c xs (wx.alloc (.cells #[a, b, c] 26)) := by
  subst hg
  exact ⟨hs, OwnArr.made wx 26 [a, b, c], World.ownsRow.alloc hO _, World.ownsRow.alloc hE _, hB.alloc hs _, hn⟩
/-- .. the list made behind the Row -/
theorem PkB.nilS {w0 : World} {B g e : Nat} {a b c : Value} {xs : List Int} {wx : World} (he : wx.heap.size = e) (hg : B ≤ g) (hZ : OwnArr wx g 26 ZC) (hO : Out B wx c xs) (hB : Below B w0 wx) (hn : ∀ k, (Value.slice (some ⟨e, 0, none⟩) 0 0).ownBlock = some k → c.ownBlock ≠ some k) :
    PkB w0 B (.slice (some ⟨e, 0, none⟩) 0 0) g a b c xs ((((wx.setCell ⟨g, 0, none⟩ a).setCell ⟨g, 1, none⟩ b).setCell ⟨g, 2, none⟩ c).alloc E0) :=
  PkB.nil (by rw [← he]; simp [World.setCell]) hg (((hZ.set 0 a).set 1 b).set 2 c) (hO.boxed hZ _ _ _) (((hB.setCell (by show _ ≤ g; omega) _).setCell (by show _ ≤ g; omega) _).setCell (by show _ ≤ g; omega) _) hn
/-- .. both made behind the calls, the list second -/
theorem PkB.two {w0 : World} {B g e : Nat} {a b c : Value} {xs : List Int} {wx : World} (hg : wx.heap.size = g) (he : wx.heap.size + 1 = e) (hs : B ≤ wx.heap.size) (hO : Out B wx c xs) (hB : Below B w0 wx) (hn : ∀ k, (Value.slice (some ⟨e, 0, none⟩) 0 0).ownBlock = some k → c.ownBlock ≠ some k) :
    PkB w0 B (.slice (some ⟨e, 0, none⟩) 0 0) g a b c xs (((((wx.alloc Z0).alloc E0).setCell ⟨g, 0, none⟩ a).setCell ⟨g, 1, none⟩ b).setCell ⟨g, 2, none⟩ c) := by
  subst hg he
  have hN : Out B ((wx.alloc Z0).alloc E0) (.slice (some ⟨wx.heap.size + 1, 0, none⟩) 0 0) [] := by
    have h := Out.nilLit (wx.alloc Z0)
    rw [show (wx.alloc Z0).heap.size = wx.heap.size + 1 by simp] at h
    exact h.mono (by omega)
  exact PkB.store hs ((OwnArr.made wx 26 ZC).alloc E0) (World.ownsRow.alloc (World.ownsRow.alloc hO _) _) hN ((hB.alloc hs _).alloc (by simp; omega) _) hn
theorem PkB.name {w0 : World} {B g : Nat} {v a b c : Value} {xs : List Int} {wx : World} (_ : PkB w0 B v g a b c xs wx) : ∃ v0, v0 = v := ⟨v, rfl⟩
theorem results_tmp_cellK {fn : Func} {p u : Tmp} {ty : TypeId} (h : fn.results = #[.tmp u, .cell p ty]) (tmps : Array Value) (P : Program) (w : World) :
    (results fn tmps).run P w = ((asAddr (tmps.getD p undef)).run P w).andThen fun a w₁ => ((loadVar ty a).run P w₁).andThen fun v w₂ => .ok (.tuple #[tmps.getD u undef, v]) w₂ := by
  simp only [results, h]
  simp [Sem.run_bind, Result.andThen]
theorem ret_rowK {fn : Func} {R : Ending → World → Prop} {a : Act} {w : World} {p u : Tmp} {b : Nat} {x y z : Value} {v : Value} (h : fn.results = #[.tmp u, .cell p 26]) (hp : a.tmps.getD p undef = .pointer (some ⟨b, 0, none⟩)) (hu : a.tmps.getD u undef = v)
    (ho : OwnArr w b 26 [x, y, z]) (hd : a.defers = []) (hR : R (.returned (.tuple #[v, .agg #[x, y, z]])) w) : bodyPost Try.prog fn R .ret a w := by
  refine bodyPost_ret (v := .tuple #[v, .agg #[x, y, z]]) ?_ hd hR
  rw [results_tmp_cellK h, hp, hu]
  simp only [asAddr, Sem.run_pure, Result.andThen]
  rw [load_row ho]
theorem Out.riK {B : Nat} {w : World} {q : Option Addr} {m c : Nat} {xs : List Int} (h : Out B w (.slice q m c) xs) : Ri B w.heap.size w q xs := by
  obtain ⟨q', c', e, h1, h2, hR, -⟩ := h.rd
  simp only [Value.slice.injEq] at e
  obtain ⟨rfl, rfl, rfl⟩ := e
  exact hR

theorem not_own {a b : Option Nat} (h : ∀ k, a = some k → b ≠ some k) : b = none ∨ b ≠ a := by
  cases hb : b with
  | none => exact .inl rfl
  | some k => exact .inr fun e => h k e.symm hb

set_option maxRecDepth 4000 in
set_option maxHeartbeats 8000000 in
theorem l6Park_any (n : Nat) (ring : Bool) (p : Option Addr) (cap : Nat) (S : Nat → Bool) (q : Option Addr) (c : Nat) (l : List Nat) (kk : Nat) (w : World) (lo hi lo2 hi2 : Nat) (hin : Ri lo hi w p (ints (tk n S))) (h2 : 2 ≤ n) (hn : n ≤ 24) (hin2 : Ri lo2 hi2 w q (ints l)) (hl : ∀ x ∈ l, x < n) (hll : l.length ≤ 12) (hkk : kk ≤ 24) :
    Calls Try.prog 32 #[rowV n ring p (ints (tk n S)).length cap, .slice q (ints l).length c, .int .i64 (kk : Nat)] w fun e w' => ∃ v u, e = .returned (.tuple #[v, .agg #[.int .i64 (n : Int), .bool ring, u]]) ∧ Out w.heap.size w' v (pkM n ring kk S l l.length) ∧ Out w.heap.size w' u (ints (tk n (stM n ring kk S l l.length))) ∧ Below w.heap.size w w' := by
  obtain ⟨i0, hi0, hz0, hz1, hz2⟩ := info_parts infoInt
  have hlen := ints_tk_len n S
  have hE := Beg.start w n ring p (ints (tk n S)).length cap
  have MK := Lib.hid (fun (w' : World) (h' : Below w.heap.size w w') => l1Own_any p cap (ints (tk n S)) w' lo hi (hin.below h' hin.top) (by omega))
  have HI2 := Lib.hid (fun (w' : World) (h' : Below w.heap.size w w') => hin2.below h' hin2.top)
  have HL := Lib.hid hl
  obtain ⟨wb, hwb⟩ : ∃ wb, (w.alloc (.cells #[Value.int .i64 n, Value.bool ring, Value.slice p (ints (tk n S)).length cap] 26)).alloc (.cells #[Value.int .i64 0, Value.bool false, Value.slice none 0 0] 26) = wb := ⟨_, rfl⟩
  rw [hwb] at hE
  have HE := Lib.hid hE
  obtain ⟨m0, hm⟩ : ∃ m, (ints (tk n S)).length = m := ⟨_, rfl⟩
  rw [hm] at HE MK hwb ⊢
  have HM := Lib.hid hm
  rw [ints_length]
  obtain ⟨m, hm2⟩ : ∃ m, l.length = m := ⟨_, rfl⟩
  rw [hm2] at hll ⊢
  have HLM := Lib.hid hm2
  have HW := Lib.hid hwb
  have hsb : w.heap.size + 2 ≤ wb.heap.size := hE.res.lt
  have HSB := Lib.hid hsb
  have HBW := Lib.hid hE.bel
  have HD0 := Lib.hid ((Below.refl wb.heap.size wb).drew)
  obtain ⟨c0, c1, c2, -⟩ := (HE.out.next ((Below.refl _ wb).drew)).row.three
  have X1 := Lib.hid ((Below.refl wb.heap.size wb).drew)
  have X2 := Lib.hid ((ext1 wb E0).drew)
  have X3 := Lib.hid ((ext1 wb Z0).drew)
  have X4 := Lib.hid ((ext2 wb E0 Z0).drew)
  have X5 := Lib.hid ((ext2 wb Z0 E0).drew)
  have K1 := Lib.hid (HBW.out.trans (X1.out.mono HBW.out.size))
  have K2 := Lib.hid (HBW.out.trans (X2.out.mono HBW.out.size))
  have K3 := Lib.hid (HBW.out.trans (X3.out.mono HBW.out.size))
  have K4 := Lib.hid (HBW.out.trans (X4.out.mono HBW.out.size))
  have K5 := Lib.hid (HBW.out.trans (X5.out.mono HBW.out.size))
  obtain ⟨a10, a11, a12, -⟩ := (HE.out.next X1.out).row.three
  obtain ⟨a20, a21, a22, -⟩ := (HE.out.next X2.out).row.three
  obtain ⟨a30, a31, a32, -⟩ := (HE.out.next X3.out).row.three
  obtain ⟨a40, a41, a42, -⟩ := (HE.out.next X4.out).row.three
  obtain ⟨a50, a51, a52, -⟩ := (HE.out.next X5.out).row.three
  clear hE hin hin2 hm hm2 hlen hl hwb hsb HD0 c0 c1 c2
  go_enter Try.func32, Try.ntmps32
  go_upto_region 1 with fail
  rw [HW.out]
  go_cut [8, 9] (fun v gv wx => ∃ g qx cx, gv = .pointer (some ⟨g, 0, none⟩) ∧ Hid (PkB wb wb.heap.size v g (.int .i64 n) (.bool ring) (.slice qx m0 cx) (ints (tk n S)) wx))
  case first =>
    go_region_held3 (fun w' => w'.cell? ⟨w.heap.size, 0, none⟩ = some (.int .i64 n) ∧ w'.cell? ⟨w.heap.size, 1, none⟩ = some (.bool ring) ∧ w'.cell? ⟨w.heap.size, 2, none⟩ = some (.slice p m0 cap)) ((first | with_reducible exact ⟨a10, a11, a12⟩ | with_reducible exact ⟨a20, a21, a22⟩ | with_reducible exact ⟨a30, a31, a32⟩ | with_reducible exact ⟨a40, a41, a42⟩ | with_reducible exact ⟨a50, a51, a52⟩ | with_reducible exact ⟨d0, d1, d2⟩ | with_reducible exact ⟨e0, e1, e2⟩ | with_reducible exact ⟨cell_allocK e0, cell_allocK e1, cell_allocK e2⟩ | with_reducible exact ⟨cell_allocK (cell_allocK e0), cell_allocK (cell_allocK e1), cell_allocK (cell_allocK e2)⟩ | (obtain ⟨s0, s1, s2⟩ := (by assumption : _ ∧ _ ∧ _); with_reducible exact ⟨cell_allocK s0, cell_allocK s1, cell_allocK s2⟩) | (obtain ⟨s0, s1, s2⟩ := (by assumption : _ ∧ _ ∧ _); have g1 := HSB.out; have g2 := HB1.out.size; have g3 := HB2.out.size; with_reducible exact ⟨cell_set3K s0 (by omega), cell_set3K s1 (by omega), cell_set3K s2 (by omega)⟩))) (first
      | (go_at_call 43; refine (MK.out _ (by first | with_reducible exact K1.out | with_reducible exact K2.out | with_reducible exact K3.out | with_reducible exact K4.out | with_reducible exact K5.out)).mono ?_; rintro e w1 ⟨g, k1, rfl, hg, hk1, hk2, hO, hb⟩; have HB1 : Hid (Below wb.heap.size wb w1) := (by show Below _ _ _; first | with_reducible exact past X1.out X1.out.size hb | with_reducible exact past X2.out X2.out.size hb | with_reducible exact past X3.out X3.out.size hb | with_reducible exact past X4.out X4.out.size hb | with_reducible exact past X5.out X5.out.size hb); have HO1 : Hid (Out wb.heap.size w1 (.slice (some ⟨g, 0, none⟩) m0 k1) (ints (tk n S))) := (by show Out _ _ _ _; first | with_reducible exact hO.mono X1.out.size | with_reducible exact hO.mono X2.out.size | with_reducible exact hO.mono X3.out.size | with_reducible exact hO.mono X4.out.size | with_reducible exact hO.mono X5.out.size); have HG1 : Hid (g < w1.heap.size) := (by show _ < _; exact (World.ownsRow.lt hO _ rfl).2); (first | (have hz := (by with_reducible exact nil_row_atD (B := wb.heap.size) (Nat.le_refl _) hb); have HN := Lib.hid hz.1; have HZ := Lib.hid hz.2; have HNE : Hid (wb.heap.size ≠ g) := (by show _ ≠ _; have h : ((wb.alloc E0).alloc Z0).heap.size ≤ g := hg; simp at h; omega); clear hz) | (have hz := (by with_reducible exact row_nil_atD (B := wb.heap.size) (Nat.le_refl _) hb); have HN := Lib.hid hz.1; have HZ := Lib.hid hz.2; have HNE : Hid (wb.heap.size + 1 ≠ g) := (by show _ ≠ _; have h : ((wb.alloc Z0).alloc E0).heap.size ≤ g := hg; simp at h; omega); clear hz) | (have HN := Lib.hid (by with_reducible exact nil_atD (B := wb.heap.size) (w := wb) (Nat.le_refl _) hb); have HNE : Hid (wb.heap.size ≠ g) := (by show _ ≠ _; have h : (wb.alloc E0).heap.size ≤ g := hg; simp at h; omega)) | (have HZ := Lib.hid (by with_reducible exact row_atD (w := wb) hb)) | skip); obtain ⟨d0, d1, d2, -⟩ := (HE.out.next HB1.out).row.three; clear hg hk1 hk2 hO hb)
      | (go_at_call 42; refine (l2Made_any _ _ _ _ _ _ _ _ _).mono ?_; rintro e w2 ⟨rfl, hb⟩; have HK : Hid (Below w1.heap.size w1 w2) := (by show Below _ _ _; first | with_reducible exact hb | with_reducible exact past (ext1 w1 E0) (ext1 w1 E0).size hb | with_reducible exact past (ext1 w1 Z0) (ext1 w1 Z0).size hb | with_reducible exact past (ext2 w1 E0 Z0) (ext2 w1 E0 Z0).size hb | with_reducible exact past (ext2 w1 Z0 E0) (ext2 w1 Z0 E0).size hb); have HB2 := Lib.hid (HB1.out.trans (HK.out.mono HB1.out.size)); have HO2 := Lib.hid (HO1.out.below HK.out); (first | (have HN := Lib.hid (HN.out.below HK.out)) | skip); (first | (have HZ := Lib.hid (HZ.out.below HK.out HZ.out.lt)) | skip); (first | (have hz := (by with_reducible exact nil_row_at (B := wb.heap.size) HB1.out.size hb); have HN := Lib.hid hz.1; have HZ := Lib.hid hz.2; have HNE : Hid (w1.heap.size ≠ g) := (by show _ ≠ _; have := HG1.out; omega); clear hz) | (have hz := (by with_reducible exact row_nil_at (B := wb.heap.size) HB1.out.size hb); have HN := Lib.hid hz.1; have HZ := Lib.hid hz.2; have HNE : Hid (w1.heap.size + 1 ≠ g) := (by show _ ≠ _; have := HG1.out; omega); clear hz) | (have HN := Lib.hid (by with_reducible exact nil_at (B := wb.heap.size) (w := w1) HB1.out.size hb); have HNE : Hid (w1.heap.size ≠ g) := (by show _ ≠ _; have := HG1.out; omega)) | (have HZ := Lib.hid (by with_reducible exact row_at (w := w1) hb)) | skip); obtain ⟨e0, e1, e2, -⟩ := (HE.out.next HB2.out).row.three; clear hb; (try obtain ⟨z0, z1, z2, y0, y1, y2⟩ := HZ.out.three); (try obtain ⟨p0, p1, p2, r0, r1, r2⟩ := (HZ.out.alloc E0).three); obtain ⟨t0, t1, t2, v0, v1, v2⟩ := ((OwnArr.made w2 26 ZC).alloc E0).three))
    all_goals
      go_wp2_with fail
      go_meet
      first
        | with_reducible exact ⟨_, some ⟨g, 0, none⟩, k1, rfl, Lib.hid (PkB.store (by have := HB1.out.size; have := HB2.out.size; omega) HZ.out HO2.out HN.out HB2.out (ne_own HNE.out))⟩
        | with_reducible exact ⟨_, some ⟨g, 0, none⟩, k1, rfl, Lib.hid (PkB.row rfl HB2.out.size HO2.out HN.out HB2.out (ne_own HNE.out))⟩
        | with_reducible exact ⟨_, some ⟨g, 0, none⟩, k1, rfl, Lib.hid (PkB.store (by have := HB1.out.size; have := HB2.out.size; omega) (HZ.out.alloc E0) (World.ownsRow.alloc HO2.out _) ((Out.nilLit w2).mono HB2.out.size) (HB2.out.alloc HB2.out.size _) (ne_own (by have := HG1.out; have := HK.out.size; omega)))⟩
        | with_reducible exact ⟨_, some ⟨g, 0, none⟩, k1, rfl, Lib.hid (PkB.nilS (by simp [World.setCell]) (by have := HB1.out.size; have := HB2.out.size; omega) HZ.out HO2.out HB2.out (ne_own (by have := HG1.out; have := HK.out.size; omega)))⟩
        | with_reducible exact ⟨_, some ⟨g, 0, none⟩, k1, rfl, Lib.hid (PkB.row (wx := w2.alloc E0) (by simp) (by have := HB2.out.size; simp; omega) (World.ownsRow.alloc HO2.out _) ((Out.nilLit w2).mono HB2.out.size) (HB2.out.alloc HB2.out.size _) (ne_own (by have := HG1.out; have := HK.out.size; omega)))⟩
        | with_reducible exact ⟨_, some ⟨g, 0, none⟩, k1, rfl, Lib.hid (PkB.nil (by simp) HB2.out.size (OwnArr.made w2 26 [.int .i64 (n : Int), .bool ring, .slice (some ⟨g, 0, none⟩) m0 k1]) (World.ownsRow.alloc HO2.out _) (HB2.out.alloc HB2.out.size _) (ne_own (by have := HG1.out; have := HK.out.size; omega)))⟩
        | with_reducible exact ⟨_, some ⟨g, 0, none⟩, k1, rfl, Lib.hid (PkB.two rfl rfl HB2.out.size HO2.out HB2.out (ne_own (by have := HG1.out; have := HK.out.size; omega)))⟩
  case rest =>
    obtain ⟨g, qx, cx, rfl, HP⟩ := hcut
    obtain ⟨v0, rfl⟩ := HP.out.name
    have hg0 := HP.out.1
    have hg2 : w.heap.size + 2 ≤ g := by have := HSB.out; omega
    have HE0 := Lib.hid (HE.out.next HP.out.2.2.2.2.1)
    have HX0 := Lib.hid HP.out.2.1
    have HO0 : Hid (Out (w.heap.size + 2) wc v0 (pkM n ring kk S l 0)) := by show Out _ _ _ _; exact HP.out.2.2.2.1.mono HSB.out
    have HT0 : Hid (Out (w.heap.size + 2) wc (.slice qx m0 cx) (ints (tk n (stM n ring kk S l 0)))) := by show Out _ _ _ _; exact HP.out.2.2.1.mono HSB.out
    have HV0 := Lib.hid HP.out.2.2.2.2.2
    clear HP hg0 HE X1 X2 X3 X4 X5 K1 K2 K3 K4 K5 a10 a11 a12 a20 a21 a22 a30 a31 a32 a40 a41 a42 a50 a51 a52 MK HW HSB HBW
    go_wp2_with fail
    go_loopw [8, 10, 11] (fun v i _ wr => ∃ (j : Nat) (qx : Option Addr) (k cx : Nat), j ≤ m ∧ i = .int .i64 (j : Int) ∧ Hid ((ints (tk n (stM n ring kk S l j))).length = k) ∧ Hid (Beg w n ring p m0 cap wr) ∧ Hid (OwnArr wr g 26 [.int .i64 n, .bool ring, .slice qx k cx]) ∧ Hid (Out (w.heap.size + 2) wr v (pkM n ring kk S l j)) ∧ Hid (Out (w.heap.size + 2) wr (.slice qx k cx) (ints (tk n (stM n ring kk S l j)))) ∧ Hid (∀ b, v.ownBlock = some b → (Value.slice qx k cx).ownBlock ≠ some b)) (fun _ i _ _ => m - (intOf i).toNat)
    case atStart => exact ⟨0, qx, m0, cx, Nat.zero_le _, rfl, HM, HE0, HX0, HO0, HT0, HV0⟩
    case round =>
      obtain ⟨j, qx, k, cx, hj, rfl, HK, HE, HX, HO, HT, HV⟩ := hrel
      clear HE0 HX0 HO0 HT0 HV0 HM
      obtain ⟨c0, c1, c2, -⟩ := HX.out.three
      by_cases hlt : j < m
      · have hj1 : (j : Int) < (m : Int) := by omega
        have hj0 : (0 : Int) ≤ (j : Int) := by omega
        have hjl : j < l.length := by rw [HLM.out]; exact hlt
        obtain ⟨b, off, rfl, -, -, hbw, hc⟩ := (HI2.out wr HE.out.bel).int (by rw [ints_length]; omega)
        have h0 := hc j (by rw [ints_length]; exact hjl)
        rw [ints_get hjl] at h0
        have hxn := HL.out _ (nat_mem hjl)
        have hpk := pk_succ n ring kk S l j
        have hst := st_succ n ring kk S l j
        have hcl := fun q => car_lt (ring := ring) (k := kk) (S := S) (j := j) (q := q) HL.out hjl
        have hcd : carM n ring kk S l j = bckM n ring (stM n ring kk S l j) (l[j]?.getD 0) kk := rfl
        have HL2 := Lib.hid (pk_len n ring kk S l j)
        have hkn : k ≤ 24 := by have := HK.out; have := ints_tk_len n (stM n ring kk S l j); omega
        obtain ⟨x, hx⟩ : ∃ x, l[j]?.getD 0 = x := ⟨_, rfl⟩
        rw [hx] at h0 hxn hcd
        have BK := l6Back_any n ring qx cx (stM n ring kk S l j) x kk wr.drew _ _ (HT.out.riK.bel ((Below.refl _ wr).drew)) hn hxn hkk
        rw [HK.out, ← hcd] at BK
        obtain ⟨C, hC⟩ : ∃ C, carM n ring kk S l j = C := ⟨_, rfl⟩
        rw [hC] at BK hpk hst hcl
        replace BK := Lib.hid BK
        have HPK := Lib.hid hpk
        have HST := Lib.hid hst
        have HCL := Lib.hid hcl
        clear hc hbw hx hpk hst hcl hcd hC
        go_wp2_with fail
        go_still_tail 6, (by kernel_rfl)
        change wpList _ _ _ _ _ wr.drew
        go_wp2_with fail
        refine BK.out.mono ?_
        rintro e w2 ⟨rfl, hb2⟩
        have hb3 : Below wr.heap.size wr w2 := ((Below.refl _ wr).drew).trans hb2
        have HE2 := Lib.hid (HE.out.next hb3)
        have HX2 := Lib.hid (HX.out.below hb3 HX.out.lt)
        have HO2 := Lib.hid (HO.out.below hb3)
        have HT2 := Lib.hid (HT.out.below hb3)
        clear hb2 hb3 HE HX HO HT BK c0 c1 c2 h0
        cases C with
        | none =>
          have HTQ : Hid (stM n ring kk S l (j + 1) = stM n ring kk S l j) := by show _ = _; rw [HST.out]; rfl
          simp only [optI] at HPK ⊢
          clear HST HCL
          have hblk := Lib.hid (own_block HO2.out)
          have hsz := HX2.out.lt
          have hneX := Lib.hid (own_ne HO2.out HX2.out)
          have hb2s := HE2.out.res.lt
          obtain ⟨l2, vs, hl2, hvs, hown⟩ := HO2.out.open'
          have hlk := HL2.out
          rw [hl2] at hlk
          replace hl2 := Lib.hid hl2
          replace hvs := Lib.hid hvs
          go_wp2_with (at_builtin; refine wpList_append_own_at _ rfl _ _ 22 rfl (w.heap.size + 2) 3 i0 (.int .i64 0) 1 8 Try.underlying22 hi0 hz0 hz1 hz2 rfl (by decide) _ _ _ rfl (hown.alloc _) ⟨w2.heap.size, 0, none⟩ 1 1 [.int .i64 ((-1 : Int))] rfl rfl (cell_one_new _ _ _) (fun x hx => by simp at hx; subst hx; rfl) (by unfold maxLen; omega) (by omega) (by simp; omega) ?_; intro v' w3 hown' hgrow3 hnil3 hat3; have HX3 := Lib.hid ((HX2.out.alloc (.cells #[.int .i64 ((-1 : Int))] 3)).grown hgrow3 hneX.out); obtain ⟨c0, c1, c2, -⟩ := HX3.out.three)
          have hG : Below (w.heap.size + 2) w2 w3 := ((Below.refl (w.heap.size + 2) w2).alloc (by omega) _).grown hgrow3 (by simp; omega) hblk.out
          have HE3 := Lib.hid (HE2.out.next2 hG)
          have HO3 : Hid (Out (w.heap.size + 2) w3 v' (pkM n ring kk S l (j + 1))) := by
            show Out _ _ _ _
            rw [HPK.out]; exact Out.close hl2.out hvs.out hown'
          have HT3 : Hid (Out (w.heap.size + 2) w3 (.slice qx k cx) (ints (tk n (stM n ring kk S l j)))) := World.ownsRow.kept (World.ownsRow.alloc HT2.out _) hgrow3 (not_own HV.out)
          have HV3 : Hid (∀ b, v'.ownBlock = some b → (Value.slice qx k cx).ownBlock ≠ some b) := by
            show ∀ _, _
            intro b hb hc
            rcases hat3 with h | h
            · rw [h] at hb; exact HV.out b hb hc
            · rw [h] at hb
              have h1 := (World.ownsRow.lt HT2.out b hc).2
              simp at hb
              omega
          clear hown' hgrow3 hnil3 hat3 hown hG hblk hneX HX2 HO2 HT2 HE2 HV hb2s hsz
          rw [← HTQ.out] at HK HT3
          clear HTQ
          go_wp2_with fail
          go_roundw
          case rel => exact ⟨j + 1, qx, k, cx, by omega, by go_num, HK, HE3, HX3, HO3, HT3, HV3⟩
          case measure => simp [intOf]; omega
        | some y =>
          obtain ⟨hyn, hyf⟩ := HCL.out y rfl
          have HYF := Lib.hid hyf
          have hy0 : (0 : Int) ≤ (y : Int) := by omega
          simp only [optI] at HPK ⊢
          clear HCL hyf
          have hblk := Lib.hid (own_block HO2.out)
          have hsz := HX2.out.lt
          have hneX := Lib.hid (own_ne HO2.out HX2.out)
          have hb2s := HE2.out.res.lt
          obtain ⟨l2, vs, hl2, hvs, hown⟩ := HO2.out.open'
          have hlk := HL2.out
          rw [hl2] at hlk
          replace hl2 := Lib.hid hl2
          replace hvs := Lib.hid hvs
          go_wp2_with (at_builtin; refine wpList_append_own_at _ rfl _ _ 22 rfl (w.heap.size + 2) 3 i0 (.int .i64 0) 1 8 Try.underlying22 hi0 hz0 hz1 hz2 rfl (by decide) _ _ _ rfl (hown.alloc _) ⟨w2.heap.size, 0, none⟩ 1 1 [.int .i64 ((y : Int))] rfl rfl (cell_one_new _ _ _) (fun x hx => by simp at hx; subst hx; rfl) (by unfold maxLen; omega) (by omega) (by simp; omega) ?_; intro v' w3 hown' hgrow3 hnil3 hat3; have HX3 := Lib.hid ((HX2.out.alloc (.cells #[.int .i64 ((y : Int))] 3)).grown hgrow3 hneX.out); obtain ⟨c0, c1, c2, -⟩ := HX3.out.three)
          have hG : Below (w.heap.size + 2) w2 w3 := ((Below.refl (w.heap.size + 2) w2).alloc (by omega) _).grown hgrow3 (by simp; omega) hblk.out
          have HE3 := Lib.hid (HE2.out.next2 hG)
          have HO3 : Hid (Out (w.heap.size + 2) w3 v' (pkM n ring kk S l (j + 1))) := by
            show Out _ _ _ _
            rw [HPK.out]; exact Out.close hl2.out hvs.out hown'
          have HT3 : Hid (Out (w.heap.size + 2) w3 (.slice qx k cx) (ints (tk n (stM n ring kk S l j)))) := World.ownsRow.kept (World.ownsRow.alloc HT2.out _) hgrow3 (not_own HV.out)
          have HV3 : Hid (∀ b, v'.ownBlock = some b → (Value.slice qx k cx).ownBlock ≠ some b) := by
            show ∀ _, _
            intro b hb hc
            rcases hat3 with h | h
            · rw [h] at hb; exact HV.out b hb hc
            · rw [h] at hb
              have h1 := (World.ownsRow.lt HT2.out b hc).2
              simp at hb
              omega
          clear hown' hgrow3 hnil3 hat3 hown hG hblk hneX HX2 HO2 HT2 HE2 HV hb2s hsz
          have WA := with_any n ring qx cx (ints (tk n (stM n ring kk S l j))) y w3 _ _ HT3.out.riK (by rw [HK.out]; omega) (by
            rw [mem_ints_tk]
            rintro ⟨i, h1, _, h3⟩
            have : i = y := by omega
            rw [this, HYF.out] at h3; cases h3)
          have hts : putM (y : Int) (ints (tk n (stM n ring kk S l j))) = ints (tk n (stM n ring kk S l (j + 1))) := by rw [take_spec hyn HYF.out, HST.out]; rfl
          have hlen1 := putM_length (y : Int) (ints (tk n (stM n ring kk S l j)))
          rw [hts, HK.out] at hlen1
          rw [hts, HK.out] at WA
          replace WA := Lib.hid WA
          have HK4 := Lib.hid hlen1
          clear hts hlen1 HST HT3 HV3
          refine WA.out.mono ?_
          rintro e w4 ⟨u, rfl, hT4, hb4⟩
          have HE4 := Lib.hid (HE3.out.next hb4)
          have HX4 := Lib.hid (HX3.out.below hb4 HX3.out.lt)
          have HO4 := Lib.hid (HO3.out.below hb4)
          obtain ⟨q4, c4, rfl, -⟩ := hT4.rd
          rw [HK4.out] at hT4 ⊢
          have HV5 : Hid (∀ b, v'.ownBlock = some b → (Value.slice q4 (k + 1) c4).ownBlock ≠ some b) := by
            show ∀ _, _
            intro b hb hc
            have h1 := (World.ownsRow.lt HO3.out b hb).2
            have h2 := own_block hT4 b hc
            omega
          have HT5 := Lib.hid ((hT4.mono (B' := w.heap.size + 2) (by have := HE3.out.res.lt; omega)).boxed HX4.out (.int .i64 (n : Int)) (.bool ring) (.slice q4 (k + 1) c4))
          have HO5 := Lib.hid (HO4.out.boxed HX4.out (.int .i64 (n : Int)) (.bool ring) (.slice q4 (k + 1) c4))
          have HX5 := Lib.hid (((HX4.out.set 0 (.int .i64 (n : Int))).set 1 (.bool ring)).set 2 (.slice q4 (k + 1) c4))
          have HE5 := Lib.hid (HE4.out.next2 ((((Below.refl (w.heap.size + 2) w4).setCell (p := ⟨g, 0, none⟩) hg2 (.int .i64 (n : Int))).setCell (p := ⟨g, 1, none⟩) hg2 (.bool ring)).setCell (p := ⟨g, 2, none⟩) hg2 (.slice q4 (k + 1) c4)))
          clear c0 c1 c2
          obtain ⟨c0, c1, c2, y0, y1, y2⟩ := HX4.out.three
          clear hT4 hb4 WA HE3 HX3 HO3 HE4 HX4 HO4 HK
          go_wp2_with fail
          go_roundw
          case rel => exact ⟨j + 1, q4, k + 1, c4, by omega, by go_num, HK4, HE5, HX5, HO5, HT5, HV5⟩
          case measure => simp [intOf]; omega
      · have hjm : j = m := by omega
        subst hjm
        have hj1 : ¬ (j : Int) < (j : Int) := by omega
        obtain ⟨z0, z1, z2, y0, y1, y2⟩ := HE.out.res.three
        go_wp2_with fail
        go_region
        all_goals
          go_wp2_with fail
          exact ret_rowK Try.results32 rfl rfl (HE.out.out _ _ _).1 rfl ⟨_, _, rfl, (HO.out.boxed HE.out.res _ _ _).mono (by omega), (HT.out.boxed HE.out.res _ _ _).mono (by omega), (HE.out.out _ _ _).2.drew⟩
end Go.Proofs.Ytgalopbpbhlcdaa
