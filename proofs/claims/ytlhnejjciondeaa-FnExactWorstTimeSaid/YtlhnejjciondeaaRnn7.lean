/- Chapter 7, spec side: the memory of a boarding. Plain lemmas. Chapter 7, spec side: spec.l7Act. Chapter 7, spec side: spec.l7Run, given spec.l7Start. Chapter 7, spec side: spec.l7Run, given spec.l7Start. -/
import Derived.Test.YtlhnejjciondeaaBrdM7
import Derived.Test.YtlhnejjciondeaaOwnArr
import Derived.Test.YtlhnejjciondeaaOut
import Derived.Test.YtlhnejjciondeaaHasS
import Derived.StillTailTactics
section
namespace Go.Proofs.Ytlhnejjciondeaa
open Go.RowKit

/-- block g holds F's first n numbers -/
def IA (w : World) (g n : Nat) (K : Nat → Nat) (F : Nat → Int) : Prop := ∃ vs, OwnArr w g 3 vs ∧ (n ≤ vs.length ∧ vs.length = K g) ∧ ∀ j, j < n → vs[j]? = some (.int .i64 (F j))
theorem IA.lt {w : World} {g n : Nat} {K : Nat → Nat} {F : Nat → Int} (h : IA w g n K F) : g < w.heap.size := by
  obtain ⟨_, h, -⟩ := h; exact h.lt
theorem IA.cell {w : World} {g n : Nat} {K : Nat → Nat} {F : Nat → Int} (h : IA w g n K F) {j : Nat} (hj : j < n) : w.cell? ⟨g, j, none⟩ = some (.int .i64 (F j)) := by
  obtain ⟨vs, h, -, hc⟩ := h
  rw [h.cell]; exact hc j hj
theorem IA.free {w : World} {g n : Nat} {K : Nat → Nat} {F : Nat → Int} (h : IA w g n K F) (j : Nat) : w.frozen? ⟨g, j, none⟩ = false := by
  obtain ⟨vs, h, -⟩ := h; exact h.free j
theorem IA.set {w : World} {g n : Nat} {K : Nat → Nat} {F : Nat → Int} (h : IA w g n K F) (i : Nat) (v : Int) : IA (w.setCell ⟨g, i, none⟩ (.int .i64 v)) g n K (updI F i v) := by
  obtain ⟨vs, h, hl, hc⟩ := h
  refine ⟨_, h.set i _, by rw [List.length_set]; exact hl, fun j hj => ?_⟩
  rw [List.getElem?_set]
  by_cases e : i = j
  · subst e; rw [if_pos rfl, if_pos (by have := hl.1; omega), upd_at]
  · rw [if_neg e, upd_ne (fun e' => e e'.symm)]; exact hc j hj
theorem OwnArr.other7 {w : World} {g : Nat} {e : TypeId} {xs : List Value} (h : OwnArr w g e xs) {b i : Nat} (hb : g ≠ b) (v : Value) : OwnArr (w.setCell ⟨b, i, none⟩ v) g e xs := by
  unfold OwnArr at *
  rw [Below.heap_setCell w ⟨b, i, none⟩ v g hb]; exact h
theorem IA.other {w : World} {g n : Nat} {K : Nat → Nat} {F : Nat → Int} (h : IA w g n K F) {b i : Nat} (hb : g ≠ b) (v : Value) : IA (w.setCell ⟨b, i, none⟩ v) g n K F := by
  obtain ⟨vs, h, r⟩ := h
  exact ⟨vs, h.other7 hb v, r⟩
theorem IA.alloc {w : World} {g n : Nat} {K : Nat → Nat} {F : Nat → Int} (h : IA w g n K F) (o : Obj) : IA (w.alloc o) g n K F := by
  obtain ⟨vs, h, r⟩ := h
  exact ⟨vs, h.alloc o, r⟩
theorem IA.below {w w' : World} {g n B : Nat} {K : Nat → Nat} {F : Nat → Int} (h : IA w g n K F) (hb : Below B w w') (hg : g < B) : IA w' g n K F := by
  obtain ⟨vs, h, r⟩ := h
  exact ⟨vs, h.below hb hg, r⟩
theorem IA.drew {w : World} {g n : Nat} {K : Nat → Nat} {F : Nat → Int} (h : IA w g n K F) : IA w.drew g n K F := h
theorem IA.congr {w : World} {g n : Nat} {K : Nat → Nat} {F G : Nat → Int} (h : IA w g n K F) (e : ∀ j, j < n → F j = G j) : IA w g n K G := by
  obtain ⟨vs, h, hl, hc⟩ := h
  exact ⟨vs, h, hl, fun j hj => by rw [hc j hj, e j hj]⟩

def dis6 (a b c d e f : Nat) : Prop := (a ≠ b ∧ a ≠ c ∧ a ≠ d ∧ a ≠ e ∧ a ≠ f) ∧ (b ≠ c ∧ b ≠ d ∧ b ≠ e ∧ b ≠ f) ∧ (c ≠ d ∧ c ≠ e ∧ c ≠ f) ∧ (d ≠ e ∧ d ≠ f) ∧ e ≠ f
/-- the six rows of numbers of a cabin -/
structure Cabs (w : World) (n : Nat) (K : Nat → Nat) (a b c d e f : Nat) (C : Cab) : Prop where
  dis : dis6 a b c d e f
  ai : IA w a n K C.ai
  at_ : IA w b n K C.at_
  st : IA w c n K C.st
  en : IA w d n K C.en
  sa : IA w e n K C.sa
  wa : IA w f n K C.wa
section
variable {w : World} {n : Nat} {K : Nat → Nat} {a b c d e f : Nat} {C : Cab}
theorem Cabs.sub (h : Cabs w n K a b c d e f C) (w' : World) (hk : ∀ g F, g < w.heap.size → IA w g n K F → IA w' g n K F) : Cabs w' n K a b c d e f C :=
  ⟨h.dis, hk _ _ h.ai.lt h.ai, hk _ _ h.at_.lt h.at_, hk _ _ h.st.lt h.st, hk _ _ h.en.lt h.en, hk _ _ h.sa.lt h.sa, hk _ _ h.wa.lt h.wa⟩
theorem Cabs.alloc (h : Cabs w n K a b c d e f C) (o : Obj) : Cabs (w.alloc o) n K a b c d e f C := h.sub _ fun _ _ _ h => h.alloc o
theorem Cabs.drew (h : Cabs w n K a b c d e f C) : Cabs w.drew n K a b c d e f C := ⟨h.dis, h.ai.drew, h.at_.drew, h.st.drew, h.en.drew, h.sa.drew, h.wa.drew⟩
theorem Cabs.below (h : Cabs w n K a b c d e f C) {w' : World} (hb : Below w.heap.size w w') : Cabs w' n K a b c d e f C := h.sub _ fun _ _ hg h => h.below hb hg
theorem Cabs.other (h : Cabs w n K a b c d e f C) {k i : Nat} (hk : a ≠ k ∧ b ≠ k ∧ c ≠ k ∧ d ≠ k ∧ e ≠ k ∧ f ≠ k) (v : Value) : Cabs (w.setCell ⟨k, i, none⟩ v) n K a b c d e f C :=
  ⟨h.dis, h.ai.other hk.1 v, h.at_.other hk.2.1 v, h.st.other hk.2.2.1 v, h.en.other hk.2.2.2.1 v, h.sa.other hk.2.2.2.2.1 v, h.wa.other hk.2.2.2.2.2 v⟩
theorem Cabs.setA (h : Cabs w n K a b c d e f C) (i : Nat) (v : Int) : Cabs (w.setCell ⟨a, i, none⟩ (.int .i64 v)) n K a b c d e f { C with ai := updI C.ai i v } := by
  obtain ⟨⟨h1, h2, h3, h4, h5⟩, -⟩ := h.dis
  exact ⟨h.dis, h.ai.set i v, h.at_.other h1.symm _, h.st.other h2.symm _, h.en.other h3.symm _, h.sa.other h4.symm _, h.wa.other h5.symm _⟩
theorem Cabs.setB (h : Cabs w n K a b c d e f C) (i : Nat) (v : Int) : Cabs (w.setCell ⟨b, i, none⟩ (.int .i64 v)) n K a b c d e f { C with at_ := updI C.at_ i v } := by
  obtain ⟨⟨h1, -⟩, ⟨h2, h3, h4, h5⟩, -⟩ := h.dis
  exact ⟨h.dis, h.ai.other h1 _, h.at_.set i v, h.st.other h2.symm _, h.en.other h3.symm _, h.sa.other h4.symm _, h.wa.other h5.symm _⟩
theorem Cabs.setC (h : Cabs w n K a b c d e f C) (i : Nat) (v : Int) : Cabs (w.setCell ⟨c, i, none⟩ (.int .i64 v)) n K a b c d e f { C with st := updI C.st i v } := by
  obtain ⟨⟨-, h1, -⟩, ⟨h2, -⟩, ⟨h3, h4, h5⟩, -⟩ := h.dis
  exact ⟨h.dis, h.ai.other h1 _, h.at_.other h2 _, h.st.set i v, h.en.other h3.symm _, h.sa.other h4.symm _, h.wa.other h5.symm _⟩
theorem Cabs.setD (h : Cabs w n K a b c d e f C) (i : Nat) (v : Int) : Cabs (w.setCell ⟨d, i, none⟩ (.int .i64 v)) n K a b c d e f { C with en := updI C.en i v } := by
  obtain ⟨⟨-, -, h1, -⟩, ⟨-, h2, -⟩, ⟨h3, -⟩, ⟨h4, h5⟩, -⟩ := h.dis
  exact ⟨h.dis, h.ai.other h1 _, h.at_.other h2 _, h.st.other h3 _, h.en.set i v, h.sa.other h4.symm _, h.wa.other h5.symm _⟩
theorem Cabs.setE (h : Cabs w n K a b c d e f C) (i : Nat) (v : Int) : Cabs (w.setCell ⟨e, i, none⟩ (.int .i64 v)) n K a b c d e f { C with sa := updI C.sa i v } := by
  obtain ⟨⟨-, -, -, h1, -⟩, ⟨-, -, h2, -⟩, ⟨-, h3, -⟩, ⟨h4, -⟩, h5⟩ := h.dis
  exact ⟨h.dis, h.ai.other h1 _, h.at_.other h2 _, h.st.other h3 _, h.en.other h4 _, h.sa.set i v, h.wa.other h5.symm _⟩
theorem Cabs.setF (h : Cabs w n K a b c d e f C) (i : Nat) (v : Int) : Cabs (w.setCell ⟨f, i, none⟩ (.int .i64 v)) n K a b c d e f { C with wa := updI C.wa i v } := by
  obtain ⟨⟨-, -, -, -, h1⟩, ⟨-, -, -, h2⟩, ⟨-, -, h3⟩, ⟨-, h4⟩, h5⟩ := h.dis
  exact ⟨h.dis, h.ai.other h1 _, h.at_.other h2 _, h.st.other h3 _, h.en.other h4 _, h.sa.other h5 _, h.wa.set i v⟩
end
end Go.Proofs.Ytlhnejjciondeaa
end

section
namespace Go.Proofs.Ytlhnejjciondeaa
open Go.RowKit

/-- a cabin, as it is handed on -/
abbrev cabL (n : Nat) (K : Nat → Nat) (a b c d e f : Nat) : List Value := [.slice (some ⟨a, 0, none⟩) n (K a), .slice (some ⟨b, 0, none⟩) n (K b), .slice (some ⟨c, 0, none⟩) n (K c), .slice (some ⟨d, 0, none⟩) n (K d), .slice (some ⟨e, 0, none⟩) n (K e), .slice (some ⟨f, 0, none⟩) n (K f)]
/-- what lies in other blocks stays -/
def Kept7 (a b c d e f : Nat) (w w' : World) : Prop := ∀ g T xs, (a ≠ g ∧ b ≠ g ∧ c ≠ g ∧ d ≠ g ∧ e ≠ g ∧ f ≠ g) → OwnArr w g T xs → OwnArr w' g T xs
def from6 (B a b c d e f : Nat) : Prop := B ≤ a ∧ B ≤ b ∧ B ≤ c ∧ B ≤ d ∧ B ≤ e ∧ B ≤ f

set_option maxRecDepth 4000 in
set_option maxHeartbeats 8000000 in
theorem l7Act_any (n : Nat) (K : Nat → Nat) (a b c d e f row : Nat) (t s : Int) (C : Cab) (w : World) (B : Nat) (hW : Cabs w n K a b c d e f C) (hB : from6 B a b c d e f) (hBs : B ≤ w.heap.size) (hrow : row < n) (hn : n ≤ 10) (hI : Inv7 n s C) (hs : s ≤ 5) (hw : 0 ≤ C.wa row ∧ C.wa row ≤ 100000) :
    Calls Try.prog 60 #[.agg #[.slice (some ⟨a, 0, none⟩) n (K a), .slice (some ⟨b, 0, none⟩) n (K b), .slice (some ⟨c, 0, none⟩) n (K c), .slice (some ⟨d, 0, none⟩) n (K d), .slice (some ⟨e, 0, none⟩) n (K e), .slice (some ⟨f, 0, none⟩) n (K f)], .int .i64 (row : Nat), .int .i64 t, .int .i64 s] w fun E w' => E = .returned (.tuple #[]) ∧ Cabs w' n K a b c d e f (act7 s t row C) ∧ Below B w w' ∧ (Kept7 a b c d e f w w') := by
  obtain ⟨w1, hw1⟩ : ∃ w1, w.alloc (.cells #[.slice (some ⟨a, 0, none⟩) n (K a), .slice (some ⟨b, 0, none⟩) n (K b), .slice (some ⟨c, 0, none⟩) n (K c), .slice (some ⟨d, 0, none⟩) n (K d), .slice (some ⟨e, 0, none⟩) n (K e), .slice (some ⟨f, 0, none⟩) n (K f)] 65) = w1 := ⟨_, rfl⟩
  have hX : OwnArr w1 w.heap.size 65 (cabL n K a b c d e f) := by rw [← hw1]; exact OwnArr.made w _ (cabL n K a b c d e f)
  have hb1 : Below B w w1 := by rw [← hw1]; exact (Below.refl _ _).alloc hBs _
  have hC : Cabs w1 n K a b c d e f C := by rw [← hw1]; exact hW.alloc _
  have hdis := hC.dis
  have kp : Kept7 a b c d e f w w1 := by
    intro g T xs _ h
    rw [← hw1]; exact h.alloc _
  have hlt : a ≠ w.heap.size ∧ b ≠ w.heap.size ∧ c ≠ w.heap.size ∧ d ≠ w.heap.size ∧ e ≠ w.heap.size ∧ f ≠ w.heap.size := by
    have h1 := hW.ai.lt; have h2 := hW.at_.lt; have h3 := hW.st.lt; have h4 := hW.en.lt; have h5 := hW.sa.lt; have h6 := hW.wa.lt
    refine ⟨?_, ?_, ?_, ?_, ?_, ?_⟩ <;> omega
  obtain ⟨x0, hx0⟩ : ∃ x, w.heap.size = x := ⟨_, rfl⟩
  rw [hx0] at hX hlt
  have x1a : w1.cell? ⟨x0, 0, none⟩ = some (.slice (some ⟨a, 0, none⟩) n (K a)) := hX.cell 0
  have x1b : w1.cell? ⟨x0, 1, none⟩ = some (.slice (some ⟨b, 0, none⟩) n (K b)) := hX.cell 1
  have x1c : w1.cell? ⟨x0, 2, none⟩ = some (.slice (some ⟨c, 0, none⟩) n (K c)) := hX.cell 2
  have x1e : w1.cell? ⟨x0, 4, none⟩ = some (.slice (some ⟨e, 0, none⟩) n (K e)) := hX.cell 4
  have x1f : w1.cell? ⟨x0, 5, none⟩ = some (.slice (some ⟨f, 0, none⟩) n (K f)) := hX.cell 5
  have at1 := hI.at1 row hrow
  have st1 := hI.st1 row hrow
  have sa1 := hI.sa1 row hrow
  have y_at := hC.at_.cell hrow
  have y_sa := hC.sa.cell hrow
  have hr0 : (0 : Int) ≤ (row : Int) := by omega
  have hr1 : (row : Int) < (n : Int) := by omega
  have KP := Lib.hid kp
  have HX := Lib.hid hX
  have HC := Lib.hid hC
  have HB1 := Lib.hid hb1
  have HLT := Lib.hid hlt
  have HW1 := Lib.hid hw1
  have HX0 := Lib.hid hx0
  have HFR := Lib.hid hB
  by_cases e1 : 0 < C.sa row
  · have HA : Hid (act7 s t row C = C) := by show _ = _; unfold act7; rw [if_pos e1]
    rw [HA.out]
    clear kp hW hB hI hX hC hb1 hlt hw1 hx0 HA
    go_enter Try.func60, Try.ntmps60
    go_upto_region 1 with fail
    rw [HX0.out, HW1.out]
    go_wp2_with fail
    exact bodyPost_end (results_none rfl _ _ _) rfl ⟨rfl, HC.out, HB1.out, KP.out⟩
  have x1d : w1.cell? ⟨x0, 3, none⟩ = some (.slice (some ⟨d, 0, none⟩) n (K d)) := hX.cell 3
  by_cases e2 : C.at_ row < 0
  · have hn0 : 0 < n := by omega
    have y_ai := hC.ai.cell hn0
    have hn1 : (0 : Int) < (n : Int) := by omega
    by_cases e3 : C.ai 0 < 0
    · have HA : Hid (act7 s t row C = { C with ai := updI C.ai 0 row, at_ := updI C.at_ row 0, en := updI C.en row t }) := by show _ = _; unfold act7; rw [if_neg e1, if_pos e2, if_pos e3]
      rw [HA.out]
      have C2 := hC.setA 0 (row : Int)
      have C3 := C2.setB row 0
      have C4 := Lib.hid (C3.setD row t)
      have X2 := hX.other7 (i := 0) (Ne.symm hlt.1) (.int .i64 (row : Int))
      have X3 := X2.other7 (i := row) (Ne.symm hlt.2.1) (.int .i64 0)
      have K4 : Hid (Kept7 a b c d e f w (((w1.setCell ⟨a, 0, none⟩ (.int .i64 (row : Int))).setCell ⟨b, row, none⟩ (.int .i64 0)).setCell ⟨d, row, none⟩ (.int .i64 t))) := by show Kept7 _ _ _ _ _ _ _ _; intro g T xs hn h; exact (((kp g T xs hn h).other7 (Ne.symm hn.1) _).other7 (Ne.symm hn.2.1) _).other7 (Ne.symm hn.2.2.2.1) _
      have B4 : Hid (Below B w (((w1.setCell ⟨a, 0, none⟩ (.int .i64 (row : Int))).setCell ⟨b, row, none⟩ (.int .i64 0)).setCell ⟨d, row, none⟩ (.int .i64 t))) := ((hb1.setCell (p := ⟨a, 0, none⟩) hB.1 _).setCell (p := ⟨b, row, none⟩) hB.2.1 _).setCell (p := ⟨d, row, none⟩) hB.2.2.2.1 _
      have fa := hC.ai.free 0
      have fb := C2.at_.free row
      have fd := C3.en.free row
      have yb := C2.at_.cell hrow
      have yd := C3.en.cell hrow
      have x2b : (w1.setCell ⟨a, 0, none⟩ (.int .i64 (row : Int))).cell? ⟨x0, 1, none⟩ = some (.slice (some ⟨b, 0, none⟩) n (K b)) := X2.cell 1
      have x3d : ((w1.setCell ⟨a, 0, none⟩ (.int .i64 (row : Int))).setCell ⟨b, row, none⟩ (.int .i64 0)).cell? ⟨x0, 3, none⟩ = some (.slice (some ⟨d, 0, none⟩) n (K d)) := X3.cell 3
      clear kp hW hB hI hX hC hb1 hlt hw1 hx0 HA C2 C3 X2 X3
      go_enter Try.func60, Try.ntmps60
      go_upto_region 1 with fail
      rw [HX0.out, HW1.out]
      go_wp2_with fail
      exact bodyPost_end (results_none rfl _ _ _) rfl ⟨rfl, C4.out, B4.out, K4.out⟩
    · have HA : Hid (act7 s t row C = C) := by show _ = _; unfold act7; rw [if_neg e1, if_pos e2, if_neg e3]
      rw [HA.out]
      clear kp hW hB hI hX hC hb1 hlt hw1 hx0 HA
      go_enter Try.func60, Try.ntmps60
      go_upto_region 1 with fail
      rw [HX0.out, HW1.out]
      go_wp2_with fail
      exact bodyPost_end (results_none rfl _ _ _) rfl ⟨rfl, HC.out, HB1.out, KP.out⟩
  obtain ⟨k, hk⟩ : ∃ k : Nat, C.at_ row = k := ⟨(C.at_ row).toNat, by omega⟩
  have hkt : (C.at_ row).toNat = k := by omega
  have hkr : k ≤ row := by omega
  have hk0 : ¬ (k : Int) < 0 := by omega
  by_cases e3 : C.at_ row = row
  · have hkr : k = row := by omega
    subst hkr
    have y_st := hC.st.cell hrow
    have f_st := hC.st.free k
    have hst0 : C.sa k = 0 := by omega
    have hst1 := st1.2.2 hst0
    have hw2 : IntKind.i64.wrap (C.st k + 1) = C.st k + 1 := IntWalk.i64_in _ (by omega)
    have C2 := hC.setC k (C.st k + 1)
    have X2 := hX.other7 (i := k) (Ne.symm hlt.2.2.1) (.int .i64 (C.st k + 1))
    have y2 : (w1.setCell ⟨c, k, none⟩ (.int .i64 (C.st k + 1))).cell? ⟨c, k, none⟩ = some (.int .i64 (C.st k + 1)) := by
      rw [C2.st.cell hrow]
      show some (Value.int _ (updI C.st k (C.st k + 1) k)) = _
      rw [upd_at]
    have x2c : (w1.setCell ⟨c, k, none⟩ (.int .i64 (C.st k + 1))).cell? ⟨x0, 2, none⟩ = some (.slice (some ⟨c, 0, none⟩) n (K c)) := X2.cell 2
    by_cases e4 : C.st k + 1 = s
    · have HA : Hid (act7 s t k C = { C with st := updI C.st k s, sa := updI C.sa k t, ai := updI C.ai k (-1) }) := by show _ = _; unfold act7; rw [if_neg e1, if_neg e2, if_pos e3, if_pos e4, hkt, e4]
      rw [HA.out]
      rw [e4] at C2 X2 y2 x2c
      have C3 := C2.setE k t
      have C4 := Lib.hid (C3.setA k (-1))
      have X3 := X2.other7 (i := k) (Ne.symm hlt.2.2.2.2.1) (.int .i64 t)
      have K4 : Hid (Kept7 a b c d e f w (((w1.setCell ⟨c, k, none⟩ (.int .i64 s)).setCell ⟨e, k, none⟩ (.int .i64 t)).setCell ⟨a, k, none⟩ (.int .i64 (-1)))) := by show Kept7 _ _ _ _ _ _ _ _; intro g T xs hn h; exact (((kp g T xs hn h).other7 (Ne.symm hn.2.2.1) _).other7 (Ne.symm hn.2.2.2.2.1) _).other7 (Ne.symm hn.1) _
      have B4 : Hid (Below B w (((w1.setCell ⟨c, k, none⟩ (.int .i64 s)).setCell ⟨e, k, none⟩ (.int .i64 t)).setCell ⟨a, k, none⟩ (.int .i64 (-1)))) := ((hb1.setCell (p := ⟨c, k, none⟩) hB.2.2.1 _).setCell (p := ⟨e, k, none⟩) hB.2.2.2.2.1 _).setCell (p := ⟨a, k, none⟩) hB.1 _
      have fe := C2.sa.free k
      have fa := C3.ai.free k
      have ye := C2.sa.cell hrow
      have ya := C3.ai.cell hrow
      have x2e : (w1.setCell ⟨c, k, none⟩ (.int .i64 s)).cell? ⟨x0, 4, none⟩ = some (.slice (some ⟨e, 0, none⟩) n (K e)) := X2.cell 4
      have x3a : ((w1.setCell ⟨c, k, none⟩ (.int .i64 s)).setCell ⟨e, k, none⟩ (.int .i64 t)).cell? ⟨x0, 0, none⟩ = some (.slice (some ⟨a, 0, none⟩) n (K a)) := X3.cell 0
      rw [hk] at y_at
      clear kp hW hB hI hX hC hb1 hlt hw1 hx0 HA C2 C3 X2 X3 e2 e3 hk hkt
      go_enter Try.func60, Try.ntmps60
      go_upto_region 1 with fail
      rw [HX0.out, HW1.out]
      go_wp2_with fail
      exact bodyPost_end (results_none rfl _ _ _) rfl ⟨rfl, C4.out, B4.out, K4.out⟩
    · have HA : Hid (act7 s t k C = { C with st := updI C.st k (C.st k + 1) }) := by show _ = _; unfold act7; rw [if_neg e1, if_neg e2, if_pos e3, if_neg e4]
      rw [HA.out]
      have K4 : Hid (Kept7 a b c d e f w (w1.setCell ⟨c, k, none⟩ (.int .i64 (C.st k + 1)))) := by show Kept7 _ _ _ _ _ _ _ _; intro g T xs hn h; exact (kp g T xs hn h).other7 (Ne.symm hn.2.2.1) _
      have B4 : Hid (Below B w (w1.setCell ⟨c, k, none⟩ (.int .i64 (C.st k + 1)))) := hb1.setCell (p := ⟨c, k, none⟩) hB.2.2.1 _
      have C4 := Lib.hid C2
      rw [hk] at y_at
      clear kp hW hB hI hX hC hb1 hlt hw1 hx0 HA C2 X2 e2 e3 hk hkt
      go_enter Try.func60, Try.ntmps60
      go_upto_region 1 with fail
      rw [HX0.out, HW1.out]
      go_wp2_with fail
      exact bodyPost_end (results_none rfl _ _ _) rfl ⟨rfl, C4.out, B4.out, K4.out⟩
  have hkr2 : k < row := by omega
  have hkn : ¬ (k : Int) = (row : Int) := by omega
  have hk1 : (k : Int) + 1 < (n : Int) := by omega
  have y_a1 := hC.ai.cell (j := k + 1) (by omega)
  have hkp : (0 : Int) ≤ (k : Int) + 1 := by omega
  have hkp2 : (0 : Int) ≤ (k : Int) := by omega
  have hkn2 : (k : Int) < (n : Int) := by omega
  by_cases e4 : C.ai (k + 1) < 0
  · have HA : Hid (act7 s t row C = { C with ai := updI (updI C.ai k (-1)) (k + 1) row, at_ := updI C.at_ row ((k : Int) + 1) }) := by show _ = _; unfold act7; rw [if_neg e1, if_neg e2, if_neg e3, hkt, if_pos e4, hk]
    rw [HA.out]
    have y_a := hC.ai.cell (j := k) (by omega)
    have f_a := hC.ai.free k
    have C2 := hC.setA k (-1)
    have C3 := C2.setA (k + 1) (row : Int)
    have C4 := Lib.hid (C3.setB row ((k : Int) + 1))
    have X2 := hX.other7 (i := k) (Ne.symm hlt.1) (.int .i64 (-1))
    have X3 := X2.other7 (i := k + 1) (Ne.symm hlt.1) (.int .i64 (row : Int))
    have K4 : Hid (Kept7 a b c d e f w (((w1.setCell ⟨a, k, none⟩ (.int .i64 (-1))).setCell ⟨a, k + 1, none⟩ (.int .i64 (row : Int))).setCell ⟨b, row, none⟩ (.int .i64 ((k : Int) + 1)))) := by show Kept7 _ _ _ _ _ _ _ _; intro g T xs hn h; exact (((kp g T xs hn h).other7 (Ne.symm hn.1) _).other7 (Ne.symm hn.1) _).other7 (Ne.symm hn.2.1) _
    have B4 : Hid (Below B w (((w1.setCell ⟨a, k, none⟩ (.int .i64 (-1))).setCell ⟨a, k + 1, none⟩ (.int .i64 (row : Int))).setCell ⟨b, row, none⟩ (.int .i64 ((k : Int) + 1)))) := ((hb1.setCell (p := ⟨a, k, none⟩) hB.1 _).setCell (p := ⟨a, k + 1, none⟩) hB.1 _).setCell (p := ⟨b, row, none⟩) hB.2.1 _
    have f2 := C2.ai.free (k + 1)
    have y2 : (w1.setCell ⟨a, k, none⟩ (.int .i64 (-1))).cell? ⟨a, k + 1, none⟩ = some (.int .i64 (C.ai (k + 1))) := by
      rw [C2.ai.cell (j := k + 1) (by omega)]
      show some (Value.int _ (updI C.ai k (-1) (k + 1))) = _
      rw [upd_ne (by omega)]
    have f3 := C3.at_.free row
    have y3 := C3.at_.cell hrow
    have x2a : (w1.setCell ⟨a, k, none⟩ (.int .i64 (-1))).cell? ⟨x0, 0, none⟩ = some (.slice (some ⟨a, 0, none⟩) n (K a)) := X2.cell 0
    have x3b : ((w1.setCell ⟨a, k, none⟩ (.int .i64 (-1))).setCell ⟨a, k + 1, none⟩ (.int .i64 (row : Int))).cell? ⟨x0, 1, none⟩ = some (.slice (some ⟨b, 0, none⟩) n (K b)) := X3.cell 1
    rw [hk] at y_at
    clear kp hW hB hI hX hC hb1 hlt hw1 hx0 HA C2 C3 X2 X3 e2 e3 hk hkt
    go_enter Try.func60, Try.ntmps60
    go_upto_region 1 with fail
    rw [HX0.out, HW1.out]
    go_wp2_with fail
    exact bodyPost_end (results_none rfl _ _ _) rfl ⟨rfl, C4.out, B4.out, K4.out⟩
  · have HA : Hid (act7 s t row C = { C with wa := updI C.wa row (C.wa row + 1) }) := by show _ = _; unfold act7; rw [if_neg e1, if_neg e2, if_neg e3, hkt, if_neg e4]
    rw [HA.out]
    have y_w := hC.wa.cell hrow
    have f_w := hC.wa.free row
    have hw2 : IntKind.i64.wrap (C.wa row + 1) = C.wa row + 1 := IntWalk.i64_in _ (by omega)
    have C4 := Lib.hid (hC.setF row (C.wa row + 1))
    have K4 : Hid (Kept7 a b c d e f w (w1.setCell ⟨f, row, none⟩ (.int .i64 (C.wa row + 1)))) := by show Kept7 _ _ _ _ _ _ _ _; intro g T xs hn h; exact (kp g T xs hn h).other7 (Ne.symm hn.2.2.2.2.2) _
    have B4 : Hid (Below B w (w1.setCell ⟨f, row, none⟩ (.int .i64 (C.wa row + 1)))) := hb1.setCell (p := ⟨f, row, none⟩) hB.2.2.2.2.2 _
    rw [hk] at y_at
    clear kp hW hB hI hX hC hb1 hlt hw1 hx0 HA e2 e3 hk hkt
    go_enter Try.func60, Try.ntmps60
    go_upto_region 1 with fail
    rw [HX0.out, HW1.out]
    go_wp2_with fail
    exact bodyPost_end (results_none rfl _ _ _) rfl ⟨rfl, C4.out, B4.out, K4.out⟩
end Go.Proofs.Ytlhnejjciondeaa
end

section
namespace Go.Proofs.Ytlhnejjciondeaa
open Go.RowKit

theorem act_wa (s t : Int) (row : Nat) (c : Cab) (r : Nat) : c.wa r ≤ (act7 s t row c).wa r ∧ (act7 s t row c).wa r ≤ c.wa r + 1 := by
  unfold act7
  repeat' split
  all_goals first
    | (refine ⟨Int.le_refl _, ?_⟩; show c.wa r ≤ _; omega)
    | (show c.wa r ≤ updI c.wa row (c.wa row + 1) r ∧ updI c.wa row (c.wa row + 1) r ≤ c.wa r + 1
       by_cases e : r = row
       · rw [e, upd_at]; omega
       · rw [upd_ne e]; omega)
theorem unit_wa (s t : Int) (r : Nat) : ∀ (l : List Nat) (c : Cab), c.wa r ≤ (unit7 s t l c).wa r ∧ (unit7 s t l c).wa r ≤ c.wa r + (l.length : Int)
  | [], c => by show c.wa r ≤ c.wa r ∧ c.wa r ≤ c.wa r + ((0 : Nat) : Int); omega
  | x :: l, c => by
    have h1 := act_wa s t x c r
    have h2 := unit_wa s t r l (act7 s t x c)
    show c.wa r ≤ (unit7 s t l (act7 s t x c)).wa r ∧ (unit7 s t l (act7 s t x c)).wa r ≤ c.wa r + ((l.length + 1 : Nat) : Int)
    push_cast
    omega
theorem cab_wa (s : Int) (l : List Nat) (r : Nat) : ∀ u, 0 ≤ (cabU s l u).wa r ∧ (cabU s l u).wa r ≤ (u : Int) * (l.length : Int)
  | 0 => by show (0 : Int) ≤ 0 ∧ (0 : Int) ≤ _; simp
  | u + 1 => by
    have h1 := cab_wa s l r u
    have h2 := unit_wa s ((u + 1 : Nat) : Int) r l (cabU s l u)
    show 0 ≤ (unit7 s ((u + 1 : Nat) : Int) l (cabU s l u)).wa r ∧ (unit7 s ((u + 1 : Nat) : Int) l (cabU s l u)).wa r ≤ ((u + 1 : Nat) : Int) * (l.length : Int)
    have e : ((u + 1 : Nat) : Int) * (l.length : Int) = (u : Int) * (l.length : Int) + (l.length : Int) := by push_cast; rw [Int.add_mul, Int.one_mul]
    rw [e]
    omega
theorem part_wa {s : Int} {l : List Nat} {u i : Nat} {r : Nat} (hu : u ≤ 151) (hl : l.length ≤ 10) : 0 ≤ (unit7 s ((u + 1 : Nat) : Int) (l.take i) (cabU s l u)).wa r ∧ (unit7 s ((u + 1 : Nat) : Int) (l.take i) (cabU s l u)).wa r ≤ 100000 := by
  have h1 := cab_wa s l r u
  have h2 := unit_wa s ((u + 1 : Nat) : Int) r (l.take i) (cabU s l u)
  rw [List.length_take] at h2
  have h3 : (u : Int) * (l.length : Int) ≤ 151 * 10 := Int.mul_le_mul (by omega) (by omega) (by omega) (by omega)
  omega
/-- a row of numbers in memory, as it is read -/
theorem IA.ri {w : World} {g n : Nat} {K : Nat → Nat} {F : Nat → Int} (h : IA w g n K F) : Ri 0 w.heap.size w (some ⟨g, 0, none⟩) ((List.range n).map F) := by
  have hg := h.lt
  obtain ⟨vs, h, hl, hc⟩ := h
  have := Rd.of_own h (Nat.zero_le g) hg (Nat.le_refl _) n
  have e : vs.take n = iv ((List.range n).map F) := by
    apply List.ext_getElem?
    intro i
    by_cases hi : i < n
    · rw [List.getElem?_take, if_pos hi, hc i hi, iv_get (by simpa using hi)]
      simp [hi]
    · rw [List.getElem?_eq_none (by rw [List.length_take]; omega), List.getElem?_eq_none (by rw [iv_length]; simp; omega)]
  rw [e] at this
  exact this
theorem sat_mem (n : Nat) (c : Cab) : decide ((0 : Int) ∈ (List.range n).map c.sa) = !allSat n c := by
  cases h : allSat n c with
  | true =>
    unfold allSat at h
    rw [List.all_eq_true] at h
    simp only [Bool.not_true, decide_eq_false_iff_not, List.mem_map, List.mem_range]
    rintro ⟨r, hr, e⟩
    have := h r (List.mem_range.2 hr)
    simp [e] at this
  | false =>
    obtain ⟨r, hr, e⟩ := all_not h
    simp only [Bool.not_false, decide_eq_true_eq, List.mem_map, List.mem_range]
    exact ⟨r, hr, e⟩
theorem has7 {w : World} {n : Nat} {K : Nat → Nat} {a b c d e f : Nat} {C : Cab} (h : Cabs w n K a b c d e f C) (hn : n ≤ 10) :
    Calls Try.prog 46 #[.slice (some ⟨e, 0, none⟩) n (K e), .int .i64 0] w fun E w' => E = .returned (.bool (!allSat n C)) ∧ w = w' := by
  have := l1Has_any (some ⟨e, 0, none⟩) (K e) ((List.range n).map C.sa) 0 w 0 w.heap.size h.sa.ri (by simp; omega)
  rw [sat_mem, show ((List.range n).map C.sa).length = n by simp] at this
  exact this
abbrev cabZ : List Value := [.slice none 0 0, .slice none 0 0, .slice none 0 0, .slice none 0 0, .slice none 0 0, .slice none 0 0]
/-- a cabin, stored in a box -/
abbrev box7 (w : World) (g : Nat) (v0 v1 v2 v3 v4 v5 : Value) : World := (((((w.setCell ⟨g, 0, none⟩ v0).setCell ⟨g, 1, none⟩ v1).setCell ⟨g, 2, none⟩ v2).setCell ⟨g, 3, none⟩ v3).setCell ⟨g, 4, none⟩ v4).setCell ⟨g, 5, none⟩ v5
theorem Cabs.box {w : World} {n : Nat} {K : Nat → Nat} {a b c d e f g : Nat} {C : Cab} (h : Cabs w n K a b c d e f C) (hg : a ≠ g ∧ b ≠ g ∧ c ≠ g ∧ d ≠ g ∧ e ≠ g ∧ f ≠ g) (v0 v1 v2 v3 v4 v5 : Value) : Cabs (box7 w g v0 v1 v2 v3 v4 v5) n K a b c d e f C :=
  (((((h.other hg _).other hg _).other hg _).other hg _).other hg _).other hg _
theorem OwnArr.box7 {w : World} {g : Nat} {e : TypeId} (h : OwnArr w g e cabZ) (v0 v1 v2 v3 v4 v5 : Value) : OwnArr (box7 w g v0 v1 v2 v3 v4 v5) g e [v0, v1, v2, v3, v4, v5] :=
  (((((h.set 0 v0).set 1 v1).set 2 v2).set 3 v3).set 4 v4).set 5 v5
theorem Below.box7 {w0 w : World} {B g : Nat} (h : Below B w0 w) (hg : B ≤ g) (v0 v1 v2 v3 v4 v5 : Value) : Below B w0 (box7 w g v0 v1 v2 v3 v4 v5) :=
  (((((h.setCell (p := ⟨g, 0, none⟩) hg v0).setCell (p := ⟨g, 1, none⟩) hg v1).setCell (p := ⟨g, 2, none⟩) hg v2).setCell (p := ⟨g, 3, none⟩) hg v3).setCell (p := ⟨g, 4, none⟩) hg v4).setCell (p := ⟨g, 5, none⟩) hg v5
theorem load_cab {w : World} {b : Nat} {v0 v1 v2 v3 v4 v5 : Value} (h : OwnArr w b 65 [v0, v1, v2, v3, v4, v5]) :
    (loadVar 65 ⟨b, 0, none⟩).run Try.prog w = .ok (.agg #[v0, v1, v2, v3, v4, v5]) w := by
  have c0 : w.cell? ⟨b, 0, none⟩ = some v0 := h.cell 0
  have c1 : w.cell? ⟨b, 1, none⟩ = some v1 := h.cell 1
  have c2 : w.cell? ⟨b, 2, none⟩ = some v2 := h.cell 2
  have c3 : w.cell? ⟨b, 3, none⟩ = some v3 := h.cell 3
  have c4 : w.cell? ⟨b, 4, none⟩ = some v4 := h.cell 4
  have c5 : w.cell? ⟨b, 5, none⟩ = some v5 := h.cell 5
  simp [go_sem, c0, c1, c2, c3, c4, c5]
theorem ret_cab {fn : Func} {R : Ending → World → Prop} {a : Act} {w : World} {p : Tmp} {b : Nat} {v0 v1 v2 v3 v4 v5 : Value} (h : fn.results = #[.cell p 65]) (hp : a.tmps.getD p undef = .pointer (some ⟨b, 0, none⟩))
    (ho : OwnArr w b 65 [v0, v1, v2, v3, v4, v5]) (hd : a.defers = []) (hR : R (.returned (.agg #[v0, v1, v2, v3, v4, v5])) w) : bodyPost Try.prog fn R .ret a w := by
  refine bodyPost_ret (v := .agg #[v0, v1, v2, v3, v4, v5]) ?_ hd hR
  rw [results_cell h, hp]
  simp only [asAddr, Sem.run_pure, Result.andThen]
  exact load_cab ho
end Go.Proofs.Ytlhnejjciondeaa
end

section
namespace Go.Proofs.Ytlhnejjciondeaa
open Go.RowKit

/-- a cabin of a call's own -/
def MadeCab (w0 : World) (n : Nat) (C : Cab) : Ending → World → Prop := fun E w' => ∃ K a b c d e f, E = .returned (.agg #[.slice (some ⟨a, 0, none⟩) n (K a), .slice (some ⟨b, 0, none⟩) n (K b), .slice (some ⟨c, 0, none⟩) n (K c), .slice (some ⟨d, 0, none⟩) n (K d), .slice (some ⟨e, 0, none⟩) n (K e), .slice (some ⟨f, 0, none⟩) n (K f)]) ∧ Cabs w' n K a b c d e f C ∧ from6 w0.heap.size a b c d e f ∧ (∀ g, K g ≤ maxLen) ∧ Below w0.heap.size w0 w'
/-- so many units go by -/
structure runs7 (n : Nat) (s t0 : Int) (l : List Nat) (U : Nat) : Prop where
  few : U ≤ 151
  go : ∀ u, u < U → (t0 < 0 ∨ (u : Int) + 1 ≤ t0) ∧ allSat n (cabU s l u) = false
  stop : ¬ (t0 < 0 ∨ (U : Int) + 1 ≤ t0) ∨ allSat n (cabU s l U) = true

theorem cab_cells {w : World} {g : Nat} {T : TypeId} {v0 v1 v2 v3 v4 v5 : Value} (h : OwnArr w g T [v0, v1, v2, v3, v4, v5]) :
    w.cell? ⟨g, 0, none⟩ = some v0 ∧ w.cell? ⟨g, 1, none⟩ = some v1 ∧ w.cell? ⟨g, 2, none⟩ = some v2 ∧ w.cell? ⟨g, 3, none⟩ = some v3 ∧ w.cell? ⟨g, 4, none⟩ = some v4 ∧ w.cell? ⟨g, 5, none⟩ = some v5 :=
  ⟨h.cell 0, h.cell 1, h.cell 2, h.cell 3, h.cell 4, h.cell 5⟩
theorem cabz_cells {w : World} {g : Nat} {T : TypeId} {v0 v1 v2 v3 v4 v5 : Value} (h : OwnArr w g T [v0, v1, v2, v3, v4, v5]) :
    w.cell? ⟨g, 0, none⟩ = some v0 ∧ w.cell? ⟨g, 1, none⟩ = some v1 ∧ w.cell? ⟨g, 2, none⟩ = some v2 ∧ w.cell? ⟨g, 3, none⟩ = some v3 ∧ w.cell? ⟨g, 4, none⟩ = some v4 ∧ w.cell? ⟨g, 5, none⟩ = some v5 ∧ w.frozen? ⟨g, 0, none⟩ = false ∧ w.frozen? ⟨g, 1, none⟩ = false ∧ w.frozen? ⟨g, 2, none⟩ = false ∧ w.frozen? ⟨g, 3, none⟩ = false ∧ w.frozen? ⟨g, 4, none⟩ = false ∧ w.frozen? ⟨g, 5, none⟩ = false :=
  ⟨h.cell 0, h.cell 1, h.cell 2, h.cell 3, h.cell 4, h.cell 5, h.free 0, h.free 1, h.free 2, h.free 3, h.free 4, h.free 5⟩
theorem ne_of6 {a b c d e f x : Nat} (h : a < x ∧ b < x ∧ c < x ∧ d < x ∧ e < x ∧ f < x) : a ≠ x ∧ b ≠ x ∧ c ≠ x ∧ d ≠ x ∧ e ≠ x ∧ f ≠ x := by omega
theorem ne_of6r {a b c d e f r : Nat} (h : from6 (r + 1) a b c d e f) : a ≠ r ∧ b ≠ r ∧ c ≠ r ∧ d ≠ r ∧ e ≠ r ∧ f ≠ r := by unfold from6 at h; omega
theorem from6_r {a b c d e f r r' : Nat} (hr : r' = r) (h : from6 (r + 1) a b c d e f) : from6 r' a b c d e f := by unfold from6 at *; omega
set_option maxRecDepth 4000 in
set_option maxHeartbeats 2000000 in
theorem l7Run_any (ST : ∀ (n : Nat) (w' : World), 1 ≤ n → n ≤ 10 → Calls Try.prog 59 #[.int .i64 (n : Nat)] w' (MadeCab w' n start7))
    (n : Nat) (s t0 : Int) (p : Option Addr) (cap : Nat) (l : List Nat) (U : Nat) (w : World) (lo hi : Nat) (hin : Ri lo hi w p (ints l)) (hn1 : 1 ≤ n) (hn : n ≤ 10) (hs1 : 1 ≤ s) (hs : s ≤ 5) (hl : ∀ x ∈ l, x < n) (hll : l.length = n) (hU : runs7 n s t0 l U) :
    Calls Try.prog 48 #[.int .i64 (n : Nat), .int .i64 s, .slice p n cap, .int .i64 t0] w (MadeCab w n (cabU s l U)) := by
  have hU1 := hU.few
  have HGO := Lib.hid hU.go
  have HST := Lib.hid hU.stop
  have HI := Lib.hid (fun (w' : World) (h' : Below w.heap.size w w') => hin.below h' hin.top)
  have HINV := Lib.hid (fun u => cab_inv (n := n) hs1 hl u)
  have HACT := Lib.hid (fun (u i : Nat) => And.intro (unit_ok (n := n) (s := s) (t := ((u + 1 : Nat) : Int)) (by omega) (cab_inv hs1 hl u) (fun x hx => hl x (List.mem_of_mem_take hx : x ∈ l) : ∀ x ∈ l.take i, x < n)).1 (fun r (hu : u ≤ 151) => part_wa (s := s) (l := l) (u := u) (i := i) (r := r) hu (by omega)))
  have HL := Lib.hid hl
  have HLL := Lib.hid hll
  have S1 := ST n (w.alloc (.cells #[.slice none 0 0, .slice none 0 0, .slice none 0 0, .slice none 0 0, .slice none 0 0, .slice none 0 0] 65)) hn1 hn
  unfold MadeCab at S1 ⊢
  replace S1 := Lib.hid S1
  clear ST hU hin hl hll
  go_enter Try.func48, Try.ntmps48
  go_wp2_with fail
  refine S1.out.mono ?_
  rintro E w2 ⟨K, a, b, c, d, e, f, rfl, hC, hF, hK, hb⟩
  obtain ⟨r0, hr0⟩ : ∃ r, w.heap.size = r := ⟨_, rfl⟩
  have hz : (w.alloc (.cells #[.slice none 0 0, .slice none 0 0, .slice none 0 0, .slice none 0 0, .slice none 0 0, .slice none 0 0] 65)).heap.size = r0 + 1 := by simp [hr0]
  rw [hz] at hF hb
  have hZ2 : OwnArr w2 r0 65 cabZ := by
    rw [← hr0]
    exact (OwnArr.made w 65 cabZ).below hb (by omega)
  have hB2 : Below r0 w w2 := by
    have h1 : Below r0 w (w.alloc (.cells #[.slice none 0 0, .slice none 0 0, .slice none 0 0, .slice none 0 0, .slice none 0 0, .slice none 0 0] 65)) := (Below.refl _ _).alloc (by omega) _
    exact h1.trans (hb.mono (by omega))
  have hX := OwnArr.made w2 65 (cabL n K a b c d e f)
  have hr2 : r0 < w2.heap.size := hZ2.lt
  obtain ⟨x0, hx0⟩ : ∃ x, w2.heap.size = x := ⟨_, rfl⟩
  rw [hx0] at hX hr2
  have hw2 : ∃ wa, w2.alloc (.cells #[.slice (some ⟨a, 0, none⟩) n (K a), .slice (some ⟨b, 0, none⟩) n (K b), .slice (some ⟨c, 0, none⟩) n (K c), .slice (some ⟨d, 0, none⟩) n (K d), .slice (some ⟨e, 0, none⟩) n (K e), .slice (some ⟨f, 0, none⟩) n (K f)] 65) = wa := ⟨_, rfl⟩
  obtain ⟨wa, hwa⟩ := hw2
  have hXa : OwnArr wa x0 65 (cabL n K a b c d e f) := by rw [← hwa]; exact hX
  have hCa : Cabs wa n K a b c d e f start7 := by rw [← hwa]; exact hC.alloc _
  have hZa : OwnArr wa r0 65 cabZ := by rw [← hwa]; exact hZ2.alloc _
  have hBa : Below r0 w wa := by rw [← hwa]; exact hB2.alloc (by omega) _
  have hlt : (a < x0 ∧ b < x0 ∧ c < x0 ∧ d < x0 ∧ e < x0 ∧ f < x0) := by
    have h1 := hC.ai.lt; have h2 := hC.at_.lt; have h3 := hC.st.lt; have h4 := hC.en.lt; have h5 := hC.sa.lt; have h6 := hC.wa.lt
    omega
  have HC0 : Hid (Cabs wa n K a b c d e f (cabU s l 0)) := hCa
  have HX0 := Lib.hid hXa
  have HZ0 := Lib.hid hZa
  have HB0 := Lib.hid hBa
  have HLT := Lib.hid hlt
  have HFR := Lib.hid hF
  have HK := Lib.hid hK
  have HR0 := Lib.hid hr0
  have HXX := Lib.hid hx0
  have HWA := Lib.hid hwa
  clear hC hF hK hb hz hZ2 hB2 hX hXa hCa hZa hBa hlt hr0 hx0 hwa S1
  go_upto_region 2 with fail
  rw [HR0.out, HXX.out, HWA.out]
  go_wp2_with fail
  go_loopw [10] (fun iu wr => ∃ (u : Nat), u ≤ U ∧ iu = .int .i64 ((u : Int) + 1) ∧ Hid (Cabs wr n K a b c d e f (cabU s l u)) ∧ Hid (OwnArr wr x0 65 (cabL n K a b c d e f)) ∧ Hid (OwnArr wr r0 65 cabZ) ∧ Hid (Below r0 w wr)) (fun iu _ => U + 1 - (intOf iu).toNat)
  case atStart => exact ⟨0, Nat.zero_le _, by go_num, HC0, HX0, HZ0, HB0⟩
  case round =>
    obtain ⟨u, hu, rfl, HC, HX, HZ, HB⟩ := hrel
    clear HC0 HX0 HZ0 HB0
    have H7 := has7 HC.out hn
    obtain ⟨y0, y1, y2, y3, y4, y5⟩ := cab_cells HX.out
    by_cases huU : u < U
    · obtain ⟨hgo, hns⟩ := HGO.out u huU
      rw [hns] at H7
      replace H7 := Lib.hid H7
      have HC1 : Hid (Cabs wr n K a b c d e f (unit7 s ((u + 1 : Nat) : Int) (l.take 0) (cabU s l u))) := by
        show Cabs _ _ _ _ _ _ _ _ _ _
        rw [List.take_zero]; exact HC.out
      clear HC hns
      by_cases ht0 : t0 < 0
      · clear hgo
        go_wp2_with fail
        refine H7.out.mono ?_
        rintro E1 w1 ⟨rfl, rfl⟩
        clear H7 y0 y1 y2 y3 y4 y5
        go_wp2_with fail
        go_loopw [11] (fun ii wr => ∃ (i : Nat), i ≤ n ∧ ii = .int .i64 (i : Int) ∧ Hid (Cabs wr n K a b c d e f (unit7 s ((u + 1 : Nat) : Int) (l.take i) (cabU s l u))) ∧ Hid (OwnArr wr x0 65 (cabL n K a b c d e f)) ∧ Hid (OwnArr wr r0 65 cabZ) ∧ Hid (Below r0 w wr)) (fun ii _ => n - (intOf ii).toNat)
        case atStart => exact ⟨0, Nat.zero_le _, rfl, HC1, HX, HZ, HB⟩
        case round =>
          obtain ⟨i, hi', rfl, HC, HX, HZ, HB⟩ := hrel
          clear HC1
          by_cases hin : i < n
          · have hi1 : (i : Int) < (n : Int) := by omega
            have hi0 : (0 : Int) ≤ (i : Int) := by omega
            have hil : i < l.length := by rw [HLL.out]; exact hin
            have hbw : Below w.heap.size w wr := by rw [HR0.out]; exact HB.out
            obtain ⟨bq, off, rfl, -, -, -, hc⟩ := (HI.out wr hbw).int (by rw [ints_length]; omega)
            have h0 := hc i (by rw [ints_length]; exact hil)
            rw [ints_get hil] at h0
            have hstep := unit_take (s := s) (t := ((u + 1 : Nat) : Int)) (l := l) (c := cabU s l u) hil
            have hrow := HL.out _ (nat_mem hil)
            obtain ⟨row, hrw⟩ : ∃ row, l[i]?.getD 0 = row := ⟨_, rfl⟩
            rw [hrw] at h0 hstep hrow
            obtain ⟨hi7, hw7⟩ := HACT.out u i
            have A := l7Act_any n K a b c d e f row ((u + 1 : Nat) : Int) s (unit7 s ((u + 1 : Nat) : Int) (l.take i) (cabU s l u)) wr.drew (r0 + 1) HC.out.drew HFR.out (by have := HZ.out.lt; show r0 + 1 ≤ wr.heap.size; omega) hrow hn hi7 hs (hw7 row (by omega))
            rw [← hstep, show (((u + 1 : Nat) : Int)) = (u : Int) + 1 by push_cast; rfl] at A
            obtain ⟨x0a, x1a, x2a, x3a, x4a, x5a⟩ := cab_cells HX.out
            replace A := Lib.hid A
            clear hc hbw hstep hi7 hw7 hrw
            go_wp2_with fail
            go_still_tail 7, (by kernel_rfl)
            change wpList _ _ _ _ _ wr.drew
            go_wp2_with fail
            refine A.out.mono ?_
            rintro E2 w3 ⟨rfl, hC3, hB3, hK3⟩
            have HC3 : Hid (Cabs w3 n K a b c d e f (unit7 s ((u + 1 : Nat) : Int) (l.take (i + 1)) (cabU s l u))) := by
              show Cabs _ _ _ _ _ _ _ _ _ _
              rw [show (((u + 1 : Nat) : Int)) = (u : Int) + 1 by push_cast; rfl]
              exact hC3
            have HX3 := Lib.hid (hK3 x0 _ _ (ne_of6 HLT.out) (HX.out.drew))
            have HZ3 := Lib.hid (HZ.out.below (w' := w3) (((Below.refl (r0 + 1) wr).drew).trans hB3) (by omega))
            have HB3 := Lib.hid (HB.out.trans ((((Below.refl (r0 + 1) wr).drew).trans hB3).mono (by omega)))
            clear A hC3 hB3 hK3 x0a x1a x2a x3a x4a x5a h0
            go_wp2_with fail
            go_roundw
            case rel => exact ⟨i + 1, by omega, by go_num, HC3, HX3, HZ3, HB3⟩
            case measure => simp [intOf]; omega
          · have hni : i = n := by omega
            subst hni
            have hi1 : ¬ (i : Int) < (i : Int) := by omega
            have HC3 : Hid (Cabs wr i K a b c d e f (cabU s l (u + 1))) := by
              show Cabs _ _ _ _ _ _ _ _ _ _
              have h := HC.out
              rw [List.take_of_length_le (by rw [HLL.out]; exact Nat.le_refl _)] at h
              exact h
            go_wp2_with fail
            go_roundw
            case rel => exact ⟨u + 1, by omega, by go_num, HC3, HX, HZ, HB⟩
            case measure => simp [intOf]; omega
      · have ht1 : (u : Int) + 1 ≤ t0 := by omega
        clear hgo
        go_wp2_with fail
        refine H7.out.mono ?_
        rintro E1 w1 ⟨rfl, rfl⟩
        clear H7 y0 y1 y2 y3 y4 y5
        go_wp2_with fail
        go_loopw [11] (fun ii wr => ∃ (i : Nat), i ≤ n ∧ ii = .int .i64 (i : Int) ∧ Hid (Cabs wr n K a b c d e f (unit7 s ((u + 1 : Nat) : Int) (l.take i) (cabU s l u))) ∧ Hid (OwnArr wr x0 65 (cabL n K a b c d e f)) ∧ Hid (OwnArr wr r0 65 cabZ) ∧ Hid (Below r0 w wr)) (fun ii _ => n - (intOf ii).toNat)
        case atStart => exact ⟨0, Nat.zero_le _, rfl, HC1, HX, HZ, HB⟩
        case round =>
          obtain ⟨i, hi', rfl, HC, HX, HZ, HB⟩ := hrel
          clear HC1
          by_cases hin : i < n
          · have hi1 : (i : Int) < (n : Int) := by omega
            have hi0 : (0 : Int) ≤ (i : Int) := by omega
            have hil : i < l.length := by rw [HLL.out]; exact hin
            have hbw : Below w.heap.size w wr := by rw [HR0.out]; exact HB.out
            obtain ⟨bq, off, rfl, -, -, -, hc⟩ := (HI.out wr hbw).int (by rw [ints_length]; omega)
            have h0 := hc i (by rw [ints_length]; exact hil)
            rw [ints_get hil] at h0
            have hstep := unit_take (s := s) (t := ((u + 1 : Nat) : Int)) (l := l) (c := cabU s l u) hil
            have hrow := HL.out _ (nat_mem hil)
            obtain ⟨row, hrw⟩ : ∃ row, l[i]?.getD 0 = row := ⟨_, rfl⟩
            rw [hrw] at h0 hstep hrow
            obtain ⟨hi7, hw7⟩ := HACT.out u i
            have A := l7Act_any n K a b c d e f row ((u + 1 : Nat) : Int) s (unit7 s ((u + 1 : Nat) : Int) (l.take i) (cabU s l u)) wr.drew (r0 + 1) HC.out.drew HFR.out (by have := HZ.out.lt; show r0 + 1 ≤ wr.heap.size; omega) hrow hn hi7 hs (hw7 row (by omega))
            rw [← hstep, show (((u + 1 : Nat) : Int)) = (u : Int) + 1 by push_cast; rfl] at A
            obtain ⟨x0a, x1a, x2a, x3a, x4a, x5a⟩ := cab_cells HX.out
            replace A := Lib.hid A
            clear hc hbw hstep hi7 hw7 hrw
            go_wp2_with fail
            go_still_tail 7, (by kernel_rfl)
            change wpList _ _ _ _ _ wr.drew
            go_wp2_with fail
            refine A.out.mono ?_
            rintro E2 w3 ⟨rfl, hC3, hB3, hK3⟩
            have HC3 : Hid (Cabs w3 n K a b c d e f (unit7 s ((u + 1 : Nat) : Int) (l.take (i + 1)) (cabU s l u))) := by
              show Cabs _ _ _ _ _ _ _ _ _ _
              rw [show (((u + 1 : Nat) : Int)) = (u : Int) + 1 by push_cast; rfl]
              exact hC3
            have HX3 := Lib.hid (hK3 x0 _ _ (ne_of6 HLT.out) (HX.out.drew))
            have HZ3 := Lib.hid (HZ.out.below (w' := w3) (((Below.refl (r0 + 1) wr).drew).trans hB3) (by omega))
            have HB3 := Lib.hid (HB.out.trans ((((Below.refl (r0 + 1) wr).drew).trans hB3).mono (by omega)))
            clear A hC3 hB3 hK3 x0a x1a x2a x3a x4a x5a h0
            go_wp2_with fail
            go_roundw
            case rel => exact ⟨i + 1, by omega, by go_num, HC3, HX3, HZ3, HB3⟩
            case measure => simp [intOf]; omega
          · have hni : i = n := by omega
            subst hni
            have hi1 : ¬ (i : Int) < (i : Int) := by omega
            have HC3 : Hid (Cabs wr i K a b c d e f (cabU s l (u + 1))) := by
              show Cabs _ _ _ _ _ _ _ _ _ _
              have h := HC.out
              rw [List.take_of_length_le (by rw [HLL.out]; exact Nat.le_refl _)] at h
              exact h
            go_wp2_with fail
            go_roundw
            case rel => exact ⟨u + 1, by omega, by go_num, HC3, HX, HZ, HB⟩
            case measure => simp [intOf]; omega
    · have huu : u = U := by omega
      subst huu
      have hst := HST.out
      obtain ⟨z0, z1, z2, z3, z4, z5, f0, f1, f2, f3, f4, f5⟩ := cabz_cells HZ.out
      by_cases ht0 : t0 < 0
      · have has : allSat n (cabU s l u) = true := by rcases hst with h | h
                                                      · exact absurd (Or.inl ht0) h
                                                      · exact h
        rw [has] at H7
        replace H7 := Lib.hid H7
        clear hst has
        go_wp2_with fail
        refine H7.out.mono ?_
        rintro E1 w1 ⟨rfl, rfl⟩
        go_wp2_with fail
        exact ret_cab Try.results48 rfl (HZ.out.box7 _ _ _ _ _ _) rfl ⟨K, a, b, c, d, e, f, rfl, HC.out.box (ne_of6r HFR.out) _ _ _ _ _ _, from6_r HR0.out HFR.out, HK.out, by rw [HR0.out]; exact Below.box7 HB.out (Nat.le_refl _) _ _ _ _ _ _⟩
      · by_cases ht1 : (u : Int) + 1 ≤ t0
        · have has : allSat n (cabU s l u) = true := by rcases hst with h | h
                                                        · exact absurd (Or.inr (by omega)) h
                                                        · exact h
          rw [has] at H7
          replace H7 := Lib.hid H7
          clear hst has
          go_wp2_with fail
          refine H7.out.mono ?_
          rintro E1 w1 ⟨rfl, rfl⟩
          go_wp2_with fail
          exact ret_cab Try.results48 rfl (HZ.out.box7 _ _ _ _ _ _) rfl ⟨K, a, b, c, d, e, f, rfl, HC.out.box (ne_of6r HFR.out) _ _ _ _ _ _, from6_r HR0.out HFR.out, HK.out, by rw [HR0.out]; exact Below.box7 HB.out (Nat.le_refl _) _ _ _ _ _ _⟩
        · clear hst H7
          go_wp2_with fail
          exact ret_cab Try.results48 rfl (HZ.out.box7 _ _ _ _ _ _) rfl ⟨K, a, b, c, d, e, f, rfl, HC.out.box (ne_of6r HFR.out) _ _ _ _ _ _, from6_r HR0.out HFR.out, HK.out, by rw [HR0.out]; exact Below.box7 HB.out (Nat.le_refl _) _ _ _ _ _ _⟩
end Go.Proofs.Ytlhnejjciondeaa
end
