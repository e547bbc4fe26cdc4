/- Chapter 7, spec side: the memory of a boarding. Plain lemmas. -/
import Derived.Test.YtohnjdlhgcemjaaBrdM7
import Derived.Test.YtohnjdlhgcemjaaOwnArr
import Derived.Test.YtohnjdlhgcemjaaOut
namespace Go.Proofs.Ytohnjdlhgcemjaa
open Go.RowKit

/-- block g holds F's first n numbers -/
def IA (w : World) (g n : Nat) (K : Nat → Nat) (F : Nat → Int) : Prop := ∃ vs, OwnArr w g 3 vs ∧ (n ≤ vs.length ∧ vs.length = K g) ∧ ∀ j, j < n → vs[j]? = some (.int .i64 (F j))
theorem IA.lt {w : World} {g n : Nat} {K : Nat → Nat} {F : Nat → Int} (h : IA w g n K F) : g < w.heap.size := by
  obtain ⟨_, h, -⟩ := h; exact h.lt
theorem IA.cell {w : World} {g n : Nat} {K : Nat → Nat} {F : Nat → Int} (h : IA w g n K F) {j : Nat} (hj : j < n) : w.cell? ⟨g, j, none⟩ = some (.int .i64 (F j)) := by
  obtain ⟨vs, h, -, hc⟩ := h
  rw [h.cell]; exact hc j hj
theorem IA.free {w : World} {g n : Nat} {K : Nat → Nat} {F : Nat → Int} (h : IA w g n K F) (j : Nat) : w.frozen? ⟨g, j, none⟩ = false := by
  obtain ⟨vs, h, -⟩ := h; exact h.free j
theorem IA.set {w : World} {g n : Nat} {K : Nat → Nat} {F : Nat → Int} (h : IA w g n K F) (i : Nat) (v : Int) : IA (w.setCell ⟨g, i, none⟩ (.int .i64 v)) g n K (updI F i v) := by
  obtain ⟨vs, h, hl, hc⟩ := h
  refine ⟨_, h.set i _, by rw [List.length_set]; exact hl, fun j hj => ?_⟩
  rw [List.getElem?_set]
  by_cases e : i = j
  · subst e; rw [if_pos rfl, if_pos (by have := hl.1; omega), upd_at]
  · rw [if_neg e, upd_ne (fun e' => e e'.symm)]; exact hc j hj
theorem OwnArr.other7 {w : World} {g : Nat} {e : TypeId} {xs : List Value} (h : OwnArr w g e xs) {b i : Nat} (hb : g ≠ b) (v : Value) : OwnArr (w.setCell ⟨b, i, none⟩ v) g e xs := by
  unfold OwnArr at *
  rw [Below.heap_setCell w ⟨b, i, none⟩ v g hb]; exact h
theorem IA.other {w : World} {g n : Nat} {K : Nat → Nat} {F : Nat → Int} (h : IA w g n K F) {b i : Nat} (hb : g ≠ b) (v : Value) : IA (w.setCell ⟨b, i, none⟩ v) g n K F := by
  obtain ⟨vs, h, r⟩ := h
  exact ⟨vs, h.other7 hb v, r⟩
theorem IA.alloc {w : World} {g n : Nat} {K : Nat → Nat} {F : Nat → Int} (h : IA w g n K F) (o : Obj) : IA (w.alloc o) g n K F := by
  obtain ⟨vs, h, r⟩ := h
  exact ⟨vs, h.alloc o, r⟩
theorem IA.below {w w' : World} {g n B : Nat} {K : Nat → Nat} {F : Nat → Int} (h : IA w g n K F) (hb : Below B w w') (hg : g < B) : IA w' g n K F := by
  obtain ⟨vs, h, r⟩ := h
  exact ⟨vs, h.below hb hg, r⟩
theorem IA.drew {w : World} {g n : Nat} {K : Nat → Nat} {F : Nat → Int} (h : IA w g n K F) : IA w.drew g n K F := h
theorem IA.congr {w : World} {g n : Nat} {K : Nat → Nat} {F G : Nat → Int} (h : IA w g n K F) (e : ∀ j, j < n → F j = G j) : IA w g n K G := by
  obtain ⟨vs, h, hl, hc⟩ := h
  exact ⟨vs, h, hl, fun j hj => by rw [hc j hj, e j hj]⟩

def dis6 (a b c d e f : Nat) : Prop := (a ≠ b ∧ a ≠ c ∧ a ≠ d ∧ a ≠ e ∧ a ≠ f) ∧ (b ≠ c ∧ b ≠ d ∧ b ≠ e ∧ b ≠ f) ∧ (c ≠ d ∧ c ≠ e ∧ c ≠ f) ∧ (d ≠ e ∧ d ≠ f) ∧ e ≠ f
/-- the six rows of numbers of a cabin -/
structure Cabs (w : World) (n : Nat) (K : Nat → Nat) (a b c d e f : Nat) (C : Cab) : Prop where
  dis : dis6 a b c d e f
  ai : IA w a n K C.ai
  at_ : IA w b n K C.at_
  st : IA w c n K C.st
  en : IA w d n K C.en
  sa : IA w e n K C.sa
  wa : IA w f n K C.wa
section
variable {w : World} {n : Nat} {K : Nat → Nat} {a b c d e f : Nat} {C : Cab}
theorem Cabs.sub (h : Cabs w n K a b c d e f C) (w' : World) (hk : ∀ g F, g < w.heap.size → IA w g n K F → IA w' g n K F) : Cabs w' n K a b c d e f C :=
  ⟨h.dis, hk _ _ h.ai.lt h.ai, hk _ _ h.at_.lt h.at_, hk _ _ h.st.lt h.st, hk _ _ h.en.lt h.en, hk _ _ h.sa.lt h.sa, hk _ _ h.wa.lt h.wa⟩
theorem Cabs.alloc (h : Cabs w n K a b c d e f C) (o : Obj) : Cabs (w.alloc o) n K a b c d e f C := h.sub _ fun _ _ _ h => h.alloc o
theorem Cabs.drew (h : Cabs w n K a b c d e f C) : Cabs w.drew n K a b c d e f C := ⟨h.dis, h.ai.drew, h.at_.drew, h.st.drew, h.en.drew, h.sa.drew, h.wa.drew⟩
theorem Cabs.below (h : Cabs w n K a b c d e f C) {w' : World} (hb : Below w.heap.size w w') : Cabs w' n K a b c d e f C := h.sub _ fun _ _ hg h => h.below hb hg
theorem Cabs.other (h : Cabs w n K a b c d e f C) {k i : Nat} (hk : a ≠ k ∧ b ≠ k ∧ c ≠ k ∧ d ≠ k ∧ e ≠ k ∧ f ≠ k) (v : Value) : Cabs (w.setCell ⟨k, i, none⟩ v) n K a b c d e f C :=
  ⟨h.dis, h.ai.other hk.1 v, h.at_.other hk.2.1 v, h.st.other hk.2.2.1 v, h.en.other hk.2.2.2.1 v, h.sa.other hk.2.2.2.2.1 v, h.wa.other hk.2.2.2.2.2 v⟩
theorem Cabs.setA (h : Cabs w n K a b c d e f C) (i : Nat) (v : Int) : Cabs (w.setCell ⟨a, i, none⟩ (.int .i64 v)) n K a b c d e f { C with ai := updI C.ai i v } := by
  obtain ⟨⟨h1, h2, h3, h4, h5⟩, -⟩ := h.dis
  exact ⟨h.dis, h.ai.set i v, h.at_.other h1.symm _, h.st.other h2.symm _, h.en.other h3.symm _, h.sa.other h4.symm _, h.wa.other h5.symm _⟩
theorem Cabs.setB (h : Cabs w n K a b c d e f C) (i : Nat) (v : Int) : Cabs (w.setCell ⟨b, i, none⟩ (.int .i64 v)) n K a b c d e f { C with at_ := updI C.at_ i v } := by
  obtain ⟨⟨h1, -⟩, ⟨h2, h3, h4, h5⟩, -⟩ := h.dis
  exact ⟨h.dis, h.ai.other h1 _, h.at_.set i v, h.st.other h2.symm _, h.en.other h3.symm _, h.sa.other h4.symm _, h.wa.other h5.symm _⟩
theorem Cabs.setC (h : Cabs w n K a b c d e f C) (i : Nat) (v : Int) : Cabs (w.setCell ⟨c, i, none⟩ (.int .i64 v)) n K a b c d e f { C with st := updI C.st i v } := by
  obtain ⟨⟨-, h1, -⟩, ⟨h2, -⟩, ⟨h3, h4, h5⟩, -⟩ := h.dis
  exact ⟨h.dis, h.ai.other h1 _, h.at_.other h2 _, h.st.set i v, h.en.other h3.symm _, h.sa.other h4.symm _, h.wa.other h5.symm _⟩
theorem Cabs.setD (h : Cabs w n K a b c d e f C) (i : Nat) (v : Int) : Cabs (w.setCell ⟨d, i, none⟩ (.int .i64 v)) n K a b c d e f { C with en := updI C.en i v } := by
  obtain ⟨⟨-, -, h1, -⟩, ⟨-, h2, -⟩, ⟨h3, -⟩, ⟨h4, h5⟩, -⟩ := h.dis
  exact ⟨h.dis, h.ai.other h1 _, h.at_.other h2 _, h.st.other h3 _, h.en.set i v, h.sa.other h4.symm _, h.wa.other h5.symm _⟩
theorem Cabs.setE (h : Cabs w n K a b c d e f C) (i : Nat) (v : Int) : Cabs (w.setCell ⟨e, i, none⟩ (.int .i64 v)) n K a b c d e f { C with sa := updI C.sa i v } := by
  obtain ⟨⟨-, -, -, h1, -⟩, ⟨-, -, h2, -⟩, ⟨-, h3, -⟩, ⟨h4, -⟩, h5⟩ := h.dis
  exact ⟨h.dis, h.ai.other h1 _, h.at_.other h2 _, h.st.other h3 _, h.en.other h4 _, h.sa.set i v, h.wa.other h5.symm _⟩
theorem Cabs.setF (h : Cabs w n K a b c d e f C) (i : Nat) (v : Int) : Cabs (w.setCell ⟨f, i, none⟩ (.int .i64 v)) n K a b c d e f { C with wa := updI C.wa i v } := by
  obtain ⟨⟨-, -, -, -, h1⟩, ⟨-, -, -, h2⟩, ⟨-, -, h3⟩, ⟨-, h4⟩, h5⟩ := h.dis
  exact ⟨h.dis, h.ai.other h1 _, h.at_.other h2 _, h.st.other h3 _, h.en.other h4 _, h.sa.other h5 _, h.wa.set i v⟩
end
end Go.Proofs.Ytohnjdlhgcemjaa
