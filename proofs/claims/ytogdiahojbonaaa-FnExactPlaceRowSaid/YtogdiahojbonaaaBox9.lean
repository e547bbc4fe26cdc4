/- A Row's box that is made and filled in a region that draws its order. Plain lemmas. -/
import Derived.Test.YtogdiahojbonaaaNe
import Derived.Deep.RegionHeld3
import Derived.Deep.DeepCutAuto
import Derived.StillTailTactics
namespace Go.Proofs.Ytogdiahojbonaaa
open Go.RowKit

theorem lt_of_cell9 {w : World} {a : Addr} {v : Value} (h : w.cell? a = some v) : a.block < w.heap.size := by
  rcases Nat.lt_or_ge a.block w.heap.size with h' | h'
  · exact h'
  · simp [World.cell?, Array.getElem?_eq_none h'] at h
theorem cell_alloc9 {w : World} {b i : Nat} {v : Value} {o : Obj} (h : w.cell? ⟨b, i, none⟩ = some v) : (w.alloc o).cell? ⟨b, i, none⟩ = some v := by
  have hb : b < w.heap.size := lt_of_cell9 h
  rw [World.cell?_alloc_past (w := w) _ b _ hb]; exact h
theorem cell_set9 {w : World} {b i : Nat} {v : Value} {a : Addr} {x : Value} (h : w.cell? ⟨b, i, none⟩ = some v) (hb : b ≠ a.block) : (w.setCell a x).cell? ⟨b, i, none⟩ = some v := by
  rw [← h]
  exact World.cell?_of_block (w := w) (a := ⟨b, i, none⟩) (Below.heap_setCell _ _ _ _ hb)

theorem Out.ri9 {B : Nat} {w : World} {q : Option Addr} {m c : Nat} {xs : List Int} (h : Out B w (.slice q m c) xs) : Ri B w.heap.size w q xs ∧ m ≤ c ∧ c ≤ maxLen := by
  obtain ⟨q', c', e, h1, h2, hR, -⟩ := h.rd
  simp only [Value.slice.injEq] at e
  obtain ⟨rfl, rfl, rfl⟩ := e
  exact ⟨hR, h1, h2⟩
theorem fin_box9 {wb x : World} {B g : Nat} {v : Value} {xs : List Int} {ys : List Value} {y0 y1 y2 : Value} (a b c : Value) (hz : OwnArr x g 28 ys) (hys : ys = [y0, y1, y2]) (hg : B ≤ g) (ho : Out B x v xs) (hb : Below B wb x) :
    OwnArr (((x.setCell ⟨g, 0, none⟩ a).setCell ⟨g, 1, none⟩ b).setCell ⟨g, 2, none⟩ c) g 28 [a, b, c] ∧ Out B (((x.setCell ⟨g, 0, none⟩ a).setCell ⟨g, 1, none⟩ b).setCell ⟨g, 2, none⟩ c) v xs ∧ Below B wb (((x.setCell ⟨g, 0, none⟩ a).setCell ⟨g, 1, none⟩ b).setCell ⟨g, 2, none⟩ c) := by
  subst hys
  exact ⟨((hz.set 0 a).set 1 b).set 2 c, ho.boxed hz _ _ _, ((hb.setCell (by show _ ≤ g; omega) _).setCell (by show _ ≤ g; omega) _).setCell (by show _ ≤ g; omega) _⟩
theorem z_two9 {w w' : World} (h : Below (w.alloc (.cells #[.int .i64 0, .bool false, .slice none 0 0] 28)).heap.size (w.alloc (.cells #[.int .i64 0, .bool false, .slice none 0 0] 28)) w') : OwnArr w' w.heap.size 28 [.int .i64 0, .bool false, .slice none 0 0] :=
  (OwnArr.made w 28 [.int .i64 0, .bool false, .slice none 0 0]).below h (OwnArr.made w 28 [.int .i64 0, .bool false, .slice none 0 0]).lt
theorem z_one9 {w x w' : World} (h : Below (w.alloc (.cells #[.int .i64 0, .bool false, .slice none 0 0] 28)).drew.heap.size (w.alloc (.cells #[.int .i64 0, .bool false, .slice none 0 0] 28)).drew x) (h2 : Below x.heap.size x w') : OwnArr w' w.heap.size 28 [.int .i64 0, .bool false, .slice none 0 0] :=
  ((OwnArr.made w 28 [.int .i64 0, .bool false, .slice none 0 0]).drew.below h (OwnArr.made w 28 [.int .i64 0, .bool false, .slice none 0 0]).lt).below h2 ((OwnArr.made w 28 [.int .i64 0, .bool false, .slice none 0 0]).drew.below h (OwnArr.made w 28 [.int .i64 0, .bool false, .slice none 0 0]).lt).lt

end Go.Proofs.Ytogdiahojbonaaa
