/- The laws' own helpers on Rows: szRow, toRow, eqRow, markRow, heldRow. -/
import Derived.Test.YtkbpfjhikabbmaaInts
import Derived.Laws.ResultCell
namespace Go.Proofs.Ytkbpfjhikabbmaa
open Go.RowKit

/-- a Row as a value -/
abbrev rowV (s : Int) (ring : Bool) (p : Option Addr) (n cap : Nat) : Value := .agg #[.int .i64 s, .bool ring, .slice p n cap]

theorem OwnArr.three {w : World} {b : Nat} {e : TypeId} {x y z : Value} (h : OwnArr w b e [x, y, z]) :
    w.cell? ⟨b, 0, none⟩ = some x ∧ w.cell? ⟨b, 1, none⟩ = some y ∧ w.cell? ⟨b, 2, none⟩ = some z ∧ w.frozen? ⟨b, 0, none⟩ = false ∧ w.frozen? ⟨b, 1, none⟩ = false ∧ w.frozen? ⟨b, 2, none⟩ = false :=
  ⟨h.cell 0, h.cell 1, h.cell 2, h.free 0, h.free 1, h.free 2⟩
/-- a block just made, by the number that the walk gives it -/
theorem OwnArr.mk' {w : World} {n : Nat} {e : TypeId} {C : Array Value} {xs : List Value} (hC : C = xs.toArray) (hn : n = w.heap.size) : OwnArr (w.alloc (.cells C e)) n e xs := by
  subst hn; subst hC; exact OwnArr.made w e xs

theorem OwnArr.other {w : World} {b : Nat} {e : TypeId} {xs : List Value} (h : OwnArr w b e xs) {a : Addr} (ha : b ≠ a.block) (v : Value) : OwnArr (w.setCell a v) b e xs := by
  unfold OwnArr at *
  rw [Below.heap_setCell _ _ _ _ ha]; exact h

theorem results_cell {fn : Func} {p : Tmp} {ty : TypeId} (h : fn.results = #[.cell p ty]) (tmps : Array Value) (P : Program) (w : World) :
    (results fn tmps).run P w = ((asAddr (tmps.getD p undef)).run P w).andThen fun a w₁ => (loadVar ty a).run P w₁ := by
  simp only [results, h]
  simp [Sem.run_bind, Result.andThen]
end Go.Proofs.Ytkbpfjhikabbmaa
