/- A row of numbers of the call's own is no box of a Row. Plain lemmas. -/
import Derived.Test.YtkbpfjhikabbmaaOut
namespace Go.Proofs.Ytkbpfjhikabbmaa
open Go.RowKit

theorem OwnArr.grown {w w' : World} {R : Nat} {e : TypeId} {xs : List Value} {row : Option Nat} (h : OwnArr w R e xs) (hg : w.grownBy w' row) (hr : ¬ row = some R) : OwnArr w' R e xs := by
  have hlt := h.lt
  unfold OwnArr at *
  rw [hg.block R hlt (fun e => hr e.symm)]; exact h
theorem Out.other {B : Nat} {w : World} {v : Value} {xs : List Int} (h : Out B w v xs) {a : Addr} (ha : ¬ v.ownBlock = some a.block) (u : Value) : Out B (w.setCell a u) v xs := by
  refine ⟨h.1, h.2.elim .inl (fun ⟨g, cap, cur, hv, hg, hh, r⟩ => .inr ⟨g, cap, cur, hv, hg, ?_, r⟩)⟩
  have : g ≠ a.block := by
    intro e
    apply ha
    rw [hv, ← e]
    rfl
  rw [Below.heap_setCell _ _ _ _ this]; exact hh

end Go.Proofs.Ytkbpfjhikabbmaa
