/- A row of numbers of the call's own is no box of a Row. Plain lemmas. -/
import Derived.Test.YtoedcklgpmhnnaaOut
namespace Go.Proofs.Ytoedcklgpmhnnaa
open Go.RowKit

theorem own_ne {B : Nat} {w : World} {v : Value} {xs : List Int} {R : Nat} {ys : List Value} (h : Out B w v xs) (hR : OwnArr w R 28 ys) : ¬ v.ownBlock = some R := by
  intro e
  rcases h.2 with ⟨hv, _⟩ | ⟨g, cap, cur, hv, _, hh, _⟩
  · subst hv; simp [Value.ownBlock] at e
  · subst hv
    simp only [Value.ownBlock, Option.some.injEq] at e
    subst e
    unfold OwnArr at hR
    rw [hR] at hh
    simp only [Option.some.injEq, Obj.cells.injEq] at hh
    exact absurd hh.2.1 (by decide)
theorem OwnArr.grown {w w' : World} {R : Nat} {e : TypeId} {xs : List Value} {row : Option Nat} (h : OwnArr w R e xs) (hg : w.grownBy w' row) (hr : ¬ row = some R) : OwnArr w' R e xs := by
  have hlt := h.lt
  unfold OwnArr at *
  rw [hg.block R hlt (fun e => hr e.symm)]; exact h
theorem Out.other {B : Nat} {w : World} {v : Value} {xs : List Int} (h : Out B w v xs) {a : Addr} (ha : ¬ v.ownBlock = some a.block) (u : Value) : Out B (w.setCell a u) v xs := by
  refine ⟨h.1, h.2.elim .inl (fun ⟨g, cap, cur, hv, hg, hh, r⟩ => .inr ⟨g, cap, cur, hv, hg, ?_, r⟩)⟩
  have : g ≠ a.block := by
    intro e
    apply ha
    rw [hv, ← e]
    rfl
  rw [Below.heap_setCell _ _ _ _ this]; exact hh

/-- .. and it stays while a Row is stored into the box -/
theorem Out.boxed {B : Nat} {w : World} {v : Value} {xs : List Int} {R : Nat} {ys : List Value} (h : Out B w v xs) (hR : OwnArr w R 28 ys) (x y z : Value) :
    Out B (((w.setCell ⟨R, 0, none⟩ x).setCell ⟨R, 1, none⟩ y).setCell ⟨R, 2, none⟩ z) v xs := by
  have hne := own_ne h hR
  exact ((h.other (a := ⟨R, 0, none⟩) hne _).other (a := ⟨R, 1, none⟩) hne _).other (a := ⟨R, 2, none⟩) hne _
end Go.Proofs.Ytoedcklgpmhnnaa
