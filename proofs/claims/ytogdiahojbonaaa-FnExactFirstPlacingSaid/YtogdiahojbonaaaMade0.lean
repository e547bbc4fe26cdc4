/- What functions that make Rows give. Plain lemmas. -/
import Derived.Test.YtogdiahojbonaaaOut
namespace Go.Proofs.Ytogdiahojbonaaa
open Go.RowKit

/-- what a function that makes a Row gives: the Row and a flag -/
def MadeRow (w : World) (s : Int) (ring : Bool) (L : List Int) (B : Bool) (e : Ending) (w' : World) : Prop :=
  ∃ v, e = .returned (.tuple #[.agg #[.int .i64 s, .bool ring, v], .bool B]) ∧ Out w.heap.size w' v L ∧ Below w.heap.size w w'
theorem Out.none (B : Nat) (w : World) : Out B w (.slice none 0 0) [] := ⟨rfl, .inl ⟨rfl, rfl⟩⟩

/-- the Row that came in and the box of the Row that goes out, as such a function begins -/
structure Beg (w : World) (n : Int) (ring : Bool) (p : Option Addr) (m cap : Nat) (wb : World) : Prop where
  row : OwnArr wb w.heap.size 28 [.int .i64 n, .bool ring, .slice p m cap]
  res : OwnArr wb (w.heap.size + 1) 28 [.int .i64 0, .bool false, .slice none 0 0]
  bel : Below w.heap.size w wb
theorem Beg.start (w : World) (n : Int) (ring : Bool) (p : Option Addr) (m cap : Nat) :
    Beg w n ring p m cap ((w.alloc (.cells #[Value.int .i64 n, Value.bool ring, Value.slice p m cap] 28)).alloc (.cells #[Value.int .i64 0, Value.bool false, Value.slice none 0 0] 28)) :=
  ⟨(OwnArr.made w _ [_, _, _]).alloc _, OwnArr.mk' rfl (by simp), ((Below.refl _ _).alloc (Nat.le_refl _) _).alloc (by simp) _⟩
theorem Beg.next {w : World} {n : Int} {ring : Bool} {p : Option Addr} {m cap : Nat} {wb wc : World} (h : Beg w n ring p m cap wb) (hb : Below wb.heap.size wb wc) : Beg w n ring p m cap wc :=
  ⟨h.row.below hb h.row.lt, h.res.below hb h.res.lt, h.bel.trans (hb.mono h.bel.size)⟩
theorem Beg.next2 {w : World} {n : Int} {ring : Bool} {p : Option Addr} {m cap : Nat} {wb wc : World} (h : Beg w n ring p m cap wb) (hb : Below (w.heap.size + 2) wb wc) : Beg w n ring p m cap wc :=
  ⟨h.row.below hb (by omega), h.res.below hb (by omega), h.bel.trans (hb.mono (by omega))⟩
/-- a Row stored into the box that goes out -/
theorem Beg.out {w : World} {n : Int} {ring : Bool} {p : Option Addr} {m cap : Nat} {wb : World} (h : Beg w n ring p m cap wb) (x y z : Value) :
    OwnArr (((wb.setCell ⟨w.heap.size + 1, 0, none⟩ x).setCell ⟨w.heap.size + 1, 1, none⟩ y).setCell ⟨w.heap.size + 1, 2, none⟩ z) (w.heap.size + 1) 28 [x, y, z] ∧
    Below w.heap.size w (((wb.setCell ⟨w.heap.size + 1, 0, none⟩ x).setCell ⟨w.heap.size + 1, 1, none⟩ y).setCell ⟨w.heap.size + 1, 2, none⟩ z) :=
  ⟨((h.res.set 0 x).set 1 y).set 2 z, ((h.bel.setCell (by show _ ≤ w.heap.size + 1; omega) _).setCell (by show _ ≤ w.heap.size + 1; omega) _).setCell (by show _ ≤ w.heap.size + 1; omega) _⟩
end Go.Proofs.Ytogdiahojbonaaa
