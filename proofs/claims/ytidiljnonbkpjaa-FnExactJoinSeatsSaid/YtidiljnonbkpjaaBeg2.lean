/- Two Rows that came in and the box of a Row that goes out; what two joined lines are. Plain lemmas. -/
import Derived.Test.YtidiljnonbkpjaaMade0
import Derived.Test.YtidiljnonbkpjaaIsRow
namespace Go.Proofs.Ytidiljnonbkpjaa
open Go.RowKit

structure Beg2 (w : World) (a b : List Value) (wb : World) : Prop where
  one : OwnArr wb w.heap.size 26 a
  two : OwnArr wb (w.heap.size + 1) 26 b
  res : OwnArr wb (w.heap.size + 2) 26 [.int .i64 0, .bool false, .slice none 0 0]
  bel : Below w.heap.size w wb
abbrev rowL (s : Int) (ring : Bool) (p : Option Addr) (m cap : Nat) : List Value := [.int .i64 s, .bool ring, .slice p m cap]
theorem Beg2.start (w : World) (s1 : Int) (r1 : Bool) (p1 : Option Addr) (m1 c1 : Nat) (s2 : Int) (r2 : Bool) (p2 : Option Addr) (m2 c2 : Nat) :
    Beg2 w (rowL s1 r1 p1 m1 c1) (rowL s2 r2 p2 m2 c2) (((w.alloc (.cells #[Value.int .i64 s1, Value.bool r1, Value.slice p1 m1 c1] 26)).alloc (.cells #[Value.int .i64 s2, Value.bool r2, Value.slice p2 m2 c2] 26)).alloc (.cells #[Value.int .i64 0, Value.bool false, Value.slice none 0 0] 26)) :=
  ⟨((OwnArr.made w _ [_, _, _]).alloc _).alloc _, (OwnArr.mk' rfl (by simp)).alloc _, OwnArr.mk' rfl (by simp), (((Below.refl _ _).alloc (Nat.le_refl _) _).alloc (by simp) _).alloc (by simp; omega) _⟩
theorem Beg2.next {w : World} {a b : List Value} {wb wc : World} (h : Beg2 w a b wb) (hb : Below wb.heap.size wb wc) : Beg2 w a b wc :=
  ⟨h.one.below hb h.one.lt, h.two.below hb h.two.lt, h.res.below hb h.res.lt, h.bel.trans (hb.mono h.bel.size)⟩
theorem Beg2.next3 {w : World} {a b : List Value} {wb wc : World} (h : Beg2 w a b wb) (hb : Below (w.heap.size + 3) wb wc) : Beg2 w a b wc :=
  ⟨h.one.below hb (by omega), h.two.below hb (by omega), h.res.below hb (by omega), h.bel.trans (hb.mono (by omega))⟩
theorem Beg2.drew {w : World} {a b : List Value} {wb : World} (h : Beg2 w a b wb) : Beg2 w a b wb.drew := h.next ((Below.refl _ _).drew)
theorem Beg2.out {w : World} {a b : List Value} {wb : World} (h : Beg2 w a b wb) (x y z : Value) :
    OwnArr (((wb.setCell ⟨w.heap.size + 2, 0, none⟩ x).setCell ⟨w.heap.size + 2, 1, none⟩ y).setCell ⟨w.heap.size + 2, 2, none⟩ z) (w.heap.size + 2) 26 [x, y, z] ∧
    Below w.heap.size w (((wb.setCell ⟨w.heap.size + 2, 0, none⟩ x).setCell ⟨w.heap.size + 2, 1, none⟩ y).setCell ⟨w.heap.size + 2, 2, none⟩ z) :=
  ⟨((h.res.set 0 x).set 1 y).set 2 z, ((h.bel.setCell (by show _ ≤ w.heap.size + 2; omega) _).setCell (by show _ ≤ w.heap.size + 2; omega) _).setCell (by show _ ≤ w.heap.size + 2; omega) _⟩

/-- the seats of two lines, one behind the other -/
def joinS (a : Nat) (S T : Nat → Bool) (i : Nat) : Bool := if i < a then S i else T (i - a)
theorem joinB {a b : Nat} {F : Nat → Bool} (h1 : 2 ≤ a) : rowB ((a + b : Nat) : Int) false (ints (tk (a + b) F)) = decide (a + b ≤ 24) := by
  by_cases h : a + b ≤ 24
  · rw [rowB_of (by omega) h (fun e => absurd e (by simp))]; simp [h]
  · unfold rowB
    have : ¬ ((a + b : Nat) : Int) ≤ 24 := by omega
    rw [decide_eq_false this]
    simp [h]
theorem cell_setJ {w : World} {b i : Nat} {v : Value} {a : Addr} {x : Value} (h : w.cell? ⟨b, i, none⟩ = some v) (hb : b ≠ a.block) : (w.setCell a x).cell? ⟨b, i, none⟩ = some v := by
  rw [← h]
  exact World.cell?_of_block (w := w) (a := ⟨b, i, none⟩) (Below.heap_setCell _ _ _ _ hb)
/-- .. behind a Row stored elsewhere -/
theorem cell_set3J {w : World} {b c i : Nat} {v x y z : Value} (h : w.cell? ⟨b, i, none⟩ = some v) (hb : b ≠ c) : (((w.setCell ⟨c, 0, none⟩ x).setCell ⟨c, 1, none⟩ y).setCell ⟨c, 2, none⟩ z).cell? ⟨b, i, none⟩ = some v :=
  cell_setJ (cell_setJ (cell_setJ h hb) hb) hb
theorem z_oneJ {w x : World} (h : Below (w.alloc (.cells #[.int .i64 0, .bool false, .slice none 0 0] 26)).drew.heap.size (w.alloc (.cells #[.int .i64 0, .bool false, .slice none 0 0] 26)).drew x) : OwnArr x w.heap.size 26 [.int .i64 0, .bool false, .slice none 0 0] :=
  (OwnArr.made w 26 [.int .i64 0, .bool false, .slice none 0 0]).drew.below h (OwnArr.made w 26 [.int .i64 0, .bool false, .slice none 0 0]).lt
theorem z_twoJ {w w' : World} (h : Below (w.alloc (.cells #[.int .i64 0, .bool false, .slice none 0 0] 26)).heap.size (w.alloc (.cells #[.int .i64 0, .bool false, .slice none 0 0] 26)) w') : OwnArr w' w.heap.size 26 [.int .i64 0, .bool false, .slice none 0 0] :=
  (OwnArr.made w 26 [.int .i64 0, .bool false, .slice none 0 0]).below h (OwnArr.made w 26 [.int .i64 0, .bool false, .slice none 0 0]).lt
theorem lt_of_cellJ {w : World} {a : Addr} {v : Value} (h : w.cell? a = some v) : a.block < w.heap.size := by
  rcases Nat.lt_or_ge a.block w.heap.size with h' | h'
  · exact h'
  · simp [World.cell?, Array.getElem?_eq_none h'] at h
theorem cell_allocJ {w : World} {b i : Nat} {v : Value} {o : Obj} (h : w.cell? ⟨b, i, none⟩ = some v) : (w.alloc o).cell? ⟨b, i, none⟩ = some v := by
  have hb : b < w.heap.size := lt_of_cellJ h
  rw [World.cell?_alloc_past (w := w) _ b _ hb]; exact h
/-- two Rows cannot be joined -/
inductive NoJoin (s1 : Int) (r1 : Bool) (xs1 : List Int) (s2 : Int) (r2 : Bool) (xs2 : List Int) : Prop
  | a (h : rowB s1 r1 xs1 = false)
  | b (h : rowB s1 r1 xs1 = true) (h' : rowB s2 r2 xs2 = false)
  | c (h : rowB s1 r1 xs1 = true) (h' : rowB s2 r2 xs2 = true) (h1 : r1 = true)
  | d (h : rowB s1 r1 xs1 = true) (h' : rowB s2 r2 xs2 = true) (h1 : r1 = false) (h2 : r2 = true)
end Go.Proofs.Ytidiljnonbkpjaa
