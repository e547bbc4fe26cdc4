/- A block of the call's own that holds a list of one-cell values: what it reads as, what a store makes of it. Plain lemmas: no function of the program. -/
import Derived.Test.YtoedcklgpmhnnaaInStrs
namespace Go.Proofs.Ytoedcklgpmhnnaa
open Go.RowKit

/-- block g holds the cells xs of element type e, nothing of it is frozen -/
def OwnArr (w : World) (g : Nat) (e : TypeId) (xs : List Value) : Prop := w.heap[g]? = some (.cells xs.toArray e (0, 0))

theorem OwnArr.lt {w : World} {g : Nat} {e : TypeId} {xs : List Value} (h : OwnArr w g e xs) : g < w.heap.size := by
  unfold OwnArr at h
  rcases Nat.lt_or_ge g w.heap.size with h' | h'
  · exact h'
  · simp [Array.getElem?_eq_none h'] at h
theorem OwnArr.cell {w : World} {g : Nat} {e : TypeId} {xs : List Value} (h : OwnArr w g e xs) (i : Nat) : w.cell? ⟨g, i, none⟩ = xs[i]? := by
  unfold OwnArr at h
  simp [World.cell?, h]
theorem OwnArr.free {w : World} {g : Nat} {e : TypeId} {xs : List Value} (h : OwnArr w g e xs) (i : Nat) : w.frozen? ⟨g, i, none⟩ = false := by
  unfold OwnArr at h
  simp [World.frozen?, h]
theorem OwnArr.made (w : World) (e : TypeId) (xs : List Value) : OwnArr (w.alloc (.cells xs.toArray e)) w.heap.size e xs := by
  show (w.heap.push _)[w.heap.size]? = _
  rw [Array.getElem?_push_size]
theorem OwnArr.set {w : World} {g : Nat} {e : TypeId} {xs : List Value} (h : OwnArr w g e xs) (i : Nat) (v : Value) : OwnArr (w.setCell ⟨g, i, none⟩ v) g e (xs.set i v) := by
  have hlt := h.lt
  unfold OwnArr at *
  have h' : w.heap[g] = .cells xs.toArray e (0, 0) := by simpa [Array.getElem?_eq_getElem hlt] using h
  show (w.heap.modify g _)[g]? = _
  rw [Array.getElem?_eq_getElem (by simpa using hlt), Array.getElem_modify_self, h']
  simp
theorem OwnArr.below {w w' : World} {g : Nat} {e : TypeId} {xs : List Value} {B : Nat} (h : OwnArr w g e xs) (hb : Below B w w') (hg : g < B) : OwnArr w' g e xs := by
  unfold OwnArr at *
  rw [hb.block g hg]; exact h
theorem OwnArr.alloc {w : World} {g : Nat} {e : TypeId} {xs : List Value} (h : OwnArr w g e xs) (o : Obj) : OwnArr (w.alloc o) g e xs := by
  have hlt := h.lt
  unfold OwnArr at *
  rw [Below.heap_alloc w o g hlt]; exact h
theorem OwnArr.drew {w : World} {g : Nat} {e : TypeId} {xs : List Value} (h : OwnArr w g e xs) : OwnArr w.drew g e xs := h
theorem OwnArr.drewN {w : World} {g : Nat} {e : TypeId} {xs : List Value} (h : OwnArr w g e xs) (n : Nat) : OwnArr (w.drewN n) g e xs := h

theorem madeCells_one (z : Value) (n : Nat) : madeCells #[z] n = (List.replicate n z).toArray := by
  rw [← toList_madeCells_one]

/-- a fill in progress: the first k places are f's, the others hold z -/
def filled (f : Nat → Value) (z : Value) (n k : Nat) : List Value := (List.range n).map fun i => if i < k then f i else z
theorem filled_len (f : Nat → Value) (z : Value) (n k : Nat) : (filled f z n k).length = n := by simp [filled]
theorem filled_zero (f : Nat → Value) (z : Value) (n : Nat) : filled f z n 0 = List.replicate n z := by
  unfold filled
  apply List.ext_getElem?
  intro i
  simp only [List.getElem?_map, List.getElem?_replicate]
  by_cases h : i < n
  · simp [h]
  · simp [h]
theorem filled_get (f : Nat → Value) (z : Value) (n k i : Nat) (h : i < n) : (filled f z n k)[i]? = some (if i < k then f i else z) := by
  simp [filled, h]
theorem filled_set (f : Nat → Value) (z : Value) (n k : Nat) : (filled f z n k).set k (f k) = filled f z n (k + 1) := by
  apply List.ext_getElem?
  intro i
  rw [List.getElem?_set]
  by_cases hi : i < n
  · rw [filled_get f z n k i hi, filled_get f z n (k + 1) i hi, filled_len]
    by_cases hk : k = i
    · subst hk; simp [hi]
    · have e : (i < k) = (i < k + 1) := by apply propext; omega
      simp only [hk, if_false, e]
  · have l1 := filled_len f z n k
    have l2 := filled_len f z n (k + 1)
    rw [List.getElem?_eq_none (by omega : (filled f z n (k + 1)).length ≤ i), List.getElem?_eq_none (by omega : (filled f z n k).length ≤ i)]
    by_cases hk : k = i
    · subst hk; simp [l1]; omega
    · simp [hk]
end Go.Proofs.Ytoedcklgpmhnnaa
