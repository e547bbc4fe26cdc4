/- A row of bytes of the call's own (what a conversion of a text lays): read, written, turned back into a text. -/
import Derived.Test.YtnbpdgkpamgcfaaDoorCur
import Derived.Lib.ConvBytes
import Derived.Laws.IdiomStrings
import Derived.Lib.Strings
namespace Go.Proofs.YtnbpdgkpamgcfaaDoor
open Go.RowKit

/-- block g begins with the bytes l, none of them frozen -/
def ByteRow (w : World) (g : Nat) (l : List UInt8) : Prop := ∃ (arr : Array Value) (e : TypeId) (m : Nat), w.heap[g]? = some (.cells arr e (m, m + 1)) ∧ l.length ≤ m ∧ m = arr.size ∧ ∀ j, j < l.length → arr[j]? = some (.int .u8 ((l[j]?.getD 0).toNat : Int))
theorem ByteRow.cell {w : World} {g : Nat} {l : List UInt8} (h : ByteRow w g l) (j : Nat) (hj : j < l.length) : w.cell? ⟨g, j, none⟩ = some (.int .u8 ((l[j]?.getD 0).toNat : Int)) := by
  obtain ⟨arr, e, m, hh, _, _, hc⟩ := h
  simp only [World.cell?, hh, Option.isSome_none, Bool.false_eq_true, if_false]
  exact hc j hj
theorem ByteRow.free {w : World} {g : Nat} {l : List UInt8} (h : ByteRow w g l) (j : Nat) (hj : j < l.length) : w.frozen? ⟨g, j, none⟩ = false := by
  obtain ⟨arr, e, m, hh, hm, _, hc⟩ := h
  simp only [World.frozen?, hh]
  have : ¬ m ≤ j := by omega
  simp [this]
theorem ByteRow.lt {w : World} {g : Nat} {l : List UInt8} (h : ByteRow w g l) : g < w.heap.size := by
  obtain ⟨arr, e, m, hh, _⟩ := h
  rcases Nat.lt_or_ge g w.heap.size with h' | h'
  · exact h'
  · rw [Array.getElem?_eq_none h'] at hh; cases hh
theorem ByteRow.set {w : World} {g : Nat} {l : List UInt8} (h : ByteRow w g l) (k : Nat) (d : UInt8) : ByteRow (w.setCell ⟨g, k, none⟩ (.int .u8 (d.toNat : Int))) g (l.set k d) := by
  have hlt := h.lt
  obtain ⟨arr, e, m, hh, hm, hs, hc⟩ := h
  have h' : w.heap[g] = .cells arr e (m, m + 1) := by simpa [Array.getElem?_eq_getElem hlt] using hh
  refine ⟨arr.setIfInBounds k (.int .u8 (d.toNat : Int)), e, m, ?_, by simpa using hm, by simpa using hs, fun j hj => ?_⟩
  · show (w.heap.modify g _)[g]? = _
    rw [Array.getElem?_eq_getElem (by simpa using hlt), Array.getElem_modify_self, h']
    simp
  · rw [List.length_set] at hj
    have := hc j hj
    rw [Array.getElem?_setIfInBounds, List.getElem?_set]
    by_cases hk : k = j
    · subst hk
      have h1 : k < arr.size := by omega
      simp [h1, hj]
    · simp only [hk, if_false]
      exact this
theorem ByteRow.drewN {w : World} {g : Nat} {l : List UInt8} (h : ByteRow w g l) (n : Nat) : ByteRow (w.drewN n) g l := h
theorem ByteRow.drew {w : World} {g : Nat} {l : List UInt8} (h : ByteRow w g l) : ByteRow w.drew g l := h

/-- the world behind '[]byte(s)' -/
theorem byteRow_made (w : World) (e : TypeId) (s : ByteArray) : ByteRow (Lib.bytesWorld w e s) w.heap.size s.data.toList := by
  refine ⟨Lib.bytesCells w e s, e, _, Lib.bytesWorld_at_new w e s, ?_, rfl, fun j hj => ?_⟩
  · simp only [Lib.bytesCells, Array.size_append, Array.size_map, Array.length_toList]
    omega
  · have hj' : j < s.size := by rw [Lib.size_eq]; exact hj
    have h1 := Lib.bytesWorld_cell w e s j hj'
    simp only [World.cell?, Lib.bytesWorld_at_new w e s, Option.isSome_none, Bool.false_eq_true, if_false] at h1
    rw [h1]
    simp [List.getD]
theorem below_bytes (w : World) (e : TypeId) (s : ByteArray) : Below w.heap.size w (Lib.bytesWorld w e s) := by
  refine ⟨?_, ?_, ?_, by rw [Lib.bytesWorld_size]; omega, fun k hk => Lib.bytesWorld_at_old w e s k hk⟩
  · simp [Lib.bytesWorld, World.freeze, World.alloc, World.drew, -World.alloc_eq, -World.drew_eq]
  · simp [Lib.bytesWorld, World.freeze, World.alloc, World.drew, -World.alloc_eq, -World.drew_eq]
  · simp [Lib.bytesWorld, World.freeze, World.alloc, World.drew, -World.alloc_eq, -World.drew_eq]

/-- 'string(b)' of such a row -/
theorem row_text {w : World} {g : Nat} {l : List UInt8} (h : ByteRow w g l) (cap : Nat) :
    (convert 22 9 (.slice (some ⟨g, 0, none⟩) l.length cap)).run Tryd.prog w = .ok (.string ⟨l.toArray⟩) w :=
  run_convert_bytes_back (P := Tryd.prog) w 22 9 5 ⟨g, 0, none⟩ cap l Tryd.underlying22 Tryd.underlying5 Tryd.underlying9 (fun j hj => by
    have hadd : (⟨g, 0, none⟩ : Addr).add j = ⟨g, j, none⟩ := by
      unfold Addr.add
      split
      · rename_i h; subst h; rfl
      · simp
    rw [hadd, h.cell j hj, List.getElem?_eq_getElem hj]
    rfl)
end Go.Proofs.YtnbpdgkpamgcfaaDoor
