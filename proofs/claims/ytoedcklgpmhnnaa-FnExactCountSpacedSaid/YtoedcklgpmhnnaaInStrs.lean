/- Slices of strings as the laws read them: 'InStrs w p ss': the places from p on hold the strings ss. Plain lemmas: no function of the program. -/
import Derived.Test.YtoedcklgpmhnnaaProg
import Derived.WalkKit
import Derived.WalkSpells
import Derived.WalkLawsBesides
import Derived.Lib.Hide
namespace Go.Proofs.Ytoedcklgpmhnnaa
open Go.RowKit

/-- the places from p on hold the strings ss -/
structure InStrs (w : World) (p : Option Addr) (ss : List ByteArray) : Prop where
  len : ss.length ≤ 9223372036854775807
  each : ∀ s ∈ ss, s.size ≤ 9223372036854775807
  cells : 0 < ss.length → ∃ b off, p = some ⟨b, off, none⟩ ∧ b < w.heap.size ∧ ∀ i, i < ss.length → w.cell? ⟨b, off + i, none⟩ = some (.string (ss[i]?.getD ByteArray.empty))

theorem InStrs.below {w w' : World} {p : Option Addr} {ss : List ByteArray} (h : InStrs w p ss) (hb : Below w.heap.size w w') : InStrs w' p ss := by
  refine ⟨h.len, h.each, fun h0 => ?_⟩
  obtain ⟨b, off, e, hlt, hc⟩ := h.cells h0
  exact ⟨b, off, e, Nat.lt_of_lt_of_le hlt hb.size, fun i hi => (hb.cell (p := ⟨b, off + i, none⟩) hlt).trans (hc i hi)⟩

theorem bel_drewN {B : Nat} {a w : World} (h : Below B a w) (n : Nat) : Below B a (w.drewN n) := h.trans ⟨rfl, rfl, rfl, Nat.le_refl _, fun _ _ => rfl⟩

theorem getD_mem (ss : List ByteArray) (i : Nat) (h : i < ss.length) : ss[i]?.getD ByteArray.empty ∈ ss := by
  rw [List.getElem?_eq_getElem h]; exact List.getElem_mem h

/-- the bytes of all strings together -/
def sizes (ss : List ByteArray) : Nat := (ss.map ByteArray.size).sum
theorem sizes_take (ss : List ByteArray) (k : Nat) (h : k < ss.length) : sizes (ss.take (k + 1)) = sizes (ss.take k) + (ss[k]?.getD ByteArray.empty).size := by
  unfold sizes
  rw [List.take_succ_eq_append_getElem h, List.map_append, List.sum_append, List.getElem?_eq_getElem h]
  simp
theorem sum_take_le (l : List Nat) : ∀ (k : Nat), (l.take k).sum ≤ l.sum := by
  induction l with
  | nil => intro k; simp
  | cons x r ih =>
    intro k
    cases k with
    | zero => simp
    | succ k => have := ih k; simp only [List.take_succ_cons, List.sum_cons]; omega
theorem sizes_le (ss : List ByteArray) (k : Nat) : sizes (ss.take k) ≤ sizes ss := by
  unfold sizes
  rw [List.map_take]; exact sum_take_le _ k
theorem sizes_all (ss : List ByteArray) (k : Nat) (h : ss.length ≤ k) : sizes (ss.take k) = sizes ss := by
  rw [List.take_of_length_le h]
theorem size_le_sizes (ss : List ByteArray) (s : ByteArray) (h : s ∈ ss) : s.size ≤ sizes ss := by
  unfold sizes
  induction ss with
  | nil => cases h
  | cons x r ih =>
    simp only [List.map_cons, List.sum_cons]
    rcases List.mem_cons.1 h with e | e
    · subst e; omega
    · have := ih e; omega
end Go.Proofs.Ytoedcklgpmhnnaa
