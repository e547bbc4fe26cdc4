/- Both ParseInt, both AppendChecksum: one answer, named, for every text within the bounds. -/
import Derived.Test.YtnbpdgkpamgcfaaDoorSealMath
namespace Go.Proofs.YtnbpdgkpamgcfaaDoor
open Go.RowKit

def PAns (v : Int) (b : Bool) (w : World) (e : Ending) (w' : World) : Prop := e = .returned (.tuple #[.int .i64 v, .bool b]) ∧ Below w.heap.size w w'
def AAns (y : ByteArray) (b : Bool) (w : World) (e : Ending) (w' : World) : Prop := e = .returned (.tuple #[.string y, .bool b]) ∧ Below w.heap.size w w'

theorem parse_both (s : ByteArray) (hs : s.size ≤ 9223372036854775807) : ∃ (v : Int) (b : Bool),
    (∀ w, Calls Tryd.prog 16 #[.string s] w (PAns v b w)) ∧ (∀ w, TabOk w → Calls Tryd.prog 15 #[.string s] w (PAns v b w)) ∧
    (∀ m, IsNum s m → v = m ∧ b = true) := by
  by_cases h : ∃ m, IsNum s m
  · obtain ⟨m, hm⟩ := h
    refine ⟨m, true, fun w => parseS_yes s m hm w hs, fun w hT => parseI_yes s m hm w hT, fun m' hm' => ⟨?_, rfl⟩⟩
    by_cases hneg : 1 < s.size ∧ s.data.toList[0]?.getD 0 = 45
    · rw [← (valid_neg hneg.2 hm).2.2, (valid_neg hneg.2 hm').2.2]
    · rw [← (valid_plain hneg hm).2.2, (valid_plain hneg hm').2.2]
  · have h' := not_exists.1 h
    exact ⟨0, false, fun w => parseS_no s h' w hs, fun w hT => parseI_no s h' w hs hT, fun m hm => absurd hm (h' m)⟩
theorem app_both (s : ByteArray) (hs : s.size ≤ 9223372036854775807) : ∃ (y : ByteArray) (b : Bool),
    (∀ w, Calls Tryd.prog 19 #[.string s] w (AAns y b w)) ∧ (∀ w, TabOk w → Calls Tryd.prog 18 #[.string s] w (AAns y b w)) ∧
    ((b = true ∧ ApOk s ∧ y = sealS s) ∨ (b = false ∧ y = ⟨#[]⟩)) := by
  by_cases h : ApOk s
  · exact ⟨sealS s, true, fun w => appS_yes s w h, fun w hT => appI_yes s w h hT, Or.inl ⟨rfl, h, rfl⟩⟩
  · exact ⟨⟨#[]⟩, false, fun w => appS_no s w h hs, fun w hT => appI_no s w h hs hT, Or.inr ⟨rfl, rfl⟩⟩
theorem fmt_len (n : Int) : (fmtS n).size ≤ 1000000 := by
  by_cases h : -999999 ≤ n ∧ n ≤ 999999
  · rw [fmtS_in h]
    have := numS_len n (by omega) (by omega)
    omega
  · rw [fmtS_out h]
    decide
end Go.Proofs.YtnbpdgkpamgcfaaDoor
