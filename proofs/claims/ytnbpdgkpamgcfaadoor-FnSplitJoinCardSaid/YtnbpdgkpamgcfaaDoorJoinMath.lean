/- What joining strings with one byte between them gives, place by place; when it is allowed. Plain lemmas. -/
import Derived.Test.YtnbpdgkpamgcfaaDoorInStrs
import Derived.Test.YtnbpdgkpamgcfaaDoorStands
import Derived.Lib.Join
import Derived.Lib.Strings
import Derived.Lib.Bytealg
namespace Go.Proofs.YtnbpdgkpamgcfaaDoor
open Go.RowKit

/-- the join of the first k strings -/
def joinP (c : UInt8) (ss : List ByteArray) (k : Nat) : ByteArray := ⟨(Lib.join ((ss.take k).map (·.data.toList)) [c]).toArray⟩
/-- no string holds the byte, and the whole fits -/
def joinGood (c : UInt8) (ss : List ByteArray) : Bool := ss.all (fun s => !hasB s.data.toList c) && decide (sizes ss + (ss.length - 1) ≤ 4000)

theorem lens_sizes (ss : List ByteArray) : Lib.lens (ss.map (·.data.toList)) = sizes ss := by
  unfold Lib.lens sizes
  rw [List.map_map]
  congr 1

theorem joinP_size (c : UInt8) (ss : List ByteArray) (k : Nat) (h : k ≤ ss.length) : (joinP c ss k).size = sizes (ss.take k) + (k - 1) := by
  rw [← lens_sizes, Lib.size_eq]
  simp only [joinP, List.toList_toArray]
  have hl : ((ss.take k).map (·.data.toList)).length = k := by simp; omega
  revert hl
  generalize (ss.take k).map (·.data.toList) = xs
  intro hl
  cases xs with
  | nil => simp at hl; subst hl; simp [Lib.join_nil, Lib.lens]
  | cons x r => rw [Lib.join_length]; simp at hl; subst hl; simp; omega
theorem joinP_zero (c : UInt8) (ss : List ByteArray) : joinP c ss 0 = ⟨#[]⟩ := rfl
theorem mk_append (a b : List UInt8) : (⟨a.toArray⟩ : ByteArray) ++ ⟨b.toArray⟩ = ⟨(a ++ b).toArray⟩ := by
  rw [ByteArray.mk_append_mk]
theorem joinP_one (c : UInt8) (ss : List ByteArray) (h : 0 < ss.length) : joinP c ss 1 = ⟨#[]⟩ ++ (ss[0]?.getD ByteArray.empty) := by
  cases ss with
  | nil => simp at h
  | cons x r =>
    simp only [joinP, List.take_succ_cons, List.take_zero, List.map_cons, List.map_nil, Lib.join_one, List.getElem?_cons_zero, Option.getD_some]
    obtain ⟨⟨l⟩⟩ := x
    rw [ByteArray.mk_append_mk]; simp
theorem joinP_succ (c : UInt8) (ss : List ByteArray) (k : Nat) (h : k < ss.length) (h0 : 0 < k) : joinP c ss (k + 1) = joinP c ss k ++ ⟨#[c]⟩ ++ (ss[k]?.getD ByteArray.empty) := by
  cases ss with
  | nil => simp at h
  | cons x r =>
    obtain ⟨j, rfl⟩ : ∃ j, k = j + 1 := ⟨k - 1, by omega⟩
    have hj : j < r.length := by simpa using h
    simp only [joinP, List.take_succ_cons, List.map_cons, Lib.join_cons, List.getElem?_cons_succ, List.getElem?_eq_getElem hj, Option.getD_some]
    have e := Lib.joinTail_take_succ [c] (r.map (·.data.toList)) j r[j].data.toList (by simp [hj])
    rw [List.map_take, e, ← List.map_take]
    generalize Lib.joinTail [c] (List.map (·.data.toList) (List.take j r)) = T
    obtain ⟨⟨l⟩⟩ := r[j]
    rw [ByteArray.mk_append_mk, ByteArray.mk_append_mk]
    simp
theorem indexByte_ge (l : List UInt8) (c : UInt8) : -1 ≤ Lib.indexByte l c := by
  induction l with
  | nil => simp [Lib.indexByte]
  | cons a l ih =>
    simp only [Lib.indexByte]
    split
    · omega
    · split <;> omega
theorem indexByte_iff (l : List UInt8) (c : UInt8) : 0 ≤ Lib.indexByte l c ↔ c ∈ l := by
  induction l with
  | nil => simp [Lib.indexByte]
  | cons b l ih =>
    have hge := indexByte_ge l c
    simp only [Lib.indexByte, List.mem_cons]
    by_cases h : b = c
    · subst h; simp
    · have h1 : (b == c) = false := by simpa using h
      simp only [h1, Bool.false_eq_true, if_false, Ne.symm h, false_or]
      rw [← ih]
      by_cases hm : Lib.indexByte l c = -1
      · simp [hm]
      · have : (Lib.indexByte l c == -1) = false := by simpa using hm
        simp only [this, Bool.false_eq_true, if_false]
        omega
theorem indexByte_has (l : List UInt8) (c : UInt8) : decide (0 ≤ Lib.indexByte l c) = hasB l c := by
  rw [Bool.eq_iff_iff, decide_eq_true_eq, indexByte_iff]
  simp [hasB]
theorem joinGood_each {c : UInt8} {ss : List ByteArray} (h : joinGood c ss = true) : ∀ s ∈ ss, hasB s.data.toList c = false := by
  intro s hs
  unfold joinGood at h
  rw [Bool.and_eq_true, List.all_eq_true] at h
  simpa using h.1 s hs
theorem joinGood_len {c : UInt8} {ss : List ByteArray} (h : joinGood c ss = true) : sizes ss + (ss.length - 1) ≤ 4000 := by
  unfold joinGood at h
  rw [Bool.and_eq_true] at h
  simpa using h.2
theorem joinGood_mk {c : UInt8} {ss : List ByteArray} (h1 : ∀ k, k < ss.length → hasB (ss[k]?.getD ByteArray.empty).data.toList c = false) (h2 : sizes ss + (ss.length - 1) ≤ 4000) : joinGood c ss = true := by
  unfold joinGood
  rw [Bool.and_eq_true, List.all_eq_true]
  refine ⟨fun s hs => ?_, by simpa using h2⟩
  obtain ⟨i, hi⟩ := List.getElem?_of_mem hs
  have hlt : i < ss.length := by
    rcases Nat.lt_or_ge i ss.length with h | h
    · exact h
    · rw [List.getElem?_eq_none h] at hi; cases hi
  have := h1 i hlt
  rw [hi] at this
  simpa using this
end Go.Proofs.YtnbpdgkpamgcfaaDoor
