/- Splitting a list of bytes at one byte: the pieces that are whole, and the one under way. Plain lemmas. -/
import Derived.Test.YtnbpdgkpamgcfaaDoorJoinMath
import Derived.Test.YtnbpdgkpamgcfaaDoorInStrs
namespace Go.Proofs.YtnbpdgkpamgcfaaDoor
open Go.RowKit

def spStep (c : UInt8) (st : List (List UInt8) × List UInt8) (a : UInt8) : List (List UInt8) × List UInt8 := if a = c then (st.1 ++ [st.2], []) else (st.1, st.2 ++ [a])
def spDone (c : UInt8) (l : List UInt8) : List (List UInt8) := (l.foldl (spStep c) ([], [])).1
def spCur (c : UInt8) (l : List UInt8) : List UInt8 := (l.foldl (spStep c) ([], [])).2
/-- all pieces -/
def spAll (c : UInt8) (l : List UInt8) : List (List UInt8) := spDone c l ++ [spCur c l]
/-- .. as texts -/
def spTexts (c : UInt8) (s : ByteArray) : List ByteArray := (spAll c s.data.toList).map fun l => ⟨l.toArray⟩
theorem spDone_snoc_sep (c : UInt8) (l : List UInt8) : spDone c (l ++ [c]) = spDone c l ++ [spCur c l] := by simp [spDone, spCur, spStep]
theorem spCur_snoc_sep (c : UInt8) (l : List UInt8) : spCur c (l ++ [c]) = [] := by simp [spCur, spStep]
theorem spDone_snoc_other (c a : UInt8) (l : List UInt8) (h : ¬ a = c) : spDone c (l ++ [a]) = spDone c l := by simp [spDone, spStep, h]
theorem spCur_snoc_other (c a : UInt8) (l : List UInt8) (h : ¬ a = c) : spCur c (l ++ [a]) = spCur c l ++ [a] := by simp [spCur, spStep, h]
theorem sp_len (c : UInt8) (l : List UInt8) : (spDone c l).length ≤ l.length := by
  have : ∀ (l : List UInt8) (st : List (List UInt8) × List UInt8), (l.foldl (spStep c) st).1.length ≤ st.1.length + l.length := by
    intro l
    induction l with
    | nil => intro st; simp
    | cons a l ih =>
      intro st
      simp only [List.foldl_cons, List.length_cons]
      have h1 := ih (spStep c st a)
      have h2 : (spStep c st a).1.length ≤ st.1.length + 1 := by
        unfold spStep
        split <;> simp
      omega
  simpa [spDone] using this l ([], [])
theorem sp_fold (c : UInt8) (l : List UInt8) : ∀ (d : List (List UInt8)) (cur : List UInt8), l.foldl (spStep c) (d, cur) = (d ++ (l.foldl (spStep c) ([], cur)).1, (l.foldl (spStep c) ([], cur)).2) := by
  induction l with
  | nil => intro d cur; simp
  | cons a l ih =>
    intro d cur
    simp only [List.foldl_cons]
    by_cases h : a = c
    · have e1 : spStep c (d, cur) a = (d ++ [cur], []) := by simp [spStep, h]
      have e2 : spStep c ([], cur) a = ([cur], []) := by simp [spStep, h]
      rw [e1, e2, ih (d ++ [cur]) [], ih [cur] []]
      simp
    · have e1 : spStep c (d, cur) a = (d, cur ++ [a]) := by simp [spStep, h]
      have e2 : spStep c ([], cur) a = ([], cur ++ [a]) := by simp [spStep, h]
      rw [e1, e2]
      exact ih d (cur ++ [a])
/-- no separator in it: it goes on -/
theorem sp_plain (c : UInt8) (l : List UInt8) (h : c ∉ l) : ∀ (d : List (List UInt8)) (cur : List UInt8), l.foldl (spStep c) (d, cur) = (d, cur ++ l) := by
  induction l with
  | nil => intro d cur; simp
  | cons a l ih =>
    intro d cur
    have ha : ¬ a = c := fun e => h (by simp [e])
    have e1 : spStep c (d, cur) a = (d, cur ++ [a]) := by simp [spStep, ha]
    rw [List.foldl_cons, e1, ih (fun hm => h (by simp [hm]))]
    simp
theorem spAll_plain (c : UInt8) (l : List UInt8) (h : c ∉ l) : spAll c l = [l] := by
  simp [spAll, spDone, spCur, sp_plain c l h]
/-- the first piece, and the pieces of what stands behind the separator -/
theorem spAll_cut (c : UInt8) (a b : List UInt8) (h : c ∉ a) : spAll c (a ++ c :: b) = a :: spAll c b := by
  unfold spAll spDone spCur
  rw [List.foldl_append, sp_plain c a h, List.foldl_cons]
  have e1 : spStep c ([], [] ++ a) c = ([a], []) := by simp [spStep]
  rw [e1, sp_fold c b [a] []]
  simp
theorem spTexts_len (c : UInt8) (s : ByteArray) : (spTexts c s).length ≤ s.size + 1 := by
  have := sp_len c s.data.toList
  simp [spTexts, spAll]
  rw [Lib.size_eq]
  simpa using this
theorem spTexts_pos (c : UInt8) (s : ByteArray) : 0 < (spTexts c s).length := by simp [spTexts, spAll]
/-- where the byte stands first -/
theorem index_split (c : UInt8) : ∀ (l : List UInt8), 0 ≤ Lib.indexByte l c → ∃ n : Nat, Lib.indexByte l c = (n : Int) ∧ n < l.length ∧ l = l.take n ++ c :: l.drop (n + 1) ∧ c ∉ l.take n := by
  intro l
  induction l with
  | nil => intro h; simp [Lib.indexByte] at h
  | cons b l ih =>
    intro h
    by_cases hb : b = c
    · subst hb
      exact ⟨0, by simp [Lib.indexByte], by simp, by simp, by simp⟩
    · have h1 : (b == c) = false := by simpa using hb
      have hge := indexByte_ge l c
      by_cases hm : Lib.indexByte l c = -1
      · simp [Lib.indexByte, hb, hm] at h
      · have h2 : (Lib.indexByte l c == -1) = false := by simpa using hm
        obtain ⟨n, e, hlt, hl, hn⟩ := ih (by omega)
        refine ⟨n + 1, ?_, by simp; omega, ?_, ?_⟩
        · simp only [Lib.indexByte, h1, h2, Bool.false_eq_true, if_false]
          omega
        · simp only [List.take_succ_cons, List.drop_succ_cons, List.cons_append]
          rw [← hl]
        · simp only [List.take_succ_cons, List.mem_cons, not_or]
          exact ⟨fun e => hb e.symm, hn⟩
theorem index_none (c : UInt8) (l : List UInt8) (h : ¬ 0 ≤ Lib.indexByte l c) : c ∉ l := fun hm => h ((indexByte_iff l c).2 hm)
end Go.Proofs.YtnbpdgkpamgcfaaDoor
