/- Both JoinStrings give one and the same answer, for every slice of strings of at most 1048576 strings and bytes together and every separator. -/
import Derived.Test.YtnbpdgkpamgcfaaDoorJoinImpl
namespace Go.Proofs.YtnbpdgkpamgcfaaDoor
open Go.RowKit

/-- the answer of both functions -/
def joinOut (sep : ByteArray) (ss : List ByteArray) : ByteArray := match sep.data.toList with
  | [c] => if 0 < ss.length ∧ joinGood c ss = true then joinP c ss ss.length else ⟨#[]⟩
  | _ => ⟨#[]⟩
def joinFlag (sep : ByteArray) (ss : List ByteArray) : Bool := match sep.data.toList with
  | [c] => if 0 < ss.length ∧ joinGood c ss = true then true else false
  | _ => false
def JoinAns (sep : ByteArray) (ss : List ByteArray) (w : World) (e : Ending) (w' : World) : Prop := e = .returned (.tuple #[.string (joinOut sep ss), .bool (joinFlag sep ss)]) ∧ Below w.heap.size w w'

theorem ans_no {sep : ByteArray} {ss : List ByteArray} {w w' : World} {e : Ending} (h : sep.size ≠ 1) (hn : NoJoin e) (hw : w = w') : JoinAns sep ss w e w' := by
  subst hw
  refine ⟨?_, Below.refl _ _⟩
  have h2 : sep.data.toList.length ≠ 1 := by rwa [← Lib.size_eq]
  unfold joinOut joinFlag
  rw [hn]
  revert h2
  cases sep.data.toList with
  | nil => intro _; rfl
  | cons a l =>
    cases l with
    | nil => intro h2; exact absurd rfl h2
    | cons b r => intro _; rfl
theorem ans_none {c : UInt8} {w w' : World} {e : Ending} (hn : NoJoin e) (hw : w = w') : JoinAns ⟨#[c]⟩ [] w e w' := by
  subst hw
  refine ⟨?_, Below.refl _ _⟩
  rw [hn]
  rfl
theorem ans_end {c : UInt8} {ss : List ByteArray} {w w' : World} {e : Ending} (h0 : 0 < ss.length) (h : JoinEnd c ss w e w') : JoinAns ⟨#[c]⟩ ss w e w' := by
  obtain ⟨h1, h2, h3⟩ := h
  refine ⟨?_, h3⟩
  have ed : (⟨#[c]⟩ : ByteArray).data.toList = [c] := rfl
  unfold joinOut joinFlag
  rw [ed]
  by_cases hg : joinGood c ss = true
  · rw [h1 hg]
    simp only [h0, hg, and_self, if_true]
  · have hf : joinGood c ss = false := by simpa using hg
    rw [h2 hf]
    simp [hf]
theorem sep_one {sep : ByteArray} (h : sep.size = 1) : ∃ c, sep = ⟨#[c]⟩ := by
  obtain ⟨⟨l⟩⟩ := sep
  match l, h with
  | [c], _ => exact ⟨c, rfl⟩
  | [], h => cases h
  | a :: b :: r, h => simp [ByteArray.size] at h

theorem joinS_all (p : Option Addr) (cap : Nat) (ss : List ByteArray) (sep : ByteArray) (w : World) (hin : InStrs w p ss) (hs : sep.size ≤ 9223372036854775807) (htot : (ss.length : Int) + sizes ss ≤ 1048576) :
    Calls Tryd.prog 26 #[.slice p ss.length cap, .string sep] w (JoinAns sep ss w) := by
  by_cases h1 : sep.size = 1
  · obtain ⟨c, rfl⟩ := sep_one h1
    cases ss with
    | nil => exact (joinS_none p cap c w).mono fun _ _ ⟨a, b⟩ => ans_none a b
    | cons x r => exact (joinS_some p cap (x :: r) c w hin (by simp) (by omega)).mono fun _ _ h => ans_end (by simp) h
  · exact (joinS_sep p ss.length cap sep w h1 hs).mono fun _ _ ⟨a, b⟩ => ans_no h1 a b
theorem joinI_all (p : Option Addr) (cap : Nat) (ss : List ByteArray) (sep : ByteArray) (w : World) (hin : InStrs w p ss) (hcap : ss.length ≤ cap) (hs : sep.size ≤ 9223372036854775807) (htot : (ss.length : Int) + sizes ss ≤ 1048576) :
    Calls Tryd.prog 25 #[.slice p ss.length cap, .string sep] w (JoinAns sep ss w) := by
  by_cases h1 : sep.size = 1
  · obtain ⟨c, rfl⟩ := sep_one h1
    cases ss with
    | nil => exact (joinI_none p cap c w).mono fun _ _ ⟨a, b⟩ => ans_none a b
    | cons x r => exact (joinI_some p cap (x :: r) c w hin (by simp) hcap htot).mono fun _ _ h => ans_end (by simp) h
  · exact (joinI_sep p ss.length cap sep w h1 hs).mono fun _ _ ⟨a, b⟩ => ans_no h1 a b
end Go.Proofs.YtnbpdgkpamgcfaaDoor
