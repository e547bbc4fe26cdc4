/- Which text tells a Row, as mathematics; strings.CutPrefix at a text of five bytes. -/
import Derived.Test.YtbgmfjhcgfnfoaaText0
import Derived.Lib.Strings
namespace Go.Proofs.Ytbgmfjhcgfnfoaa
open Go.RowKit

/-- the byte at a place is the sign of a taken seat -/
def sgnT (s : ByteArray) (o : Nat) (p : Nat) : Bool := decide (s.data.toList[o + p]?.getD 0 = 120)
theorem sgnT_get {s : ByteArray} {o p : Nat} (h : o + p < s.size) : sgnT s o p = ((s[o + p].toNat : Int) == 120) := by
  have hl : o + p < s.data.toList.length := by rw [← Lib.size_eq]; exact h
  have e : s[o + p].toNat = 120 ↔ s[o + p] = 120 := ⟨fun e => UInt8.toNat_inj.1 e, fun e => by rw [e]; rfl⟩
  have e2 : s.data.toList[o + p]?.getD 0 = s[o + p] := by rw [List.getElem?_eq_getElem hl]; rfl
  unfold sgnT
  rw [e2]
  by_cases h1 : s[o + p] = 120
  · rw [decide_eq_true h1]
    symm
    rw [beq_iff_eq]
    have := e.2 h1
    omega
  · rw [decide_eq_false h1]
    symm
    rw [beq_eq_false_iff_ne]
    intro h2
    exact h1 (e.1 (by omega))
def has5 (s pre : ByteArray) : Bool := (s.extract 0 5).toList == pre.toList
def pre5 (s pre : ByteArray) : Bool := decide (5 ≤ s.size) && has5 s pre
def cutT (s pre : ByteArray) : ByteArray := if pre5 s pre then s.extract 5 s.size else s

theorem hasPre_any (s pre : ByteArray) (w : World) (hp : pre.size = 5) (hs : s.size ≤ 9223372036854775807) :
    Calls Try.prog 71 #[.string s, .string pre] w fun e w' => e = .returned (.bool (pre5 s pre)) ∧ w = w' := by
  unfold pre5 has5
  by_cases h : 5 ≤ s.size
  · have h1 : (5 : Int) ≤ (s.size : Int) := by omega
    go_enter Try.func71, Try.ntmps71
    go_wp2
    go_ret
    exact ⟨ret_bool (by simp [h]), rfl⟩
  · have h1 : ¬ (5 : Int) ≤ (s.size : Int) := by omega
    go_enter Try.func71, Try.ntmps71
    go_wp2
    go_ret
    exact ⟨ret_bool (by simp), rfl⟩
theorem cutLite_any (s pre : ByteArray) (w : World) (hp : pre.size = 5) (hs : s.size ≤ 9223372036854775807) :
    Calls Try.prog 66 #[.string s, .string pre] w fun e w' => e = .returned (.tuple #[.string (cutT s pre), .bool (pre5 s pre)]) ∧ w = w' := by
  have H := Lib.hid (fun w' => hasPre_any s pre w' hp hs)
  unfold cutT
  obtain ⟨b, hb⟩ : ∃ b, pre5 s pre = b := ⟨_, rfl⟩
  rw [hb] at H ⊢
  cases b with
  | true =>
    have h5 : 5 ≤ s.size := by unfold pre5 at hb; simp at hb; exact hb.1
    have h1 : (5 : Int) ≤ (s.size : Int) := by omega
    clear hb
    go_enter Try.func66, Try.ntmps66
    go_wp2_with fail
    refine (H.out _).mono ?_
    rintro e w' ⟨rfl, rfl⟩
    go_wp2_with fail
    go_ret2
    exact ⟨rfl, rfl⟩
  | false =>
    clear hb
    go_enter Try.func66, Try.ntmps66
    go_wp2_with fail
    refine (H.out _).mono ?_
    rintro e w' ⟨rfl, rfl⟩
    go_wp2_with fail
    go_ret2
    exact ⟨rfl, rfl⟩
theorem cutPrefix_any (s pre : ByteArray) (w : World) (hp : pre.size = 5) (hs : s.size ≤ 9223372036854775807) :
    Calls Try.prog 52 #[.string s, .string pre] w fun e w' => e = .returned (.tuple #[.string (cutT s pre), .bool (pre5 s pre)]) ∧ w = w' := by
  have H := Lib.hid (fun w' => cutLite_any s pre w' hp hs)
  go_enter Try.func52, Try.ntmps52
  go_wp2_with fail
  refine (H.out _).mono ?_
  rintro e w' ⟨rfl, rfl⟩
  go_wp2_with fail
  go_ret2
  exact ⟨rfl, rfl⟩

/-- the text tells a ring -/
def ringT (s : ByteArray) : Bool := pre5 s (preT true)
/-- the text tells a Row -/
def okT (s : ByteArray) : Bool := decide (5 ≤ s.size) && rowB ((s.size - 5 : Nat) : Int) (ringT s) (ints (tk (s.size - 5) (sgnT s 5))) && ((textT (ringT s) (sgnT s 5) (s.size - 5)).toList == s.toList)
theorem toList_size {a b : ByteArray} (h : (a.toList == b.toList) = true) : a.size = b.size := by
  have e : a.toList = b.toList := by simpa using h
  rw [ByteArray.toList_eq, ByteArray.toList_eq] at e
  rw [Lib.size_eq, Lib.size_eq, e]
end Go.Proofs.Ytbgmfjhcgfnfoaa
