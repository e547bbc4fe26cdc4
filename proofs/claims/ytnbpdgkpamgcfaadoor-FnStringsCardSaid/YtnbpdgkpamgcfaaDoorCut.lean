/- strings.Cut at one byte: the first piece of the text, whatever stands behind it. -/
import Derived.Test.YtnbpdgkpamgcfaaDoorSplitMath
import Derived.Test.YtnbpdgkpamgcfaaDoorShelfB
import Derived.Deep.QuietTactic
import Derived.BigQuiet
import Derived.IntWalk
namespace Go.Proofs.YtnbpdgkpamgcfaaDoor
open Go.RowKit

/-- the first piece of a text -/
def firstT (c : UInt8) (s : ByteArray) : ByteArray := ⟨((spAll c s.data.toList)[0]?.getD []).toArray⟩
theorem firstT_texts (c : UInt8) (s : ByteArray) : (spTexts c s)[0]?.getD ByteArray.empty = firstT c s := by
  unfold spTexts firstT
  cases h : spAll c s.data.toList with
  | nil => simp [spAll] at h
  | cons p r => simp
theorem firstT_some (c : UInt8) (s : ByteArray) (n : Nat) (_hn : n < s.size) (hl : s.data.toList = s.data.toList.take n ++ c :: s.data.toList.drop (n + 1)) (h0 : c ∉ s.data.toList.take n) : s.extract 0 n = firstT c s := by
  apply ByteArray.ext
  apply Array.ext'
  rw [Lib.extract_data]
  unfold firstT
  rw [hl, spAll_cut c _ _ h0, ← hl]
  simp
theorem firstT_none (c : UInt8) (s : ByteArray) (h : c ∉ s.data.toList) : s = firstT c s := by
  unfold firstT
  rw [spAll_plain c _ h]
  rfl
def CutAns (c : UInt8) (s : ByteArray) (w : World) (e : Ending) (w' : World) : Prop := ∃ (r : ByteArray) (b : Bool), e = .returned (.tuple #[.string (firstT c s), .string r, .bool b]) ∧ Below w.heap.size w w'
theorem cutAns_mk {c : UInt8} {s t r : ByteArray} {b : Bool} {w w' : World} {e : Ending} (ht : t = firstT c s) (he : e = .returned (.tuple #[.string t, .string r, .bool b])) (hb : Below w.heap.size w w') : CutAns c s w e w' := ⟨r, b, by rw [he, ht], hb⟩

set_option maxHeartbeats 400000 in
theorem liteCut_one (s : ByteArray) (c : UInt8) (w : World) (hs : s.size ≤ 1048576) :
    Calls Tryd.prog 59 #[.string s, .string ⟨#[c]⟩] w (CutAns c s w) := by
  by_cases h : 0 ≤ Lib.indexByte s.data.toList c
  · obtain ⟨n, hi, hn, hl, h0⟩ := index_split c s.data.toList h
    have hns : n < s.size := by rwa [Lib.size_eq]
    have HF := Lib.hid (firstT_some c s n hns hl h0)
    have HI := Lib.hid hi
    clear hi hl h0 h hn
    have hw1 : IntKind.i64.wrap ((n : Int) + 1) = (n : Int) + 1 := IntWalk.i64_in _ (by omega)
    have hw2 : (0 : Int) ≤ (n : Int) + 1 := by omega
    have hw3 : ((n : Int) + 1).toNat = n + 1 := by omega
    go_enter Tryd.func59, Tryd.ntmps59
    go_wp2_with fail
    refine (Tryd.stringslite_Index_one s c _).mono ?_
    rintro e w' ⟨rfl, rfl⟩
    rw [HI.out]
    go_wp2_with fail
    go_quiet (fail)
    go_wp2_with fail
    go_ret3
    exact cutAns_mk HF.out rfl (bel_drewN (Below.refl _ _) _)
  · have HF := Lib.hid (firstT_none c s (index_none c _ h))
    have h' : Lib.indexByte s.data.toList c < 0 := by omega
    clear h
    go_enter Tryd.func59, Tryd.ntmps59
    go_wp2_with fail
    refine (Tryd.stringslite_Index_one s c _).mono ?_
    rintro e w' ⟨rfl, rfl⟩
    go_wp2_with fail
    go_ret3
    exact cutAns_mk HF.out rfl (Below.refl _ _)
set_option maxHeartbeats 400000 in
theorem cut_one (s : ByteArray) (c : UInt8) (w : World) (hs : s.size ≤ 1048576) :
    Calls Tryd.prog 49 #[.string s, .string ⟨#[c]⟩] w (CutAns c s w) := by
  go_enter Tryd.func49, Tryd.ntmps49
  go_wp2_with fail
  refine (liteCut_one s c _ hs).mono ?_
  rintro e w' ⟨r, b, rfl, hb⟩
  go_wp2_with fail
  go_ret3
  exact ⟨r, b, rfl, hb⟩
end Go.Proofs.YtnbpdgkpamgcfaaDoor
