/- spec.l1Seal; spec.AppendChecksum and impl.AppendChecksum give the same answer for every text. -/
import Derived.Test.YtnbpdgkpamgcfaaDoorLibStr
import Derived.Test.YtnbpdgkpamgcfaaDoorFmt
import Derived.Test.YtnbpdgkpamgcfaaDoorStands
namespace Go.Proofs.YtnbpdgkpamgcfaaDoor
open Go.RowKit

/-- the text with its checksum -/
def sealS (s : ByteArray) : ByteArray := s ++ ⟨#[35]⟩ ++ numS (sumB s.data.toList)
theorem sum_lo (s : ByteArray) : -999999 ≤ sumB s.data.toList := by have := (sumB_bd s.data.toList).1; omega
theorem sum_hi (s : ByteArray) : sumB s.data.toList ≤ 999999 := by have := (sumB_bd s.data.toList).2; omega
theorem seal_size (s : ByteArray) : (sealS s).size = s.size + 1 + (numS (sumB s.data.toList)).size := by
  unfold sealS
  rw [ByteArray.size_append, ByteArray.size_append]
  rfl
def ApYes (s : ByteArray) (w : World) (e : Ending) (w' : World) : Prop := e = .returned (.tuple #[.string (sealS s), .bool true]) ∧ Below w.heap.size w w'
def ApNo (w : World) (e : Ending) (w' : World) : Prop := e = .returned (.tuple #[.string ⟨#[]⟩, .bool false]) ∧ Below w.heap.size w w'
/-- s may be sealed -/
structure ApOk (s : ByteArray) : Prop where
  len : s.size ≤ 4000
  mark : hasB s.data.toList 35 = false
  whole : (sealS s).size ≤ 4000
theorem not_ok {s : ByteArray} (h : ¬ ApOk s) : 4000 < s.size ∨ (s.size ≤ 4000 ∧ hasB s.data.toList 35 = true) ∨ (s.size ≤ 4000 ∧ hasB s.data.toList 35 = false ∧ 4000 < (sealS s).size) := by
  by_cases h1 : s.size ≤ 4000
  · by_cases h2 : hasB s.data.toList 35 = true
    · exact Or.inr (Or.inl ⟨h1, h2⟩)
    · have h2 : hasB s.data.toList 35 = false := by simpa using h2
      by_cases h3 : (sealS s).size ≤ 4000
      · exact absurd ⟨h1, h2, h3⟩ h
      · exact Or.inr (Or.inr ⟨h1, h2, by omega⟩)
  · exact Or.inl (by omega)

set_option maxHeartbeats 400000 in
theorem l1Seal_any (s : ByteArray) (w : World) (hs : s.size ≤ 1048576) :
    Calls Tryd.prog 48 #[.string s] w fun e w' => e = .returned (.string (sealS s)) ∧ ∃ q, w' = w.drewN q := by
  have HS : Hid (sealS s = s ++ ⟨#[35]⟩ ++ numS (sumB s.data.toList)) := Lib.hid rfl
  have h0 := sum_lo s
  have h1 := sum_hi s
  have hl := numS_len (sumB s.data.toList) (by omega) (by omega)
  go_enter Tryd.func48, Tryd.ntmps48
  go_wp2_with (first
    | (go_at_call 58; refine (l1Sum_any s _ (by unfold maxLen; omega)).mono ?_; rintro e w' ⟨rfl, rfl⟩)
    | (go_at_call 39; refine (l1Num_any _ _ (by omega) (by omega)).mono ?_; rintro e w' ⟨rfl, q, rfl⟩))
  go_ret
  exact ⟨by rw [HS.out]; rfl, q, rfl⟩

set_option maxHeartbeats 400000 in
theorem appS_yes (s : ByteArray) (w : World) (h : ApOk s) :
    Calls Tryd.prog 19 #[.string s] w (ApYes s w) := by
  obtain ⟨h1, h2, h3⟩ := h
  have H2 := Lib.hid h2
  clear h2
  go_enter Tryd.func19, Tryd.ntmps19
  go_wp2_with fail
  refine (l1Stands_is s 35 false H2.out _ (by omega)).mono ?_
  rintro e w' ⟨rfl, rfl⟩
  go_wp2_with fail
  refine (l1Seal_any s _ (by omega)).mono ?_
  rintro e w' ⟨rfl, q, rfl⟩
  go_wp2_with fail
  refine (l1Seal_any s _ (by omega)).mono ?_
  rintro e w' ⟨rfl, q', rfl⟩
  go_wp2_with fail
  go_ret2
  exact ⟨rfl, bel_drewN (Below.refl _ _) (q + q')⟩
set_option maxHeartbeats 400000 in
theorem appS_no (s : ByteArray) (w : World) (h : ¬ ApOk s) (hs : s.size ≤ 9223372036854775807) :
    Calls Tryd.prog 19 #[.string s] w (ApNo w) := by
  rcases not_ok h with h1 | ⟨h1, h2⟩ | ⟨h1, h2, h3⟩
  · clear h
    go_enter Tryd.func19, Tryd.ntmps19
    go_wp2_with fail
    go_ret2
    exact ⟨rfl, Below.refl _ _⟩
  · have H2 := Lib.hid h2
    clear h2 h
    go_enter Tryd.func19, Tryd.ntmps19
    go_wp2_with fail
    refine (l1Stands_is s 35 true H2.out _ (by omega)).mono ?_
    rintro e w' ⟨rfl, rfl⟩
    go_wp2_with fail
    go_ret2
    exact ⟨rfl, Below.refl _ _⟩
  · have H2 := Lib.hid h2
    clear h2 h
    go_enter Tryd.func19, Tryd.ntmps19
    go_wp2_with fail
    refine (l1Stands_is s 35 false H2.out _ (by omega)).mono ?_
    rintro e w' ⟨rfl, rfl⟩
    go_wp2_with fail
    refine (l1Seal_any s _ (by omega)).mono ?_
    rintro e w' ⟨rfl, q, rfl⟩
    go_wp2_with fail
    go_ret2
    exact ⟨rfl, bel_drewN (Below.refl _ _) q⟩

set_option maxHeartbeats 400000 in
theorem appI_yes (s : ByteArray) (w : World) (h : ApOk s) (hT : TabOk w) :
    Calls Tryd.prog 18 #[.string s] w (ApYes s w) := by
  obtain ⟨h1, h2, h3⟩ := h
  have H2 := Lib.hid h2
  have HS : Hid (sealS s = s ++ ⟨#[35]⟩ ++ numS (sumB s.data.toList)) := Lib.hid rfl
  have hb0 := sum_lo s
  have hb1 := sum_hi s
  have H3 := seal_size s
  have h4 : s.size + 1 + (numS (sumB s.data.toList)).size ≤ 4000 := by omega
  have HF := Lib.hid (fmtS_in ⟨hb0, hb1⟩)
  clear h2 H3 h3
  go_enter Tryd.func18, Tryd.ntmps18
  go_wp2_with fail
  refine (checksum_any s _ (by unfold maxLen; omega)).mono ?_
  rintro e w' ⟨rfl, rfl⟩
  rw [if_pos h1, decide_eq_true h1]
  go_wp2_with fail
  refine (contains_is s 35 false H2.out _).mono ?_
  rintro e w' ⟨rfl, rfl⟩
  go_wp2_with fail
  refine (formatI_any _ _ hT).mono ?_
  rintro e w1 ⟨rfl, hb⟩
  rw [HF.out]
  go_wp2_with fail
  go_ret2
  exact ⟨by rw [HS.out]; rfl, hb⟩
set_option maxHeartbeats 400000 in
theorem appI_no (s : ByteArray) (w : World) (h : ¬ ApOk s) (hs : s.size ≤ 9223372036854775807) (hT : TabOk w) :
    Calls Tryd.prog 18 #[.string s] w (ApNo w) := by
  rcases not_ok h with h1 | ⟨h1, h2⟩ | ⟨h1, h2, h3⟩
  · clear h
    go_enter Tryd.func18, Tryd.ntmps18
    go_wp2_with fail
    refine (checksum_any s _ (by unfold maxLen; omega)).mono ?_
    rintro e w' ⟨rfl, rfl⟩
    rw [if_neg (by omega), decide_eq_false (by omega)]
    go_wp2_with fail
    go_ret2
    exact ⟨rfl, Below.refl _ _⟩
  · have H2 := Lib.hid h2
    clear h2 h
    go_enter Tryd.func18, Tryd.ntmps18
    go_wp2_with fail
    refine (checksum_any s _ (by unfold maxLen; omega)).mono ?_
    rintro e w' ⟨rfl, rfl⟩
    rw [if_pos h1, decide_eq_true h1]
    go_wp2_with fail
    refine (contains_is s 35 true H2.out _).mono ?_
    rintro e w' ⟨rfl, rfl⟩
    go_wp2_with fail
    go_ret2
    exact ⟨rfl, Below.refl _ _⟩
  · have H2 := Lib.hid h2
    have hb0 := sum_lo s
    have hb1 := sum_hi s
    have H3 := seal_size s
    have h4 : 4000 < s.size + 1 + (numS (sumB s.data.toList)).size := by omega
    have hl := numS_len (sumB s.data.toList) (by omega) (by omega)
    have HF := Lib.hid (fmtS_in ⟨hb0, hb1⟩)
    clear h2 h H3 h3
    go_enter Tryd.func18, Tryd.ntmps18
    go_wp2_with fail
    refine (checksum_any s _ (by unfold maxLen; omega)).mono ?_
    rintro e w' ⟨rfl, rfl⟩
    rw [if_pos h1, decide_eq_true h1]
    go_wp2_with fail
    refine (contains_is s 35 false H2.out _).mono ?_
    rintro e w' ⟨rfl, rfl⟩
    go_wp2_with fail
    refine (formatI_any _ _ hT).mono ?_
    rintro e w1 ⟨rfl, hb⟩
    rw [HF.out]
    go_wp2_with fail
    go_ret2
    exact ⟨rfl, hb⟩
end Go.Proofs.YtnbpdgkpamgcfaaDoor
