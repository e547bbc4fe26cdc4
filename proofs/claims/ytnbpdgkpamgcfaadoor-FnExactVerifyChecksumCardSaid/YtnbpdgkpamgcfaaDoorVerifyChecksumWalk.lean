/- FnExactVerifyChecksum's walk: for every text both functions give the same answer. -/
import Derived.Test.YtnbpdgkpamgcfaaDoorVerify
namespace Go.Proofs.YtnbpdgkpamgcfaaDoor.verifyChecksum
open Go.RowKit

set_option maxHeartbeats 400000 in
theorem walk (s : ByteArray) (w : World) (hs : s.size ≤ maxLen) (hT : TabOk w) :
    Calls Tryd.prog 9 #[.string s] w fun e w' => e = .returned (.bool true) ∧ Below w.heap.size w w' := by
  unfold maxLen at hs
  by_cases hbig : 1048576 < s.size
  · go_enter Tryd.func9, Tryd.ntmps9
    go_wp2_with fail
    go_ret
    exact ⟨rfl, Below.refl _ _⟩
  · by_cases h : VOk s
    · go_enter Tryd.func9, Tryd.ntmps9
      go_wp2_with fail
      refine (verS_yes s _ h).mono ?_
      rintro e w1 ⟨rfl, hb1⟩
      go_wp2_with fail
      refine (verI_yes s _ h (hT.below hb1)).mono ?_
      rintro e w2 ⟨rfl, hb2⟩
      go_wp2_with fail
      go_ret
      exact ⟨rfl, hb1.trans (hb2.mono hb1.size)⟩
    · have H := Lib.hid h
      clear h
      go_enter Tryd.func9, Tryd.ntmps9
      go_wp2_with fail
      refine (verS_no s _ H.out (by omega)).mono ?_
      rintro e w1 ⟨rfl, hb1⟩
      go_wp2_with fail
      refine (verI_no s _ H.out (by omega) (hT.below hb1)).mono ?_
      rintro e w2 ⟨rfl, hb2⟩
      go_wp2_with fail
      go_ret
      exact ⟨rfl, hb1.trans (hb2.mono hb1.size)⟩
end Go.Proofs.YtnbpdgkpamgcfaaDoor.verifyChecksum
