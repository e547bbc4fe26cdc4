/- strings.Contains at one byte, strings.Clone: what they give, for every text (Clone: of at most 2^48 bytes). -/
import Derived.Test.YtnbpdgkpamgcfaaDoorJoinMath
import Derived.Test.YtnbpdgkpamgcfaaDoorShelf
namespace Go.Proofs.YtnbpdgkpamgcfaaDoor
open Go.RowKit

theorem contains_is (s : ByteArray) (c : UInt8) (b : Bool) (h : hasB s.data.toList c = b) (w : World) :
    Calls Tryd.prog 46 #[.string s, .string ⟨#[c]⟩] w fun e w' => e = .returned (.bool b) ∧ w = w' :=
  (Tryd.strings_Contains_one s c w).mono fun _ _ ⟨he, hw⟩ => ⟨by rw [he, indexByte_has, h], hw.symm⟩

set_option maxHeartbeats 400000 in
theorem clone_any (s : ByteArray) (w : World) (hs : s.size ≤ 281474976710656) :
    Calls Tryd.prog 50 #[.string s] w fun e w' => e = .returned (.string s) ∧ Below w.heap.size w w' := by
  go_enter Tryd.func50, Tryd.ntmps50
  go_wp2_with (go_at_call 60; refine (Tryd.stringslite_Clone _ _ hs).mono ?_; rintro e w' ⟨rfl, hb⟩)
  go_ret
  exact ⟨rfl, hb⟩
end Go.Proofs.YtnbpdgkpamgcfaaDoor
