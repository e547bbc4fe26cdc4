/- Chapter 7, impl side: impl.hasPlane, canBoard. -/
import Derived.Test.YtkbpfjhikabbmaaFrtM7
import Derived.Test.YtkbpfjhikabbmaaIsRow
namespace Go.Proofs.Ytkbpfjhikabbmaa
open Go.RowKit

theorem hasPlane_any (n : Int) (w : World) :
    Calls Try.prog 37 #[.int .i64 n] w fun e w' => e = .returned (.bool (rowsB n)) ∧ w = w' := by
  unfold rowsB
  by_cases h1 : 1 ≤ n
  · by_cases h2 : n ≤ 10
    · go_enter Try.func37, Try.ntmps37
      go_wp2_with fail
      go_ret
      exact ⟨ret_bool (by simp; omega), rfl⟩
    · go_enter Try.func37, Try.ntmps37
      go_wp2_with fail
      go_ret
      exact ⟨ret_bool (by simp; omega), rfl⟩
  · go_enter Try.func37, Try.ntmps37
    go_wp2_with fail
    go_ret
    exact ⟨ret_bool (by simp; omega), rfl⟩
end Go.Proofs.Ytkbpfjhikabbmaa
