/- Chapter 7, impl side: impl.hasPlane, canBoard. -/
import Derived.Test.YtgojchjchhgeoaaFrtM7
import Derived.Test.YtgojchjchhgeoaaIsRow
namespace Go.Proofs.Ytgojchjchhgeoaa
open Go.RowKit

theorem hasPlane_any (n : Int) (w : World) :
    Calls Try.prog 28 #[.int .i64 n] w fun e w' => e = .returned (.bool (rowsB n)) ∧ w = w' := by
  unfold rowsB
  by_cases h1 : 1 ≤ n
  · by_cases h2 : n ≤ 10
    · go_enter Try.func28, Try.ntmps28
      go_wp2_with fail
      go_ret
      exact ⟨ret_bool (by simp; omega), rfl⟩
    · go_enter Try.func28, Try.ntmps28
      go_wp2_with fail
      go_ret
      exact ⟨ret_bool (by simp; omega), rfl⟩
  · go_enter Try.func28, Try.ntmps28
    go_wp2_with fail
    go_ret
    exact ⟨ret_bool (by simp; omega), rfl⟩
end Go.Proofs.Ytgojchjchhgeoaa
