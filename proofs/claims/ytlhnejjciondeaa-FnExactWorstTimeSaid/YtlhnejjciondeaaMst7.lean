/- Chapter 7, spec side: spec.l1Most. -/
import Derived.Test.YtlhnejjciondeaaOut
namespace Go.Proofs.Ytlhnejjciondeaa
open Go.RowKit

theorem l1Most_num (a b : Int) (w : World) :
    Calls Try.prog 49 #[.int .i64 a, .int .i64 b] w fun e w' => e = .returned (.int .i64 (if b < a then a else b)) ∧ w = w' := by
  by_cases h1 : b < a
  · rw [if_pos h1]
    go_enter Try.func49, Try.ntmps49
    go_wp2
    go_ret
    exact ⟨rfl, rfl⟩
  · rw [if_neg h1]
    go_enter Try.func49, Try.ntmps49
    go_wp2
    go_ret
    exact ⟨rfl, rfl⟩
end Go.Proofs.Ytlhnejjciondeaa
