/- Chapter 9, spec side: spec.l9Groups, spec.l9Fits, spec.l9Placing, spec.IsPlacing. -/
import Derived.Test.YtoedcklgpmhnnaaPlcM9
import Derived.Test.YtoedcklgpmhnnaaOut
import Derived.Test.YtoedcklgpmhnnaaIsRow
import Derived.StillTailTactics
import Derived.BigQuiet
namespace Go.Proofs.Ytoedcklgpmhnnaa
open Go.RowKit

theorem least9_any (a b : Int) (w : World) : Calls Try.prog 47 #[.int .i64 a, .int .i64 b] w fun e w' => e = .returned (.int .i64 (if a < b then a else b)) ∧ w = w' := by
  by_cases h : a < b
  · have e : (if a < b then a else b) = a := if_pos h
    rw [e]
    clear e
    go_enter Try.func47, Try.ntmps47
    go_wp2
    go_ret
    exact ⟨rfl, rfl⟩
  · have e : (if a < b then a else b) = b := if_neg h
    rw [e]
    clear e
    go_enter Try.func47, Try.ntmps47
    go_wp2
    go_ret
    exact ⟨rfl, rfl⟩

/-- what a placing has behind its first groups -/
theorem plc_valid {n : Nat} {S : Nat → Bool} {d : Int} {gs ps : List Int} {i : Nat} (h : plcUp n S d gs ps i = true) (hi : i ≤ gs.length) (hg1 : ∀ g ∈ gs, 1 ≤ g) : ∀ j, j < i → 0 ≤ ps[j]?.getD 0 ∧ ps[j]?.getD 0 + gs[j]?.getD 0 ≤ (n : Int) ∧ 1 ≤ gs[j]?.getD 0 := by
  intro j hj
  have := fitG_true.1 (plcUp_is h hj)
  refine ⟨this.1, by omega, ?_⟩
  rw [List.getElem?_eq_getElem (by omega)]
  exact hg1 _ (List.getElem_mem _)

end Go.Proofs.Ytoedcklgpmhnnaa
