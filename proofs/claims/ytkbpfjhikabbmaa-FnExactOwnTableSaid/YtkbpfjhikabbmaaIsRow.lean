/- Valid Rows: spec.l1In, spec.l1Rising, spec.l2Row, spec.IsRow and impl.IsRow give rowB, for every Row. -/
import Derived.Test.YtkbpfjhikabbmaaRowHelp
namespace Go.Proofs.Ytkbpfjhikabbmaa
open Go.RowKit

theorem drop_get {xs : List Int} {k : Nat} (h : k < xs.length) : xs.drop k = (xs[k]?.getD 0) :: xs.drop (k + 1) := by
  rw [List.drop_eq_getElem_cons h, List.getElem?_eq_getElem h]; rfl
theorem rising_step {xs : List Int} {k : Nat} {b hi : Int} (h : k < xs.length) : rising b hi (xs.drop k) = (decide (b < xs[k]?.getD 0) && (decide (xs[k]?.getD 0 < hi) && rising (xs[k]?.getD 0) hi (xs.drop (k + 1)))) := by
  rw [drop_get h]; rfl
theorem rising_end {xs : List Int} {k : Nat} {b hi : Int} (h : xs.length ≤ k) : rising b hi (xs.drop k) = true := by
  rw [List.drop_eq_nil_of_le h]; rfl

theorem l1In_any (x a b : Int) (w : World) :
    Calls Try.prog 34 #[.int .i64 x, .int .i64 a, .int .i64 b] w fun e w' => e = .returned (.bool (decide (a ≤ x) && decide (x ≤ b))) ∧ w = w' := by
  by_cases h1 : a ≤ x
  · by_cases h2 : x ≤ b
    · go_enter Try.func34, Try.ntmps34
      go_wp2
      go_ret
      exact ⟨ret_bool (by simp; omega), rfl⟩
    · go_enter Try.func34, Try.ntmps34
      go_wp2
      go_ret
      exact ⟨ret_bool (by simp; omega), rfl⟩
  · go_enter Try.func34, Try.ntmps34
    go_wp2
    go_ret
    exact ⟨ret_bool (by simp; omega), rfl⟩

theorem rising_not {xs : List Int} {k : Nat} {b x hi : Int} (h : rising b hi (xs.drop k) = (decide (b < x) && (decide (x < hi) && rising x hi (xs.drop (k + 1))))) (hn : ¬ (b < x ∧ x < hi)) : rising b hi (xs.drop k) = false := by
  rw [h]
  by_cases h1 : b < x
  · have h2 : ¬ x < hi := fun h => hn ⟨h1, h⟩
    simp [h2]
  · simp [h1]
theorem rising_yes {xs : List Int} {k : Nat} {b x hi : Int} (h : rising b hi (xs.drop k) = (decide (b < x) && (decide (x < hi) && rising x hi (xs.drop (k + 1))))) (h1 : b < x) (h2 : x < hi) : rising b hi (xs.drop k) = rising x hi (xs.drop (k + 1)) := by
  rw [h]; simp [h1, h2]

end Go.Proofs.Ytkbpfjhikabbmaa
