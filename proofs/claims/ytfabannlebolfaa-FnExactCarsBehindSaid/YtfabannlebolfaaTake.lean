/- spec.l2With and spec.TakeSeat, for every Row and all seats. -/
import Derived.Test.YtfabannlebolfaaWith
import Derived.Test.YtfabannlebolfaaHasS
import Derived.Test.YtfabannlebolfaaSeat
namespace Go.Proofs.Ytfabannlebolfaa
open Go.RowKit

theorem seat_is {s : Int} {ring : Bool} {xs : List Int} {x : Int} (h : seatB s ring xs x = true) :
    ∃ (n : Nat) (S : Nat → Bool) (k : Nat), s = (n : Int) ∧ xs = ints (tk n S) ∧ x = (k : Int) ∧ k < n ∧ 2 ≤ n ∧ n ≤ 24 ∧ (ring = true → 3 ≤ n) := by
  unfold seatB at h
  simp only [Bool.and_eq_true, decide_eq_true_eq] at h
  obtain ⟨n, S, rfl, rfl, h1, h2, h3⟩ := rowB_is h.1
  exact ⟨n, S, x.toNat, rfl, rfl, by omega, by omega, h1, h2, h3⟩

theorem seat_row {s : Int} {ring : Bool} {xs : List Int} {x : Int} (h : seatB s ring xs x = true) : rowB s ring xs = true := by
  unfold seatB at h
  simp only [Bool.and_eq_true] at h
  exact h.1

end Go.Proofs.Ytfabannlebolfaa
