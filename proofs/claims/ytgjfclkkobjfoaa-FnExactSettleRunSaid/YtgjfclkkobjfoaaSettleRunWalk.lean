/- FnExactSettleRun's walk: for all numbers both functions give the same count. -/
import Derived.Test.YtgjfclkkobjfoaaSettle
namespace Go.Proofs.Ytgjfclkkobjfoaa.settleRun
open Go.RowKit

theorem spec_bad (a b : Int) (w : World) (h : ((decide (0 ≤ a) && decide (a ≤ 24)) && (decide (0 ≤ b) && decide (b ≤ 2))) = false) :
    Calls Try.prog 24 #[.int .i64 a, .int .i64 b] w fun e w' => e = .returned (.tuple #[.int .i64 0, .bool false]) ∧ w = w' := by
  have IA := fun w' => l1In_any a 0 24 w'
  have IB := fun w' => l1In_any b 0 2 w'
  cases h1 : (decide (0 ≤ a) && decide (a ≤ 24)) with
  | false =>
    rw [h1] at IA
    replace IA := Lib.hid IA
    clear h h1
    go_enter Try.func24, Try.ntmps24
    go_wp2_with fail
    refine (IA.out _).mono ?_
    rintro e w1 ⟨rfl, rfl⟩
    go_wp2_with fail
    go_ret2
    exact ⟨rfl, rfl⟩
  | true =>
    rw [h1] at IA h
    simp only [Bool.true_and] at h
    rw [h] at IB
    replace IA := Lib.hid IA
    replace IB := Lib.hid IB
    clear h h1
    go_enter Try.func24, Try.ntmps24
    go_wp2_with fail
    refine (IA.out _).mono ?_
    rintro e w1 ⟨rfl, rfl⟩
    go_wp2_with fail
    refine (IB.out _).mono ?_
    rintro e w1 ⟨rfl, rfl⟩
    go_wp2_with fail
    go_ret2
    exact ⟨rfl, rfl⟩

theorem impl_bad (a b : Int) (w : World) (h : ((decide (0 ≤ a) && decide (a ≤ 24)) && (decide (0 ≤ b) && decide (b ≤ 2))) = false) :
    Calls Try.prog 25 #[.int .i64 a, .int .i64 b] w fun e w' => e = .returned (.tuple #[.int .i64 0, .bool false]) ∧ w = w' := by
  simp only [Bool.and_eq_false_iff, decide_eq_false_iff_not] at h
  by_cases h1 : a < 0
  · clear h
    go_enter Try.func25, Try.ntmps25
    go_wp2_with fail
    go_ret2
    exact ⟨rfl, rfl⟩
  · by_cases h2 : 24 < a
    · clear h
      go_enter Try.func25, Try.ntmps25
      go_wp2_with fail
      go_ret2
      exact ⟨rfl, rfl⟩
    · by_cases h3 : b < 0
      · clear h
        go_enter Try.func25, Try.ntmps25
        go_wp2_with fail
        go_ret2
        exact ⟨rfl, rfl⟩
      · have h4 : 2 < b := by omega
        clear h
        go_enter Try.func25, Try.ntmps25
        go_wp2_with fail
        go_ret2
        exact ⟨rfl, rfl⟩

theorem both (a b : Int) : ∃ (r : Int) (B : Bool),
    (∀ w, Calls Try.prog 24 #[.int .i64 a, .int .i64 b] w fun e w' => e = .returned (.tuple #[.int .i64 r, .bool B]) ∧ w = w') ∧
    (∀ w, Calls Try.prog 25 #[.int .i64 a, .int .i64 b] w fun e w' => e = .returned (.tuple #[.int .i64 r, .bool B]) ∧ w = w') := by
  cases h : ((decide (0 ≤ a) && decide (a ≤ 24)) && (decide (0 ≤ b) && decide (b ≤ 2))) with
  | false => exact ⟨0, false, fun w => spec_bad a b w h, fun w => impl_bad a b w h⟩
  | true =>
    have h' := h
    simp only [Bool.and_eq_true, decide_eq_true_eq] at h'
    obtain ⟨⟨h1, h2⟩, h3, h4⟩ := h'
    obtain ⟨n, rfl⟩ : ∃ n : Nat, a = n := ⟨a.toNat, by omega⟩
    obtain ⟨r, hr, s1, s2⟩ := settle_same n (by omega) b (by omega)
    have hA : (decide (0 ≤ (n : Int)) && decide ((n : Int) ≤ 24)) = true := by simp; omega
    have hB : (decide (0 ≤ b) && decide (b ≤ 2)) = true := by simp; omega
    have IA := fun w' => l1In_any (n : Int) 0 24 w'
    have IB := fun w' => l1In_any b 0 2 w'
    rw [hA] at IA
    rw [hB] at IB
    replace IA := Lib.hid IA
    replace IB := Lib.hid IB
    replace s1 := Lib.hid s1
    replace s2 := Lib.hid s2
    have k1 : ¬ (n : Int) < 0 := by omega
    have k2 : ¬ 24 < (n : Int) := by omega
    have k3 : ¬ b < 0 := by omega
    have k4 : ¬ 2 < b := by omega
    clear h hA hB
    refine ⟨r, true, fun w => ?_, fun w => ?_⟩
    · go_enter Try.func24, Try.ntmps24
      go_wp2_with fail
      refine (IA.out _).mono ?_
      rintro e w1 ⟨rfl, rfl⟩
      go_wp2_with fail
      refine (IB.out _).mono ?_
      rintro e w1 ⟨rfl, rfl⟩
      go_wp2_with fail
      refine (s1.out _).mono ?_
      rintro e w1 ⟨rfl, rfl⟩
      go_wp2_with fail
      go_ret2
      exact ⟨rfl, rfl⟩
    · go_enter Try.func25, Try.ntmps25
      go_wp2_with fail
      refine (s2.out _).mono ?_
      rintro e w1 ⟨rfl, rfl⟩
      go_wp2_with fail
      go_ret2
      exact ⟨rfl, rfl⟩

theorem walk (a b : Int) (w : World) (_ : -9223372036854775808 ≤ a ∧ a ≤ 9223372036854775807) (_ : -9223372036854775808 ≤ b ∧ b ≤ 9223372036854775807) :
    Calls Try.prog 7 #[.int .i64 a, .int .i64 b] w fun e w' => e = .returned (.bool true) ∧ Below w.heap.size w w' := by
  obtain ⟨r, B, S, I⟩ := both a b
  replace S := Lib.hid S
  replace I := Lib.hid I
  go_enter Try.func7, Try.ntmps7
  go_wp2_with fail
  refine (S.out _).mono ?_
  rintro e w1 ⟨rfl, rfl⟩
  go_wp2_with fail
  refine (I.out _).mono ?_
  rintro e w1 ⟨rfl, rfl⟩
  go_wp2_with fail
  go_ret
  exact ⟨rfl, Below.refl _ _⟩
end Go.Proofs.Ytgjfclkkobjfoaa.settleRun
