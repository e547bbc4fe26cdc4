/- Gaps: spec.l2Gap and impl's gap give gapM on valid Rows; spec.SeatGap and impl.SeatGap, for every Row. -/
import Derived.Test.YtoedcklgpmhnnaaHas0
import Derived.Test.YtoedcklgpmhnnaaRowHelp
namespace Go.Proofs.Ytoedcklgpmhnnaa
open Go.RowKit

theorem gap_line_le {n a b : Nat} (h : a ≤ b) : gapM n false a b = b - a := by unfold gapM; simp only [Bool.false_eq_true, if_false]; omega
theorem gap_line_gt {n a b : Nat} (h : b ≤ a) : gapM n false a b = a - b := by unfold gapM; simp only [Bool.false_eq_true, if_false]; omega
theorem gap_ring {n a b d : Nat} (h : (a ≤ b ∧ d = b - a) ∨ (b ≤ a ∧ d = a - b)) : gapM n true a b = if d < n - d then d else n - d := by
  unfold gapM
  simp only [if_true]
  have e : max a b - min a b = d := by omega
  rw [e]
  by_cases h : d < n - d
  · rw [if_pos h]; omega
  · rw [if_neg h]; omega

set_option maxHeartbeats 800000 in
theorem gapS_any (n : Nat) (ring : Bool) (p : Option Addr) (m cap : Nat) (a b : Nat) (w : World) (hn : n ≤ 24) (ha : a < n) (hb : b < n) :
    Calls Try.prog 61 #[rowV n ring p m cap, .int .i64 a, .int .i64 b] w fun e w' => e = .returned (.int .i64 (gapM n ring a b : Nat)) ∧ Below w.heap.size w w' := by
  have HB := Lib.hid (box_below w n ring p m cap 28)
  obtain ⟨d, hd⟩ : ∃ d : Nat, (a ≤ b ∧ d = b - a) ∨ (b ≤ a ∧ d = a - b) := by
    rcases Nat.le_total a b with h | h
    · exact ⟨b - a, .inl ⟨h, rfl⟩⟩
    · exact ⟨a - b, .inr ⟨h, rfl⟩⟩
  have hdn : d < n := by omega
  have hmost : ∀ w', Calls Try.prog 68 #[.int .i64 ((a : Int) - b), .int .i64 ((b : Int) - a)] w' fun e w'' => e = .returned (.int .i64 (d : Int)) ∧ w' = w'' := by
    intro w'
    by_cases h : (b : Int) - a < (a : Int) - b
    · go_enter Try.func68, Try.ntmps68
      go_wp2
      go_ret
      exact ⟨ret_int (by omega), rfl⟩
    · go_enter Try.func68, Try.ntmps68
      go_wp2
      go_ret
      exact ⟨ret_int (by omega), rfl⟩
  replace hmost := Lib.hid hmost
  cases ring with
  | false =>
    have hg : gapM n false a b = d := by
      rcases hd with ⟨h1, rfl⟩ | ⟨h1, rfl⟩
      · exact gap_line_le h1
      · exact gap_line_gt h1
    rw [hg]
    clear hg hd
    go_enter Try.func61, Try.ntmps61
    go_wp2_with fail
    refine (hmost.out _).mono ?_
    rintro e w' ⟨rfl, rfl⟩
    go_wp2_with fail
    go_ret
    exact ⟨rfl, HB.out⟩
  | true =>
    have hg := gap_ring (n := n) hd
    clear hd
    have hleast : ∀ w', Calls Try.prog 47 #[.int .i64 (d : Int), .int .i64 ((n : Int) - d)] w' fun e w'' => e = .returned (.int .i64 (gapM n true a b : Nat)) ∧ w' = w'' := by
      intro w'
      rw [hg]
      clear hg
      by_cases h : (d : Int) < (n : Int) - d
      · go_enter Try.func47, Try.ntmps47
        go_wp2
        go_ret
        exact ⟨ret_int (by omega), rfl⟩
      · go_enter Try.func47, Try.ntmps47
        go_wp2
        go_ret
        exact ⟨ret_int (by omega), rfl⟩
    replace hleast := Lib.hid hleast
    clear hg
    go_enter Try.func61, Try.ntmps61
    go_wp2_with fail
    refine (hmost.out _).mono ?_
    rintro e w' ⟨rfl, rfl⟩
    go_wp2_with fail
    refine (hleast.out _).mono ?_
    rintro e w' ⟨rfl, rfl⟩
    go_wp2_with fail
    go_ret
    exact ⟨rfl, HB.out⟩
end Go.Proofs.Ytoedcklgpmhnnaa
