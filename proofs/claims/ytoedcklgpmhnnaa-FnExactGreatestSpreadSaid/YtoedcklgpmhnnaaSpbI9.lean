/- Chapter 9: MostSpaced, GreatestSpread, FirstSpaced: both sides. -/
import Derived.Test.YtoedcklgpmhnnaaSpfI9
import Derived.Test.YtoedcklgpmhnnaaFspS9
namespace Go.Proofs.Ytoedcklgpmhnnaa
open Go.RowKit

theorem fstM_len (n : Nat) (ring : Bool) (D k : Nat) : ∀ l : List Nat, (fstM n ring D k l).length ≤ k := by
  intro l
  induction l with
  | nil => exact Nat.zero_le _
  | cons x xs ih =>
    unfold fstM
    by_cases h : k ≤ (grg n ring D (x :: xs)).length
    · rw [if_pos h, List.length_take]; omega
    · rw [if_neg h]; exact ih
theorem fsp_len (n : Nat) (ring : Bool) (S : Nat → Bool) (D k : Nat) : (fspS n ring S D k).length ≤ k := by
  unfold fspS
  by_cases h : k ≤ mxSp n ring D (opn n ring S D)
  · rw [if_pos h]; exact fstM_len _ _ _ _ _
  · rw [if_neg h]; exact Nat.zero_le _

theorem mostSpaced_both (s0 : Int) (r0 : Bool) (xs0 : List Int) (a1 : Int) : ∃ (x0 : Int) (y1 : Bool), (∀ (q0 : Option Addr) (c0 : Nat) (w : World) (lo0 hi0 : Nat), Ri lo0 hi0 w q0 xs0 → xs0.length ≤ 1048576 → xs0.length ≤ c0 → c0 ≤ maxLen → Calls Try.prog 23 #[rowV s0 r0 q0 xs0.length c0, .int .i64 a1] w fun e w' => e = .returned (.tuple #[.int .i64 x0, .bool y1]) ∧ Below w.heap.size w w') ∧ (∀ (q0 : Option Addr) (c0 : Nat) (w : World) (lo0 hi0 : Nat), Ri lo0 hi0 w q0 xs0 → xs0.length ≤ 1048576 → xs0.length ≤ c0 → c0 ≤ maxLen → Calls Try.prog 24 #[rowV s0 r0 q0 xs0.length c0, .int .i64 a1] w fun e w' => e = .returned (.tuple #[.int .i64 x0, .bool y1]) ∧ Below w.heap.size w w') := by
  cases h : (rowB s0 r0 xs0 && decide (1 ≤ a1)) with
  | false =>
    exact ⟨0, false,
      fun q0 c0 w lo0 hi0 h1 h2 _ _ => mostSpacedS_bad s0 r0 q0 c0 xs0 a1 w lo0 hi0 h1 h2 h,
      fun q0 c0 w lo0 hi0 h1 h2 _ _ => mostSpacedI_bad s0 r0 q0 c0 xs0 a1 w lo0 hi0 h1 h2 h⟩
  | true =>
    rw [Bool.and_eq_true, decide_eq_true_eq] at h
    obtain ⟨g2, hd⟩ := h
    obtain ⟨n, S, rfl, rfl, -⟩ := rowB_is g2
    obtain ⟨D, rfl⟩ : ∃ D : Nat, a1 = D := ⟨a1.toNat, by omega⟩
    exact ⟨((mxSp n r0 D (opn n r0 S D) : Nat) : Int), true,
      fun q0 c0 w lo0 hi0 h1 _ _ _ => mostSpacedS_any n r0 q0 c0 S D w lo0 hi0 h1 g2 (by omega),
      fun q0 c0 w lo0 hi0 h1 _ _ _ => mostSpacedI_any n r0 q0 c0 S D w lo0 hi0 h1 g2 (by omega)⟩
theorem greatestSpread_both (s0 : Int) (r0 : Bool) (xs0 : List Int) (a1 : Int) : ∃ (x0 : Int) (y1 : Bool), (∀ (q0 : Option Addr) (c0 : Nat) (w : World) (lo0 hi0 : Nat), Ri lo0 hi0 w q0 xs0 → xs0.length ≤ 1048576 → xs0.length ≤ c0 → c0 ≤ maxLen → Calls Try.prog 25 #[rowV s0 r0 q0 xs0.length c0, .int .i64 a1] w fun e w' => e = .returned (.tuple #[.int .i64 x0, .bool y1]) ∧ Below w.heap.size w w') ∧ (∀ (q0 : Option Addr) (c0 : Nat) (w : World) (lo0 hi0 : Nat), Ri lo0 hi0 w q0 xs0 → xs0.length ≤ 1048576 → xs0.length ≤ c0 → c0 ≤ maxLen → Calls Try.prog 26 #[rowV s0 r0 q0 xs0.length c0, .int .i64 a1] w fun e w' => e = .returned (.tuple #[.int .i64 x0, .bool y1]) ∧ Below w.heap.size w w') := by
  cases h : (rowB s0 r0 xs0 && decide (1 ≤ a1)) with
  | false =>
    have h' : (rowB s0 r0 xs0 && (decide (1 ≤ a1) && decide (a1 ≤ 24))) = false := by
      rw [← Bool.and_assoc, h]; rfl
    exact ⟨0, false,
      fun q0 c0 w lo0 hi0 h1 h2 _ _ => greatestS_bad s0 r0 q0 c0 xs0 a1 w lo0 hi0 h1 h2 h',
      fun q0 c0 w lo0 hi0 h1 h2 _ _ => greatestI_bad s0 r0 q0 c0 xs0 a1 w lo0 hi0 h1 h2 h⟩
  | true =>
    rw [Bool.and_eq_true, decide_eq_true_eq] at h
    obtain ⟨g2, hd⟩ := h
    have g3 := g2
    obtain ⟨n, S, rfl, rfl, -⟩ := rowB_is g2
    obtain ⟨hn1, hn⟩ := row_n24 g3
    obtain ⟨K, rfl⟩ : ∃ K : Nat, a1 = K := ⟨a1.toNat, by omega⟩
    by_cases hk : K ≤ 24
    · exact ⟨((gspM n r0 S K : Nat) : Int), decide (K ≤ mxSp n r0 1 (opn n r0 S 1)),
        fun q0 c0 w lo0 hi0 h1 _ _ _ => greatestS_any n r0 q0 c0 S K w lo0 hi0 h1 g3 (by omega) hk,
        fun q0 c0 w lo0 hi0 h1 _ _ _ => greatestI_any n r0 q0 c0 S K w lo0 hi0 h1 g3 (by omega)⟩
    · have h' : (rowB n r0 (ints (tk n S)) && (decide (1 ≤ (K : Int)) && decide ((K : Int) ≤ 24))) = false := by
        rw [decide_eq_false (show ¬ (K : Int) ≤ 24 by omega)]; simp
      obtain ⟨e1, e2⟩ := gsp_miss (n := n) (ring := r0) (S := S) (k := K) hn1 (fun j hj hj2 h => hk (Nat.le_trans h (mx_24 hn)))
      refine ⟨0, false,
        fun q0 c0 w lo0 hi0 h1 h2 _ _ => greatestS_bad n r0 q0 c0 _ K w lo0 hi0 h1 h2 h',
        fun q0 c0 w lo0 hi0 h1 _ _ _ => ?_⟩
      have := greatestI_any n r0 q0 c0 S K w lo0 hi0 h1 g3 (by omega)
      rw [e1, e2] at this
      exact this
theorem firstSpaced_both (s0 : Int) (r0 : Bool) (xs0 : List Int) (a1 : Int) (a2 : Int) : ∃ (L0 : List Int) (y1 : Bool), L0.length ≤ 1000 ∧ (∀ (q0 : Option Addr) (c0 : Nat) (w : World) (lo0 hi0 : Nat), Ri lo0 hi0 w q0 xs0 → xs0.length ≤ 1048576 → xs0.length ≤ c0 → c0 ≤ maxLen → Calls Try.prog 18 #[rowV s0 r0 q0 xs0.length c0, .int .i64 a1, .int .i64 a2] w fun e w' => ∃ v0, e = .returned (.tuple #[v0, .bool y1]) ∧ Out w.heap.size w' v0 L0 ∧ Below w.heap.size w w') ∧ (∀ (q0 : Option Addr) (c0 : Nat) (w : World) (lo0 hi0 : Nat), Ri lo0 hi0 w q0 xs0 → xs0.length ≤ 1048576 → xs0.length ≤ c0 → c0 ≤ maxLen → Calls Try.prog 19 #[rowV s0 r0 q0 xs0.length c0, .int .i64 a1, .int .i64 a2] w fun e w' => ∃ v0, e = .returned (.tuple #[v0, .bool y1]) ∧ Out w.heap.size w' v0 L0 ∧ Below w.heap.size w w') := by
  cases h : (rowB s0 r0 xs0 && decide (1 ≤ a2)) with
  | false =>
    refine ⟨[], false, by simp,
      fun q0 c0 w lo0 hi0 h1 h2 _ _ => firstSpacedS_bad s0 r0 q0 c0 xs0 a1 a2 w lo0 hi0 h1 h2 (by rw [h]; rfl),
      fun q0 c0 w lo0 hi0 h1 h2 _ _ => firstSpacedI_bad s0 r0 q0 c0 xs0 a1 a2 w lo0 hi0 h1 h2 (by rw [h]; rfl)⟩
  | true =>
    by_cases hk0 : 0 ≤ a1
    · rw [Bool.and_eq_true, decide_eq_true_eq] at h
      obtain ⟨g2, hd⟩ := h
      have g3 := g2
      obtain ⟨n, S, rfl, rfl, -⟩ := rowB_is g2
      obtain ⟨hn1, hn⟩ := row_n24 g3
      obtain ⟨K, rfl⟩ : ∃ K : Nat, a1 = K := ⟨a1.toNat, by omega⟩
      obtain ⟨D, rfl⟩ : ∃ D : Nat, a2 = D := ⟨a2.toNat, by omega⟩
      by_cases hk : K ≤ 24
      · exact ⟨ints (fspS n r0 S D K), decide (K ≤ mxSp n r0 D (opn n r0 S D)), by rw [ints_length]; have := fsp_len n r0 S D K; omega,
          fun q0 c0 w lo0 hi0 h1 _ _ _ => firstSpacedS_any n r0 q0 c0 S K D w lo0 hi0 h1 g3 hk (by omega),
          fun q0 c0 w lo0 hi0 h1 _ _ _ => firstSpacedI_any n r0 q0 c0 S K D w lo0 hi0 h1 g3 (by omega)⟩
      · have h' : ((rowB n r0 (ints (tk n S)) && decide (1 ≤ (D : Int))) && (decide (0 ≤ (K : Int)) && decide ((K : Int) ≤ 24))) = false := by
          rw [decide_eq_false (show ¬ (K : Int) ≤ 24 by omega)]; simp
        have hno : ¬ K ≤ mxSp n r0 D (opn n r0 S D) := fun h => hk (Nat.le_trans h (mx_24 hn))
        refine ⟨[], false, by simp,
          fun q0 c0 w lo0 hi0 h1 h2 _ _ => firstSpacedS_bad n r0 q0 c0 _ K D w lo0 hi0 h1 h2 h',
          fun q0 c0 w lo0 hi0 h1 _ _ _ => ?_⟩
        have := firstSpacedI_any n r0 q0 c0 S K D w lo0 hi0 h1 g3 (by omega)
        rw [decide_eq_false hno, show fspR n r0 S D K = [] by unfold fspR; rw [if_neg hno]] at this
        exact this
    · refine ⟨[], false, by simp,
        fun q0 c0 w lo0 hi0 h1 h2 _ _ => firstSpacedS_bad s0 r0 q0 c0 xs0 a1 a2 w lo0 hi0 h1 h2 (by rw [decide_eq_false hk0]; simp),
        fun q0 c0 w lo0 hi0 h1 h2 _ _ => firstSpacedI_bad s0 r0 q0 c0 xs0 a1 a2 w lo0 hi0 h1 h2 (by rw [decide_eq_false hk0]; simp)⟩
end Go.Proofs.Ytoedcklgpmhnnaa
