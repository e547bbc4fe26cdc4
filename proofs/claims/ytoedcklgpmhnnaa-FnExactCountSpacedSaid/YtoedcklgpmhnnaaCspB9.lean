/- Chapter 9: CountSpaced gives the same on both sides. -/
import Derived.Test.YtoedcklgpmhnnaaCspI9
namespace Go.Proofs.Ytoedcklgpmhnnaa
open Go.RowKit

theorem countSpaced_both (s0 : Int) (r0 : Bool) (xs0 : List Int) (a1 : Int) (a2 : Int) : ∃ (x0 : Int) (y1 : Bool), (∀ (q0 : Option Addr) (c0 : Nat) (w : World) (lo0 hi0 : Nat), Ri lo0 hi0 w q0 xs0 → xs0.length ≤ 1048576 → xs0.length ≤ c0 → c0 ≤ maxLen → Calls Try.prog 16 #[rowV s0 r0 q0 xs0.length c0, .int .i64 a1, .int .i64 a2] w fun e w' => e = .returned (.tuple #[.int .i64 x0, .bool y1]) ∧ Below w.heap.size w w') ∧ (∀ (q0 : Option Addr) (c0 : Nat) (w : World) (lo0 hi0 : Nat), Ri lo0 hi0 w q0 xs0 → xs0.length ≤ 1048576 → xs0.length ≤ c0 → c0 ≤ maxLen → Calls Try.prog 17 #[rowV s0 r0 q0 xs0.length c0, .int .i64 a1, .int .i64 a2] w fun e w' => e = .returned (.tuple #[.int .i64 x0, .bool y1]) ∧ Below w.heap.size w w') := by
  cases h : ((rowB s0 r0 xs0 && decide (1 ≤ a2)) && (decide (0 ≤ a1) && decide (a1 ≤ 24))) with
  | false =>
    exact ⟨0, false,
      fun q0 c0 w lo0 hi0 h1 h2 _ _ => countSpacedS_bad s0 r0 q0 c0 xs0 a1 a2 w lo0 hi0 h1 h2 h,
      fun q0 c0 w lo0 hi0 h1 h2 _ _ => countSpacedI_bad s0 r0 q0 c0 xs0 a1 a2 w lo0 hi0 h1 h2 h⟩
  | true =>
    simp only [Bool.and_eq_true, decide_eq_true_eq] at h
    obtain ⟨⟨g2, hd⟩, hk0, hk1⟩ := h
    obtain ⟨n, S, rfl, rfl, -⟩ := rowB_is g2
    obtain ⟨D, rfl⟩ : ∃ D : Nat, a2 = D := ⟨a2.toNat, by omega⟩
    obtain ⟨k, rfl⟩ : ∃ k : Nat, a1 = k := ⟨a1.toNat, by omega⟩
    exact ⟨((spkM n r0 D (opn n r0 S D) k : Nat) : Int), true,
      fun q0 c0 w lo0 hi0 h1 _ _ _ => countSpacedS_any n r0 q0 c0 S k D w lo0 hi0 h1 g2 (by omega) (by omega),
      fun q0 c0 w lo0 hi0 h1 _ _ _ => countSpacedI_any n r0 q0 c0 S k D w lo0 hi0 h1 g2 (by omega) (by omega)⟩
end Go.Proofs.Ytoedcklgpmhnnaa
