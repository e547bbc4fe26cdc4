/- Chapter 9: CountPlacings and FirstPlacing give the same on both sides. -/
import Derived.Test.YtogdiahojbonaaaFpcI9
namespace Go.Proofs.Ytogdiahojbonaaa
open Go.RowKit

theorem countPlacings_both (s0 : Int) (r0 : Bool) (xs0 : List Int) (xs1 : List Int) (a2 : Int) : ∃ (x0 : Int) (y1 : Bool), (∀ (q0 : Option Addr) (c0 : Nat) (q1 : Option Addr) (c1 : Nat) (w : World) (lo0 hi0 : Nat) (lo1 hi1 : Nat), Ri lo0 hi0 w q0 xs0 → xs0.length ≤ 1048576 → xs0.length ≤ c0 → c0 ≤ maxLen → Ri lo1 hi1 w q1 xs1 → xs1.length ≤ 1048576 → xs1.length ≤ c1 → c1 ≤ maxLen → Calls Try.prog 25 #[rowV s0 r0 q0 xs0.length c0, .slice q1 xs1.length c1, .int .i64 a2] w fun e w' => e = .returned (.tuple #[.int .i64 x0, .bool y1]) ∧ Below w.heap.size w w') ∧
    (a2 ≤ 9223372036854775807 → ∀ (q0 : Option Addr) (c0 : Nat) (q1 : Option Addr) (c1 : Nat) (w : World) (lo0 hi0 : Nat) (lo1 hi1 : Nat), Ri lo0 hi0 w q0 xs0 → xs0.length ≤ 1048576 → xs0.length ≤ c0 → c0 ≤ maxLen → Ri lo1 hi1 w q1 xs1 → xs1.length ≤ 1048576 → xs1.length ≤ c1 → c1 ≤ maxLen → Calls Try.prog 26 #[rowV s0 r0 q0 xs0.length c0, .slice q1 xs1.length c1, .int .i64 a2] w fun e w' => e = .returned (.tuple #[.int .i64 x0, .bool y1]) ∧ Below w.heap.size w w') := by
  cases h : pvB s0 r0 xs0 xs1 a2 with
  | false =>
    exact ⟨0, false,
      fun q0 c0 q1 c1 w lo0 hi0 lo1 hi1 h1 h2 _ _ h3 h4 _ _ => countPlacingsS_bad s0 r0 q0 c0 xs0 q1 c1 xs1 a2 w lo0 hi0 lo1 hi1 h1 h2 h3 h4 h,
      fun _ q0 c0 q1 c1 w lo0 hi0 lo1 hi1 h1 h2 _ _ h3 h4 _ _ => countPlacingsI_bad s0 r0 q0 c0 xs0 q1 c1 xs1 a2 w lo0 hi0 lo1 hi1 h1 h2 h3 h4 h⟩
  | true =>
    obtain ⟨-, g2, rfl, -⟩ := pvB_is h
    obtain ⟨n, S, rfl, rfl, -⟩ := rowB_is g2
    exact ⟨((cntP n S a2 xs1 : Nat) : Int), true,
      fun q0 c0 q1 c1 w lo0 hi0 lo1 hi1 h1 _ _ _ h3 _ _ _ => countPlacingsS_any n q0 c0 S q1 c1 xs1 a2 w lo0 hi0 lo1 hi1 h1 h3 h,
      fun h64 q0 c0 q1 c1 w lo0 hi0 lo1 hi1 h1 _ _ _ h3 _ _ _ => countPlacingsI_any n q0 c0 S q1 c1 xs1 a2 w lo0 hi0 lo1 hi1 h1 h3 h64 h⟩
theorem firstPlacing_both (s0 : Int) (r0 : Bool) (xs0 : List Int) (xs1 : List Int) (a2 : Int) : ∃ (L0 : List Int) (y1 : Bool), L0.length ≤ 1000 ∧ (∀ (q0 : Option Addr) (c0 : Nat) (q1 : Option Addr) (c1 : Nat) (w : World) (lo0 hi0 : Nat) (lo1 hi1 : Nat), Ri lo0 hi0 w q0 xs0 → xs0.length ≤ 1048576 → xs0.length ≤ c0 → c0 ≤ maxLen → Ri lo1 hi1 w q1 xs1 → xs1.length ≤ 1048576 → xs1.length ≤ c1 → c1 ≤ maxLen → Calls Try.prog 23 #[rowV s0 r0 q0 xs0.length c0, .slice q1 xs1.length c1, .int .i64 a2] w fun e w' => ∃ v0, e = .returned (.tuple #[v0, .bool y1]) ∧ Out w.heap.size w' v0 L0 ∧ Below w.heap.size w w') ∧
    (a2 ≤ 9223372036854775807 → ∀ (q0 : Option Addr) (c0 : Nat) (q1 : Option Addr) (c1 : Nat) (w : World) (lo0 hi0 : Nat) (lo1 hi1 : Nat), Ri lo0 hi0 w q0 xs0 → xs0.length ≤ 1048576 → xs0.length ≤ c0 → c0 ≤ maxLen → Ri lo1 hi1 w q1 xs1 → xs1.length ≤ 1048576 → xs1.length ≤ c1 → c1 ≤ maxLen → Calls Try.prog 24 #[rowV s0 r0 q0 xs0.length c0, .slice q1 xs1.length c1, .int .i64 a2] w fun e w' => ∃ v0, e = .returned (.tuple #[v0, .bool y1]) ∧ Out w.heap.size w' v0 L0 ∧ Below w.heap.size w w') := by
  cases h : pvB s0 r0 xs0 xs1 a2 with
  | false =>
    exact ⟨[], false, Nat.zero_le _,
      fun q0 c0 q1 c1 w lo0 hi0 lo1 hi1 h1 h2 _ _ h3 h4 _ _ => firstPlacingS_bad s0 r0 q0 c0 xs0 q1 c1 xs1 a2 w lo0 hi0 lo1 hi1 h1 h2 h3 h4 h,
      fun _ q0 c0 q1 c1 w lo0 hi0 lo1 hi1 h1 h2 _ _ h3 h4 _ _ => firstPlacingI_bad s0 r0 q0 c0 xs0 q1 c1 xs1 a2 w lo0 hi0 lo1 hi1 h1 h2 h3 h4 h⟩
  | true =>
    obtain ⟨-, g2, rfl, -, g5, -⟩ := pvB_is h
    obtain ⟨n, S, rfl, rfl, -⟩ := rowB_is g2
    exact ⟨ints ((frsP n S a2 xs1).getD []), (frsP n S a2 xs1).isSome, by rw [ints_lenP]; exact Nat.le_trans frsP_len (by omega),
      fun q0 c0 q1 c1 w lo0 hi0 lo1 hi1 h1 _ _ _ h3 _ _ _ => firstPlacingS_any n q0 c0 S q1 c1 xs1 a2 w lo0 hi0 lo1 hi1 h1 h3 h,
      fun h64 q0 c0 q1 c1 w lo0 hi0 lo1 hi1 h1 _ _ _ h3 _ h5 h6 => firstPlacingI_any n q0 c0 S q1 c1 xs1 a2 w lo0 hi0 lo1 hi1 h1 h3 h5 h6 h64 h⟩
end Go.Proofs.Ytogdiahojbonaaa
