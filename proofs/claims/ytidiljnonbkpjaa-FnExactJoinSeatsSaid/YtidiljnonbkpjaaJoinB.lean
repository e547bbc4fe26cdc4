/- JoinSeats: both functions give the same Row. -/
import Derived.Test.YtidiljnonbkpjaaJoinI
import Derived.Test.YtidiljnonbkpjaaJoinS
namespace Go.Proofs.Ytidiljnonbkpjaa
open Go.RowKit

theorem joinSeats_both (s1 : Int) (r1 : Bool) (xs1 : List Int) (s2 : Int) (r2 : Bool) (xs2 : List Int) : ∃ (s' : Int) (ring' : Bool) (L : List Int) (B : Bool), L.length ≤ 48 ∧
    (∀ (p1 : Option Addr) (c1 : Nat) (p2 : Option Addr) (c2 : Nat) (w : World) (lo1 hi1 lo2 hi2 : Nat), Ri lo1 hi1 w p1 xs1 → Ri lo2 hi2 w p2 xs2 → xs1.length ≤ 1048576 → xs2.length ≤ 1048576 → Calls Try.prog 10 #[rowV s1 r1 p1 xs1.length c1, rowV s2 r2 p2 xs2.length c2] w (MadeRow w s' ring' L B)) ∧
    (∀ (p1 : Option Addr) (c1 : Nat) (p2 : Option Addr) (c2 : Nat) (w : World) (lo1 hi1 lo2 hi2 : Nat), Ri lo1 hi1 w p1 xs1 → Ri lo2 hi2 w p2 xs2 → xs1.length ≤ 1048576 → xs2.length ≤ 1048576 → Calls Try.prog 12 #[rowV s1 r1 p1 xs1.length c1, rowV s2 r2 p2 xs2.length c2] w (MadeRow w s' ring' L B)) := by
  rcases joinCases s1 r1 xs1 s2 r2 xs2 with h | ⟨a, b, S, T, rfl, rfl, rfl, rfl, rfl, rfl, i1, i2, i3, i4⟩
  · exact ⟨0, false, [], false, by simp,
      fun p1 c1 p2 c2 w lo1 hi1 lo2 hi2 in1 in2 hl1 hl2 => joinS_bad s1 r1 p1 c1 xs1 s2 r2 p2 c2 xs2 w lo1 hi1 lo2 hi2 in1 in2 hl1 hl2 h,
      fun p1 c1 p2 c2 w lo1 hi1 lo2 hi2 in1 in2 hl1 hl2 => joinI_bad s1 r1 p1 c1 xs1 s2 r2 p2 c2 xs2 w lo1 hi1 lo2 hi2 in1 in2 hl1 hl2 h⟩
  · cases hV : decide (a + b ≤ 24) with
    | true =>
      exact ⟨((a + b : Nat) : Int), false, ints (tk (a + b) (joinS a S T)), true, by have := ints_tk_len (a + b) (joinS a S T); omega,
        fun p1 c1 p2 c2 w lo1 hi1 lo2 hi2 in1 in2 _ _ => joinS_yes a b p1 c1 p2 c2 S T w lo1 hi1 lo2 hi2 in1 in2 i1 i2 i3 i4 hV,
        fun p1 c1 p2 c2 w lo1 hi1 lo2 hi2 in1 in2 _ _ => joinI_yes a b p1 c1 p2 c2 S T w lo1 hi1 lo2 hi2 in1 in2 i1 i2 i3 i4 hV⟩
    | false =>
      exact ⟨0, false, [], false, by simp,
        fun p1 c1 p2 c2 w lo1 hi1 lo2 hi2 in1 in2 _ _ => joinS_no a b p1 c1 p2 c2 S T w lo1 hi1 lo2 hi2 in1 in2 i1 i2 i3 i4 hV,
        fun p1 c1 p2 c2 w lo1 hi1 lo2 hi2 in1 in2 _ _ => joinI_no a b p1 c1 p2 c2 S T w lo1 hi1 lo2 hi2 in1 in2 i1 i2 i3 i4 hV⟩
end Go.Proofs.Ytidiljnonbkpjaa
