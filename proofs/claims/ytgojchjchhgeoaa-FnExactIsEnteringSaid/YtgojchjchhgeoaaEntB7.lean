/- Chapter 7: impl.IsEntering; both sides. -/
import Derived.Test.YtgojchjchhgeoaaPlnI7
import Derived.Test.YtgojchjchhgeoaaIsOrd
import Derived.Test.YtgojchjchhgeoaaIsE7
namespace Go.Proofs.Ytgojchjchhgeoaa
open Go.RowKit

set_option maxRecDepth 4000 in
set_option maxHeartbeats 1000000 in
theorem isEnteringI_any (n : Int) (p : Option Addr) (cap : Nat) (xs : List Int) (w : World) (lo hi : Nat) (hin : Ri lo hi w p xs) (hlen : xs.length ≤ 1048576) :
    Calls Try.prog 10 #[.int .i64 n, .slice p xs.length cap] w fun e w' => e = .returned (.tuple #[.bool (rowsB n && orderB n xs), .bool (rowsB n)]) ∧ Below w.heap.size w w' := by
  have IN := fun w' => hasPlane_any n w'
  cases hg : rowsB n with
  | false =>
    rw [hg] at IN
    replace IN := Lib.hid IN
    rw [Bool.false_and]
    clear hg hin
    go_enter Try.func10, Try.ntmps10
    go_wp2_with fail
    refine (IN.out _).mono ?_
    rintro e w1 ⟨rfl, rfl⟩
    go_wp2_with fail
    go_ret2
    exact ⟨rfl, Below.refl _ _⟩
  | true =>
    rw [hg] at IN
    replace IN := Lib.hid IN
    rw [Bool.true_and]
    obtain ⟨n, rfl, h1, h2⟩ := rowsB_is hg
    have O := isOrder_any p cap xs (n : Int) w lo hi hin (by omega) (by omega) hlen
    obtain ⟨R, hR⟩ : ∃ R, orderB (n : Int) xs = R := ⟨_, rfl⟩
    rw [hR] at O ⊢
    obtain ⟨m, hm⟩ : ∃ m, xs.length = m := ⟨_, rfl⟩
    rw [hm] at O ⊢
    replace O := Lib.hid O
    clear hg hin hm hR
    go_enter Try.func10, Try.ntmps10
    go_wp2_with fail
    refine (IN.out _).mono ?_
    rintro e w1 ⟨rfl, rfl⟩
    go_wp2_with fail
    refine O.out.mono ?_
    rintro e w2 ⟨rfl, hb⟩
    go_wp2_with fail
    go_ret2
    exact ⟨rfl, hb⟩

theorem isEntering_both (a0 : Int) (xs1 : List Int) : ∃ (y0 : Bool) (y1 : Bool), (∀ (q1 : Option Addr) (c1 : Nat) (w : World) (lo1 hi1 : Nat), Ri lo1 hi1 w q1 xs1 → xs1.length ≤ 1048576 → xs1.length ≤ c1 → c1 ≤ maxLen → Calls Try.prog 8 #[.int .i64 a0, .slice q1 xs1.length c1] w fun e w' => e = .returned (.tuple #[.bool y0, .bool y1]) ∧ Below w.heap.size w w') ∧ (∀ (q1 : Option Addr) (c1 : Nat) (w : World) (lo1 hi1 : Nat), Ri lo1 hi1 w q1 xs1 → xs1.length ≤ 1048576 → xs1.length ≤ c1 → c1 ≤ maxLen → Calls Try.prog 10 #[.int .i64 a0, .slice q1 xs1.length c1] w fun e w' => e = .returned (.tuple #[.bool y0, .bool y1]) ∧ Below w.heap.size w w') :=
  ⟨_, _, fun q c w lo hi hin hl hc hcm => isEnteringS_any a0 q c xs1 w lo hi hin hc hcm hl, fun q c w lo hi hin hl _ _ => isEnteringI_any a0 q c xs1 w lo hi hin hl⟩
end Go.Proofs.Ytgojchjchhgeoaa
