/- Chapter 7, spec side: spec.IsEntering. -/
import Derived.Test.YtgojchjchhgeoaaEnt7
import Derived.Test.YtgojchjchhgeoaaFrtM7
namespace Go.Proofs.Ytgojchjchhgeoaa
open Go.RowKit

set_option maxRecDepth 4000 in
set_option maxHeartbeats 1000000 in
theorem isEnteringS_any (n : Int) (p : Option Addr) (cap : Nat) (xs : List Int) (w : World) (lo hi : Nat) (hin : Ri lo hi w p xs) (hcap : xs.length ≤ cap) (hcm : cap ≤ maxLen) (hlen : xs.length ≤ 1048576) :
    Calls Try.prog 8 #[.int .i64 n, .slice p xs.length cap] w fun e w' => e = .returned (.tuple #[.bool (rowsB n && orderB n xs), .bool (rowsB n)]) ∧ Below w.heap.size w w' := by
  have IN : ∀ w', Calls Try.prog 26 #[.int .i64 n, .int .i64 1, .int .i64 10] w' fun e w'' => e = .returned (.bool (rowsB n)) ∧ w' = w'' := fun w' => l1In_any n 1 10 w'
  cases hg : rowsB n with
  | false =>
    rw [hg] at IN
    replace IN := Lib.hid IN
    rw [Bool.false_and]
    clear hg hin
    go_enter Try.func8, Try.ntmps8
    go_wp2_with fail
    refine (IN.out _).mono ?_
    rintro e w1 ⟨rfl, rfl⟩
    go_wp2_with fail
    go_ret2
    exact ⟨rfl, Below.refl _ _⟩
  | true =>
    rw [hg] at IN
    replace IN := Lib.hid IN
    rw [Bool.true_and]
    obtain ⟨n, rfl, h1, h2⟩ := rowsB_is hg
    have O := l7Order_any n p cap xs w lo hi hin hcap hcm hlen (by omega)
    obtain ⟨R, hR⟩ : ∃ R, orderB n xs = R := ⟨_, rfl⟩
    rw [hR] at O ⊢
    obtain ⟨m, hm⟩ : ∃ m, xs.length = m := ⟨_, rfl⟩
    rw [hm] at O ⊢
    replace O := Lib.hid O
    clear hg hin hm hR
    go_enter Try.func8, Try.ntmps8
    go_wp2_with fail
    refine (IN.out _).mono ?_
    rintro e w1 ⟨rfl, rfl⟩
    go_wp2_with fail
    refine O.out.mono ?_
    rintro e w2 ⟨rfl, hb⟩
    go_wp2_with fail
    go_ret2
    exact ⟨rfl, hb⟩
end Go.Proofs.Ytgojchjchhgeoaa
