/- Chapter 5, spec side: spec.l5Ask, IsPossible, SeatingChance. -/
import Derived.Test.YtmjnjinjpleioaaChn5
namespace Go.Proofs.Ytmjnjinjpleioaa
open Go.RowKit

/-- numbers and a possible seating -/
def askB (n k : Int) (xs : List Int) : Bool := good5 n k && posB n.toNat k.toNat xs

set_option maxRecDepth 4000 in
set_option maxHeartbeats 1000000 in
theorem l5Ask_any (n k : Int) (p : Option Addr) (cap : Nat) (xs : List Int) (w : World) (lo hi : Nat) (hin : Ri lo hi w p xs) (hcap : xs.length ≤ cap) (hcm : cap ≤ maxLen) (hlen : xs.length ≤ 1048576) :
    Calls Try.prog 31 #[.int .i64 n, .int .i64 k, .slice p xs.length cap] w fun e w' => e = .returned (.bool (askB n k xs)) ∧ Below w.heap.size w w' := by
  have G := l5Good_any n k w
  cases hg : good5 n k with
  | true =>
    obtain ⟨a, b, rfl, rfl, h1, h2, h3⟩ := good5_is hg
    have P := l5Possible_any a b p cap xs w lo hi hin h1 h2 h3 hcap hcm hlen
    have hB : askB (a : Int) (b : Int) xs = posB a b xs := by unfold askB; rw [hg, Bool.true_and]; rfl
    rw [hB]
    rw [hg] at G
    obtain ⟨B, hBB⟩ : ∃ B, posB a b xs = B := ⟨_, rfl⟩
    rw [hBB] at P ⊢
    obtain ⟨m, hm⟩ : ∃ m, xs.length = m := ⟨_, rfl⟩
    rw [hm] at P ⊢
    replace G := Lib.hid G
    replace P := Lib.hid P
    clear hin hg hB hBB hm
    go_enter Try.func31, Try.ntmps31
    go_wp2_with fail
    refine G.out.mono ?_
    rintro e w1 ⟨rfl, rfl⟩
    go_wp2_with fail
    refine P.out.mono ?_
    rintro e w2 ⟨rfl, hb2⟩
    go_wp2_with fail
    go_ret
    exact ⟨rfl, hb2⟩
  | false =>
    have hB : askB n k xs = false := by unfold askB; rw [hg]; rfl
    rw [hB]
    rw [hg] at G
    replace G := Lib.hid G
    clear hin hg hB
    go_enter Try.func31, Try.ntmps31
    go_wp2_with fail
    refine G.out.mono ?_
    rintro e w1 ⟨rfl, rfl⟩
    go_wp2_with fail
    go_ret
    exact ⟨rfl, Below.refl _ _⟩

end Go.Proofs.Ytmjnjinjpleioaa
