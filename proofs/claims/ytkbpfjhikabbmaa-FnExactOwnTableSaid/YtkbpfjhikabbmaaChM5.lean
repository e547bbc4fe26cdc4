/- Chapter 5: possible seatings and their chances: mathematics. Plain lemmas. -/
import Derived.Test.YtkbpfjhikabbmaaCho5
namespace Go.Proofs.Ytkbpfjhikabbmaa
open Go.RowKit

theorem Rd.pfx5 {lo hi : Nat} {w : World} {p : Option Addr} {xs : List Int} (h : Ri lo hi w p xs) (k : Nat) : Ri lo hi w p (xs.take k) := by
  have := Rd.pfx h k
  unfold iv at this
  rw [← List.map_take] at this
  exact this

/-- the first j travelers of a list have seats that they may take -/
def possM (n k : Nat) (xs : List Int) (j : Nat) : Bool := (List.range j).all (fun i => decide (xs[i]?.getD 0 ∈ ints (choM n k (xs.take i))))
/-- in how many ways the first j travelers could have taken theirs -/
def denM (n k : Nat) (xs : List Int) : Nat → Nat
  | 0 => 1
  | j + 1 => denM n k xs j * (choM n k (xs.take j)).length
theorem possM_succ (n k : Nat) (xs : List Int) (j : Nat) : possM n k xs (j + 1) = (possM n k xs j && decide (xs[j]?.getD 0 ∈ ints (choM n k (xs.take j)))) := by
  unfold possM
  rw [List.range_succ, List.all_append]
  simp
theorem possM_mono {n k : Nat} {xs : List Int} {i j : Nat} (h : possM n k xs j = true) (hi : i ≤ j) : possM n k xs i = true := by
  unfold possM at *
  rw [List.all_eq_true] at *
  intro x hx
  exact h x (by rw [List.mem_range] at *; omega)
theorem cho_len (n k : Nat) (xs : List Int) (hn : n ≤ 12) : (choM n k xs).length ≤ 12 := by
  unfold choM
  split
  · simp
  · exact Nat.le_trans (tk_length_le _ _) hn
theorem den_le (n k : Nat) (xs : List Int) (hn : n ≤ 12) : ∀ j, denM n k xs j ≤ 12 ^ j
  | 0 => Nat.le_refl _
  | j + 1 => by
    show denM n k xs j * (choM n k (xs.take j)).length ≤ 12 ^ (j + 1)
    rw [Nat.pow_succ]
    exact Nat.mul_le_mul (den_le n k xs hn j) (cho_len n k _ hn)
theorem den_bound (n k : Nat) (xs : List Int) (hn : n ≤ 12) {j : Nat} (hj : j ≤ 12) : denM n k xs j ≤ 8916100448256 := by
  have h1 := den_le n k xs hn j
  have h2 : 12 ^ j ≤ 12 ^ 12 := Nat.pow_le_pow_right (by omega) hj
  have h3 : 12 ^ 12 = 8916100448256 := by decide
  omega
theorem den_pos {n k : Nat} {xs : List Int} : ∀ {j : Nat}, possM n k xs j = true → 0 < denM n k xs j
  | 0, _ => Nat.one_pos
  | j + 1, h => by
    rw [possM_succ, Bool.and_eq_true] at h
    have h1 := den_pos h.1
    have h2 : 0 < (choM n k (xs.take j)).length := by
      have := of_decide_eq_true h.2
      have h3 := List.length_pos_of_mem this
      rwa [ints_length] at h3
    exact Nat.mul_pos h1 h2
/-- the chance of a seating -/
def chanceR (n k : Nat) (xs : List Int) : Rat := if possM n k xs n = true then mkRat 1 (denM n k xs n) else 0
end Go.Proofs.Ytkbpfjhikabbmaa
