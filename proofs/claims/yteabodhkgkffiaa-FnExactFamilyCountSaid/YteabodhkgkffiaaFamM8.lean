/- Mathematics of families: how many people and orders within. Plain lemmas. -/
import Derived.Test.YteabodhkgkffiaaParM8
import Derived.Test.YteabodhkgkffiaaIsRow
namespace Go.Proofs.Yteabodhkgkffiaa
open Go.RowKit

/-- people and orders within families, from some on; none if a size is not valid -/
def fam8 : Nat → Nat → List Int → Option (Nat × Nat)
  | p, w, [] => some (p, w)
  | p, w, x :: xs => if 1 ≤ x ∧ (p : Int) + x ≤ 12 then fam8 (p + x.toNat) (w * fac8 x.toNat) xs else none
theorem fam8_step {p w k : Nat} {xs : List Int} (h : k < xs.length) : fam8 p w (xs.drop k) = if 1 ≤ xs[k]?.getD 0 ∧ (p : Int) + xs[k]?.getD 0 ≤ 12 then fam8 (p + (xs[k]?.getD 0).toNat) (w * fac8 (xs[k]?.getD 0).toNat) (xs.drop (k + 1)) else none := by
  rw [drop_get h]; rfl
theorem fam8_end {p w : Nat} {xs : List Int} : fam8 p w (xs.drop xs.length) = some (p, w) := by
  rw [List.drop_eq_nil_of_le (Nat.le_refl _)]; rfl
/-- what a loop over the sizes has behind k of them -/
structure Fam8 (xs : List Int) (k p w : Nat) : Prop where
  same : fam8 0 1 xs = fam8 p w (xs.drop k)
  low : k ≤ p
  top : p ≤ 12
  ways : w ≤ fac8 p
  zero : p = 0 → k = 0
  pos : 1 ≤ w
  nil0 : k = 0 → p = 0
theorem Fam8.start (xs : List Int) : Fam8 xs 0 0 1 := ⟨by rw [List.drop_zero], Nat.le_refl _, by omega, Nat.le_refl _, fun _ => rfl, Nat.le_refl _, fun _ => rfl⟩
theorem Fam8.next {xs : List Int} {k p w : Nat} {x : Int} (h : Fam8 xs k p w) (hk : k < xs.length) (hx : xs[k]?.getD 0 = x) (h1 : 1 ≤ x) (h2 : (p : Int) + x ≤ 12) : Fam8 xs (k + 1) (p + x.toNat) (w * fac8 x.toNat) := by
  have e := h.same
  rw [fam8_step hk, hx, if_pos ⟨h1, h2⟩] at e
  have := h.low
  have := h.top
  refine ⟨e, by omega, by omega, ?_, by omega, ?_, by omega⟩
  · exact Nat.le_trans (Nat.mul_le_mul_right _ h.ways) (fac_add p x.toNat)
  · exact Nat.mul_pos h.pos (fac_pos _)
theorem Fam8.bad {xs : List Int} {k p w : Nat} {x : Int} (h : Fam8 xs k p w) (hk : k < xs.length) (hx : xs[k]?.getD 0 = x) (hn : ¬ (1 ≤ x ∧ (p : Int) + x ≤ 12)) : fam8 0 1 xs = none := by
  have e := h.same
  rw [fam8_step hk, hx, if_neg hn] at e
  exact e
theorem Fam8.done {xs : List Int} {k p w : Nat} (h : Fam8 xs k p w) (hk : xs.length ≤ k) : fam8 0 1 xs = some (p, w) := by
  have e := h.same
  rw [List.drop_eq_nil_of_le hk] at e
  exact e
theorem Fam8.small {xs : List Int} {k p w : Nat} (h : Fam8 xs k p w) : w ≤ 479001600 := Nat.le_trans h.ways (fac_le p h.top)
/-- ways to seat families -/
def famV (n p w : Nat) (ring : Bool) : Nat := if (ring && decide (1 < n)) = true then p * fac8 (n - 1) * w else fac8 n * w
def famR (xs : List Int) (ring : Bool) : Int × Bool :=
  match fam8 0 1 xs with
  | none => (0, false)
  | some (p, w) => if (decide (p = 0) || (ring && decide (p < 3))) = true then (0, false) else ((famV xs.length p w ring : Nat), true)
theorem mul_bound8 {a b : Nat} (h1 : a ≤ 479001600) (h2 : b ≤ 479001600) : a * b ≤ 229442532802560000 := Nat.mul_le_mul h1 h2
end Go.Proofs.Yteabodhkgkffiaa
