/- The first of the greatest of some numbers. Plain lemmas. -/
import Derived.Test.YtfpndbekinibhaaRowMath
namespace Go.Proofs.Ytfpndbekinibhaa

/-- the first place of 0 .. k whose number is greatest -/
def bestM (f : Nat → Int) : Nat → Nat
  | 0 => 0
  | k + 1 => if f (bestM f k) < f (k + 1) then k + 1 else bestM f k
theorem bestM_le (f : Nat → Int) : ∀ k, bestM f k ≤ k := by
  intro k
  induction k with
  | zero => exact Nat.le_refl _
  | succ k ih => unfold bestM; split <;> omega
theorem bestM_max (f : Nat → Int) : ∀ k i, i ≤ k → f i ≤ f (bestM f k) := by
  intro k
  induction k with
  | zero => intro i hi; have : i = 0 := by omega
            subst this; exact Int.le_refl _
  | succ k ih =>
    intro i hi
    unfold bestM
    split
    · rename_i h
      rcases Nat.lt_or_ge i (k + 1) with h1 | h1
      · have := ih i (by omega); omega
      · have : i = k + 1 := by omega
        subst this; exact Int.le_refl _
    · rename_i h
      rcases Nat.lt_or_ge i (k + 1) with h1 | h1
      · exact ih i (by omega)
      · have : i = k + 1 := by omega
        subst this; omega
theorem bestM_first (f : Nat → Int) : ∀ k i, i < bestM f k → f i < f (bestM f k) := by
  intro k
  induction k with
  | zero => intro i hi; unfold bestM at hi; omega
  | succ k ih =>
    intro i hi
    unfold bestM at hi ⊢
    split
    · rename_i h
      rw [if_pos h] at hi
      have := bestM_max f k i (by omega)
      omega
    · rename_i h
      rw [if_neg h] at hi
      exact ih i hi
theorem bestM_congr {f g : Nat → Int} : ∀ k, (∀ i, i ≤ k → f i = g i) → bestM f k = bestM g k := by
  intro k
  induction k with
  | zero => intro _; rfl
  | succ k ih =>
    intro h
    have e := ih (fun i hi => h i (by omega))
    unfold bestM
    rw [e, h (bestM g k) (by have := bestM_le g k; omega), h (k + 1) (Nat.le_refl _)]
theorem bestM_up {f : Nat → Int} {k : Nat} (h : f (bestM f k) < f (k + 1)) : bestM f (k + 1) = k + 1 := by rw [bestM, if_pos h]
theorem bestM_stay {f : Nat → Int} {k : Nat} (h : ¬ f (bestM f k) < f (k + 1)) : bestM f (k + 1) = bestM f k := by rw [bestM, if_neg h]
end Go.Proofs.Ytfpndbekinibhaa
