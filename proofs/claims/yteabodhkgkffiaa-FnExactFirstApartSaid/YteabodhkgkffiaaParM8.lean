/- Mathematics of parties: couples together, turns, factorials, choices, counts by inclusion and exclusion. Plain lemmas. -/
import Derived.Test.YteabodhkgkffiaaInts
namespace Go.Proofs.Yteabodhkgkffiaa

/-- a couple sits at seat j and behind it -/
def tgA (ring : Bool) (l : List Nat) (j : Nat) : Nat := if ((decide (j + 1 < l.length) || ring) && decide (l[j]?.getD 0 / 2 = l[(j + 1) % l.length]?.getD 0 / 2)) = true then 1 else 0
def tgN (ring : Bool) (l : List Nat) : Nat → Nat
  | 0 => 0
  | j + 1 => tgN ring l j + tgA ring l j
theorem tgN_le (ring : Bool) (l : List Nat) : ∀ j, tgN ring l j ≤ j := by
  intro j
  induction j with
  | zero => exact Nat.le_refl _
  | succ j ih => unfold tgN tgA; split <;> omega
/-- how many couples sit together -/
def tog8 (ring : Bool) (l : List Nat) : Nat := tgN ring l l.length

/-- everybody sits by so many seats farther -/
def trn8 (l : List Nat) (by' : Nat) : List Nat := (List.range l.length).map fun i => l[(i + (l.length - by')) % l.length]?.getD 0

def fac8 : Nat → Nat
  | 0 => 1
  | n + 1 => fac8 n * (n + 1)
theorem fac_le : ∀ n, n ≤ 12 → fac8 n ≤ 479001600 := by decide
theorem fac_pos : ∀ n, 1 ≤ fac8 n := by
  intro n
  induction n with
  | zero => exact Nat.le_refl _
  | succ n ih => unfold fac8; exact Nat.le_trans ih (Nat.le_mul_of_pos_right _ (by omega))
theorem fac_mono {a b : Nat} (h : a ≤ b) : fac8 a ≤ fac8 b := by
  induction h with
  | refl => exact Nat.le_refl _
  | step h ih => exact Nat.le_trans ih (Nat.le_mul_of_pos_right _ (by omega))
theorem fac_add (a : Nat) : ∀ b, fac8 a * fac8 b ≤ fac8 (a + b) := by
  intro b
  induction b with
  | zero => simp [fac8]
  | succ b ih =>
    show fac8 a * (fac8 b * (b + 1)) ≤ fac8 (a + b) * (a + b + 1)
    rw [← Nat.mul_assoc]
    exact Nat.mul_le_mul ih (by omega)

/-- ways to choose, step by step -/
def cho8 (n : Nat) : Nat → Nat
  | 0 => 1
  | j + 1 => cho8 n j * (n - j) / (j + 1)
theorem cho_le : ∀ n, n ≤ 12 → ∀ j, j ≤ 12 → cho8 n j ≤ 924 := by decide +kernel
/-- pairs of seats for so many couples -/
def prs8 (k : Nat) (ring : Bool) (s : Nat) : Nat := cho8 (2 * k - s) s + if (ring && decide (0 < s)) = true then cho8 (2 * k - s - 1) (s - 1) else 0
def sea8 (k : Nat) (ring : Bool) (s : Nat) : Nat := prs8 k ring s * fac8 k / fac8 (k - s)
theorem prs_le : ∀ k, k ≤ 6 → ∀ ring s, s ≤ k → prs8 k ring s ≤ 2000 := by
  intro k hk ring s hs
  have h1 := cho_le (2 * k - s) (by omega) s (by omega)
  have h2 := cho_le (2 * k - s - 1) (by omega) (s - 1) (by omega)
  unfold prs8
  split <;> omega
theorem sea_le {k : Nat} (hk : k ≤ 6) (ring : Bool) {s : Nat} (hs : s ≤ k) : prs8 k ring s * fac8 k ≤ 1440000 := by
  have h1 := prs_le k hk ring s hs
  have h2 : fac8 k ≤ 720 := fac_mono hk
  exact Nat.mul_le_mul h1 h2
theorem sea_le2 {k : Nat} (hk : k ≤ 6) (ring : Bool) {s : Nat} (hs : s ≤ k) : sea8 k ring s ≤ 1440000 := Nat.le_trans (Nat.div_le_self _ _) (sea_le hk ring hs)

/-- exactCounts: what is left of a number behind some of those above it -/
def inn8 (W F : Nat → Int) (s : Nat) : Nat → Int
  | 0 => W s
  | m + 1 => inn8 W F s m - (cho8 (s + 1 + m) s : Int) * F (s + 1 + m)
def exS8 (k : Nat) (W : Nat → Int) : Nat → Nat → Int
  | 0, _ => 0
  | t + 1, j => if j = k - t then inn8 W (exS8 k W t) j t else exS8 k W t j

/-- ways for CoupleCounts and MenageCount -/
def wC8 (k : Nat) (ring : Bool) (s : Nat) : Nat := sea8 k ring s * 2 ^ s * fac8 (2 * (k - s))
def wM8 (k : Nat) (s : Nat) : Nat := sea8 k true s * 2 * fac8 (k - s) * fac8 (k - s)

/-- spec.l8Some -/
def som8 (k : Nat) (ring : Bool) (j : Nat) : Nat := if ring then cho8 k j * 2 ^ j * 2 * k * fac8 (2 * k - j - 1) else cho8 k j * 2 ^ j * fac8 (2 * k - j)
def cnT8 (k : Nat) (ring : Bool) (t : Nat) : Nat → Int
  | 0 => 0
  | m + 1 => cnT8 k ring t m + (if m % 2 = 1 then -((cho8 (t + m) t * som8 k ring (t + m) : Nat) : Int) else ((cho8 (t + m) t * som8 k ring (t + m) : Nat) : Int))
/-- spec.MenageCount -/
def mnT8 (k : Nat) : Nat → Int
  | 0 => 0
  | m + 1 => mnT8 k m + (if m % 2 = 1 then -((2 * k * cho8 (2 * k - m) m / (2 * k - m) * fac8 (k - m) : Nat) : Int) else ((2 * k * cho8 (2 * k - m) m / (2 * k - m) * fac8 (k - m) : Nat) : Int))

theorem couples_same : ∀ k, k ≤ 6 → 1 ≤ k → ∀ ring, (ring = true → 2 ≤ k) → ∀ t, t ≤ k → exS8 k (fun s => (wC8 k ring s : Int)) (k + 1) t = cnT8 k ring t (k + 1 - t) := by decide +kernel
theorem menage_same : ∀ k, k ≤ 6 → 2 ≤ k → exS8 k (fun s => (wM8 k s : Int)) (k + 1) 0 = 2 * (fac8 k : Int) * mnT8 k (k + 1) := by decide +kernel
theorem couples_bound : ∀ k, k ≤ 6 → ∀ ring, ∀ t, t ≤ k → ∀ m, m ≤ t → (-1000000000000 ≤ inn8 (fun s => (wC8 k ring s : Int)) (exS8 k (fun s => (wC8 k ring s : Int)) t) (k - t) m ∧ inn8 (fun s => (wC8 k ring s : Int)) (exS8 k (fun s => (wC8 k ring s : Int)) t) (k - t) m ≤ 1000000000000) := by decide +kernel
theorem menage_bound : ∀ k, k ≤ 6 → ∀ t, t ≤ k → ∀ m, m ≤ t → (-1000000000000 ≤ inn8 (fun s => (wM8 k s : Int)) (exS8 k (fun s => (wM8 k s : Int)) t) (k - t) m ∧ inn8 (fun s => (wM8 k s : Int)) (exS8 k (fun s => (wM8 k s : Int)) t) (k - t) m ≤ 1000000000000) := by decide +kernel
theorem cnT_bound : ∀ k, k ≤ 6 → ∀ ring, ∀ t, t ≤ k → ∀ m, m ≤ k + 1 - t → (-1000000000000 ≤ cnT8 k ring t m ∧ cnT8 k ring t m ≤ 1000000000000) := by decide +kernel
theorem mnT_bound : ∀ k, k ≤ 6 → ∀ m, m ≤ k + 1 → (-1000000000000 ≤ mnT8 k m ∧ mnT8 k m ≤ 1000000000000) := by decide +kernel
theorem som_bound : ∀ k, k ≤ 6 → ∀ ring, ∀ j, j ≤ k → som8 k ring j ≤ 6000000000 := by decide +kernel
end Go.Proofs.Yteabodhkgkffiaa
