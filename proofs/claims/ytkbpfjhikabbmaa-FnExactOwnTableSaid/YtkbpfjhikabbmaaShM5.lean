/- Chapter 5: shares of seatings: mathematics. Plain lemmas. -/
import Derived.Test.YtkbpfjhikabbmaaTrlM5
import Derived.Test.YtkbpfjhikabbmaaChn5
namespace Go.Proofs.Ytkbpfjhikabbmaa
open Go.RowKit

theorem tk_drop1 (T U : Nat → Bool) (s : Nat) (hT : T s = true) : ∀ n, s < n → (∀ i, i < n → U i = (T i && decide (i ≠ s))) → (tk n T).length = (tk n U).length + 1
  | 0, h, _ => absurd h (Nat.not_lt_zero _)
  | n + 1, h, hU => by
    rw [tk_succ, tk_succ, List.length_append, List.length_append, hU n (Nat.lt_succ_self n)]
    by_cases hs : s = n
    · subst hs
      have e : tk s T = tk s U := tk_congr (fun i hi => by rw [hU i (Nat.lt_succ_of_lt hi)]; have : i ≠ s := by omega
                                                           simp [this])
      rw [e, hT]
      simp
    · have ih := tk_drop1 T U s hT n (by omega) (fun i hi => hU i (Nat.lt_succ_of_lt hi))
      have hn : n ≠ s := fun h => hs h.symm
      rw [ih]
      simp only [hn, ne_eq, not_false_eq_true, decide_true, Bool.and_true]
      omega
/-- behind j travelers n - j seats are free -/
theorem free_len {n k : Nat} {xs : List Int} (hl : xs.length = n) : ∀ j, j ≤ n → possM n k xs j = true → (tk n (choS (xs.take j))).length + j = n
  | 0, _, _ => by
    have e : tk n (choS (xs.take 0)) = tk n (fun _ => true) := tk_congr (fun i _ => by unfold choS; simp)
    rw [e]
    unfold tk
    rw [List.filter_eq_self.2 (fun _ _ => rfl), List.length_range, Nat.add_zero]
  | j + 1, hj, h => by
    have h0 := possM_mono (i := j) h (Nat.le_succ _)
    have ih := free_len hl j (by omega) h0
    obtain ⟨h1, s, h2, h3⟩ := cho_mem (poss_at h (Nat.lt_succ_self j)) (by rw [List.length_take]; omega)
    have hst : xs.take (j + 1) = xs.take j ++ [(s : Int)] := by
      rw [List.take_succ_eq_append_getElem (by omega : j < xs.length), ← h2, List.getElem?_eq_getElem (by omega)]
      rfl
    rw [h2] at h1
    have := tk_drop1 (choS (xs.take j)) (choS (xs.take (j + 1))) s (by unfold choS; simpa using h1) n h3 (by
      intro i _
      unfold choS
      rw [hst]
      by_cases hi : i = s
      · subst hi; simp
      · have : ¬ (i : Int) = (s : Int) := by omega
        simp [this, hi])
    omega

def fac5 : Nat → Nat
  | 0 => 1
  | n + 1 => fac5 n * (n + 1)
theorem den_dvd {n k : Nat} {xs : List Int} (hl : xs.length = n) : ∀ j, j ≤ n → possM n k xs j = true → denM n k xs j * fac5 (n - j) ∣ fac5 n
  | 0, _, _ => by show 1 * fac5 n ∣ fac5 n; rw [Nat.one_mul]; exact Nat.dvd_refl _
  | j + 1, hj, h => by
    have h0 := possM_mono (i := j) h (Nat.le_succ _)
    have ih := den_dvd hl j (by omega) h0
    have hf := free_len hl j (by omega) h0
    obtain ⟨m, hm⟩ : ∃ m, n - j = m + 1 := ⟨n - j - 1, by omega⟩
    have hm2 : n - (j + 1) = m := by omega
    rw [hm] at ih
    rw [hm2]
    show denM n k xs j * (choM n k (xs.take j)).length * fac5 m ∣ fac5 n
    refine Nat.dvd_trans ?_ ih
    rw [Nat.mul_assoc]
    refine Nat.mul_dvd_mul_left _ ?_
    show _ ∣ fac5 m * (m + 1)
    unfold choM
    split
    · simp only [List.length_singleton, Nat.one_mul]
      exact Nat.dvd_mul_right _ _
    · have e : (tk n (choS (xs.take j))).length = m + 1 := by omega
      rw [e, Nat.mul_comm]
      exact Nat.dvd_refl _
theorem fac_dvd : (List.range 13).all (fun n => decide (fac5 n ∣ 479001600)) = true := by decide +kernel
theorem den_dvd_all {n k : Nat} {xs : List Int} (hl : xs.length = n) (hn : n ≤ 12) (h : possM n k xs n = true) : denM n k xs n ∣ 479001600 := by
  have h1 := den_dvd hl n (Nat.le_refl _) h
  rw [Nat.sub_self] at h1
  have h2 := fac_dvd
  rw [List.all_eq_true] at h2
  have h3 := of_decide_eq_true (h2 n (List.mem_range.2 (by omega)))
  have h4 : denM n k xs n * fac5 0 = denM n k xs n := Nat.mul_one _
  rw [h4] at h1
  exact Nat.dvd_trans h1 h3

/-- the share of a list of seats -/
def shaM (n k : Nat) (xs : List Int) : Nat := if posB n k xs then 479001600 / denM n k xs n else 0
theorem posB_is {n k : Nat} {xs : List Int} (h : posB n k xs = true) : xs.length = n ∧ possM n k xs n = true := by
  unfold posB at h
  rw [Bool.and_eq_true, decide_eq_true_eq] at h
  exact h
theorem sha_pos {n k : Nat} {xs : List Int} (hn : n ≤ 12) (h : posB n k xs = true) : 0 < shaM n k xs := by
  obtain ⟨h1, h2⟩ := posB_is h
  unfold shaM
  rw [if_pos h]
  exact Nat.div_pos (Nat.le_of_dvd (by omega) (den_dvd_all h1 hn h2)) (den_pos h2)
theorem sha_zero {n k : Nat} {xs : List Int} (h : posB n k xs = false) : shaM n k xs = 0 := by unfold shaM; rw [h]; rfl
theorem sha_le (n k : Nat) (xs : List Int) : shaM n k xs ≤ 479001600 := by
  unfold shaM
  split
  · exact Nat.div_le_self _ _
  · omega
theorem sha_rat {n k : Nat} {xs : List Int} (hn : n ≤ 12) (h : posB n k xs = true) : mkRat ((shaM n k xs : Nat) : Int) 479001600 = mkRat 1 (denM n k xs n) := by
  obtain ⟨h1, h2⟩ := posB_is h
  obtain ⟨q, hq⟩ := den_dvd_all h1 hn h2
  have hp := den_pos h2
  unfold shaM
  rw [if_pos h]
  obtain ⟨D, hD⟩ : ∃ D, denM n k xs n = D := ⟨_, rfl⟩
  rw [hD] at hq hp ⊢
  have hq0 : q ≠ 0 := by intro e; rw [e] at hq; omega
  have e1 : 479001600 / D = q := by rw [hq]; exact Nat.mul_div_cancel_left _ hp
  rw [e1]
  have e2 := Rat.mkRat_mul_left (a := q) (n := 1) (d := D) hq0
  rw [Int.mul_one, Nat.mul_comm q D, ← hq] at e2
  exact e2
/-- the share behind j travelers -/
theorem sha_step (n k : Nat) (xs : List Int) (j : Nat) : 479001600 / denM n k xs (j + 1) = 479001600 / denM n k xs j / (choM n k (xs.take j)).length := by
  show 479001600 / (denM n k xs j * _) = _
  rw [Nat.div_div_eq_div_mul]
end Go.Proofs.Ytkbpfjhikabbmaa
