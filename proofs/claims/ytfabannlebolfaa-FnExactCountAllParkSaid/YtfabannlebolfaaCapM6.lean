/- Chapter 6: lists that all park: mathematics. Plain lemmas. -/
import Derived.Test.YtfabannlebolfaaRowMath
namespace Go.Proofs.Ytfabannlebolfaa

/-- the number of ways to choose k of n, as the program reckons it -/
def chN (n : Nat) : Nat → Nat
  | 0 => 1
  | i + 1 => chN n i * (n - i) / (i + 1)
theorem ch_all : (List.range 13).all (fun n => (List.range (n + 1)).all (fun i => decide (chN n i ≤ 924))) = true := by decide +kernel
theorem ch_le {n i : Nat} (hn : n ≤ 12) (hi : i ≤ n) : chN n i ≤ 924 := by
  have h := ch_all
  rw [List.all_eq_true] at h
  have h1 := h n (List.mem_range.2 (by omega))
  rw [List.all_eq_true] at h1
  exact of_decide_eq_true (h1 i (List.mem_range.2 (by omega)))

/-- what the first j entries of a table add to entry t of the next one -/
def psM (m room : Nat) (F : Nat → Nat) : Nat → Nat → Nat
  | 0, _ => 0
  | j + 1, t => psM m room F j t + (if j ≤ t ∧ t ≤ m ∧ t ≤ room then F j * chN (m - j) (t - j) else 0)
/-- .. and the next entry's first k terms -/
def ptM (m room : Nat) (F : Nat → Nat) (j k t : Nat) : Nat := psM m room F j t + (if j ≤ t ∧ t < j + k ∧ t ≤ m ∧ t ≤ room then F j * chN (m - j) (t - j) else 0)
theorem pt_zero (m room : Nat) (F : Nat → Nat) (j t : Nat) : ptM m room F j 0 t = psM m room F j t := by
  unfold ptM
  rw [if_neg (by omega), Nat.add_zero]
theorem pt_step {m room : Nat} {F : Nat → Nat} {j k : Nat} (h1 : j + k ≤ m) (h2 : j + k ≤ room) (t : Nat) : ptM m room F j (k + 1) t = (if t = j + k then ptM m room F j k t + F j * chN (m - j) k else ptM m room F j k t) := by
  unfold ptM
  by_cases e : t = j + k
  · subst e
    rw [if_pos rfl, if_pos (by omega), if_neg (by omega), Nat.add_zero, Nat.add_sub_cancel_left]
  · rw [if_neg e]
    by_cases h : j ≤ t ∧ t < j + k ∧ t ≤ m ∧ t ≤ room
    · rw [if_pos (by omega), if_pos h]
    · rw [if_neg (by omega), if_neg h]
theorem pt_end {m room : Nat} {F : Nat → Nat} {j k : Nat} (h : m < j + k ∨ room < j + k) (t : Nat) : ptM m room F j k t = psM m room F (j + 1) t := by
  unfold ptM
  show _ = psM m room F j t + _
  by_cases h2 : j ≤ t ∧ t ≤ m ∧ t ≤ room
  · rw [if_pos (by omega), if_pos h2]
  · rw [if_neg (by omega), if_neg h2]
/-- the table behind p seats -/
def tbM (m : Nat) (rm : Nat → Nat) : Nat → Nat → Nat
  | 0, t => if t = 0 then 1 else 0
  | p + 1, t => psM m (rm (p + 1)) (tbM m rm p) (m + 1) t

/-- a bound of the sums: as if all seats were free -/
def bdM (m p : Nat) : Nat → Nat → Nat
  | 0, _ => 0
  | j + 1, t => bdM m p j t + (if j ≤ t then chN m j * p ^ j * chN (m - j) (t - j) else 0)
theorem bd_all : (List.range 13).all (fun m => (List.range 13).all (fun p => (List.range (m + 1)).all (fun t => decide (bdM m p (m + 1) t = chN m t * (p + 1) ^ t)))) = true := by decide +kernel
theorem bd_is {m p t : Nat} (hm : m ≤ 12) (hp : p ≤ 12) (ht : t ≤ m) : bdM m p (m + 1) t = chN m t * (p + 1) ^ t := by
  have h := bd_all
  rw [List.all_eq_true] at h
  have h1 := h m (List.mem_range.2 (by omega))
  rw [List.all_eq_true] at h1
  have h2 := h1 p (List.mem_range.2 (by omega))
  rw [List.all_eq_true] at h2
  exact of_decide_eq_true (h2 t (List.mem_range.2 (by omega)))
theorem ps_le_bd {m room p : Nat} {F : Nat → Nat} (hF : ∀ j, j ≤ m → F j ≤ chN m j * p ^ j) (t : Nat) : ∀ j, j ≤ m + 1 → psM m room F j t ≤ bdM m p j t
  | 0, _ => Nat.le_refl _
  | j + 1, h => by
    show psM m room F j t + _ ≤ bdM m p j t + _
    have ih := ps_le_bd (room := room) hF t j (by omega)
    have h1 : F j * chN (m - j) (t - j) ≤ chN m j * p ^ j * chN (m - j) (t - j) := Nat.mul_le_mul_right _ (hF j (by omega))
    split <;> split <;> omega
theorem bd_mono (m p t : Nat) : ∀ i j, i ≤ j → bdM m p i t ≤ bdM m p j t
  | i, 0, h => by rw [show i = 0 by omega]; exact Nat.le_refl _
  | i, j + 1, h => by
    by_cases e : i = j + 1
    · rw [e]; exact Nat.le_refl _
    · have := bd_mono m p t i j (by omega)
      show _ ≤ bdM m p j t + _
      omega
theorem ps_out {m room : Nat} {F : Nat → Nat} {t : Nat} (h : m < t) : ∀ j, psM m room F j t = 0
  | 0 => rfl
  | j + 1 => by show psM m room F j t + _ = 0; rw [ps_out h j, if_neg (by omega)]
theorem tb_le {m : Nat} (hm : m ≤ 12) (rm : Nat → Nat) : ∀ p, p ≤ 12 → ∀ t, t ≤ m → tbM m rm p t ≤ chN m t * p ^ t
  | 0, _, t, _ => by
    show (if t = 0 then 1 else 0) ≤ _
    split
    · rename_i h; rw [h]; exact Nat.le_refl _
    · omega
  | p + 1, hp, t, ht => by
    show psM m (rm (p + 1)) (tbM m rm p) (m + 1) t ≤ _
    rw [← bd_is hm (by omega) ht]
    exact ps_le_bd (fun j hj => tb_le hm rm p (by omega) j hj) t (m + 1) (Nat.le_refl _)
theorem big_all : (List.range 13).all (fun m => (List.range 14).all (fun p => (List.range (m + 1)).all (fun t => decide (chN m t * p ^ t ≤ 100000000000000)))) = true := by decide +kernel
theorem big_le {m p t : Nat} (hm : m ≤ 12) (hp : p ≤ 13) (ht : t ≤ m) : chN m t * p ^ t ≤ 100000000000000 := by
  have h := big_all
  rw [List.all_eq_true] at h
  have h1 := h m (List.mem_range.2 (by omega))
  rw [List.all_eq_true] at h1
  have h2 := h1 p (List.mem_range.2 (by omega))
  rw [List.all_eq_true] at h2
  exact of_decide_eq_true (h2 t (List.mem_range.2 (by omega)))
theorem tb_big {m : Nat} (hm : m ≤ 12) (rm : Nat → Nat) {p t : Nat} (hp : p ≤ 12) (ht : t ≤ m) : tbM m rm p t ≤ 100000000000000 :=
  Nat.le_trans (tb_le hm rm p hp t ht) (big_le hm (by omega) ht)
theorem pt_big {m room : Nat} (hm : m ≤ 12) (rm : Nat → Nat) {p j k t : Nat} (hp : p < 12) (hj : j ≤ m) (ht : t ≤ m) : ptM m room (tbM m rm p) j k t ≤ 100000000000000 := by
  have h1 : ptM m room (tbM m rm p) j k t ≤ psM m room (tbM m rm p) (j + 1) t := by
    unfold ptM
    show _ ≤ psM m room (tbM m rm p) j t + _
    by_cases h : j ≤ t ∧ t < j + k ∧ t ≤ m ∧ t ≤ room
    · rw [if_pos h, if_pos (by omega)]; exact Nat.le_refl _
    · rw [if_neg h]; omega
  have h2 := ps_le_bd (room := room) (p := p) (fun i hi => tb_le hm rm p (by omega) i hi) t (j + 1) (by omega)
  have h3 := bd_mono m p t (j + 1) (m + 1) (by omega)
  rw [bd_is hm (by omega) ht] at h3
  have h4 := big_le (p := p + 1) hm (by omega) ht
  omega

/-- how many of the last p seats are free -/
def rmM (n : Nat) (S : Nat → Bool) : Nat → Nat
  | 0 => 0
  | p + 1 => rmM n S p + (if S (n - 1 - p) then 0 else 1)
theorem rm_le (n : Nat) (S : Nat → Bool) : ∀ p, rmM n S p ≤ p
  | 0 => Nat.le_refl _
  | p + 1 => by show rmM n S p + _ ≤ p + 1; have := rm_le n S p; split <;> omega
/-- how many lists of preferences of m cars all park -/
def capM (n : Nat) (ring : Bool) (S : Nat → Bool) (m : Nat) : Nat :=
  if (tk n fun i => !S i).length < m then 0 else if ring then n ^ m else tbM m (rmM n S) n m
end Go.Proofs.Ytfabannlebolfaa
