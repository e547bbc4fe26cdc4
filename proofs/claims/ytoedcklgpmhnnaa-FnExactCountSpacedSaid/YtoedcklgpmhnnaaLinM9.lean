/- Counts of choices on a line, seat by seat: mathematics. Plain lemmas: no function of the program. -/
import Derived.Test.YtoedcklgpmhnnaaSpcM9
namespace Go.Proofs.Ytoedcklgpmhnnaa

/-- the open seats from a on and before b -/
def rngL (O : Nat → Bool) (a b : Nat) : List Nat := tk b fun q => decide (a ≤ q) && O q
theorem rngL_empty {O : Nat → Bool} {a b : Nat} (h : b ≤ a) : rngL O a b = [] := by
  apply List.eq_nil_iff_forall_not_mem.2
  intro x hx
  obtain ⟨h1, h2⟩ := mem_tk.1 hx
  simp only [Bool.and_eq_true, decide_eq_true_eq] at h2
  omega
theorem rngL_yes {O : Nat → Bool} {a b : Nat} (h : a ≤ b) (hO : O b = true) : rngL O a (b + 1) = rngL O a b ++ [b] := by
  unfold rngL
  rw [tk_succ]
  simp [h, hO]
theorem rngL_no {O : Nat → Bool} {a b : Nat} (hO : O b = false) : rngL O a (b + 1) = rngL O a b := by
  unfold rngL
  rw [tk_succ]
  simp [hO]
theorem rngL_sorted (O : Nat → Bool) (a b : Nat) : (rngL O a b).Pairwise (· < ·) := tk_sorted _ _
theorem rngL_filter {O : Nat → Bool} {a p d : Nat} (hd : 1 ≤ d) (h : a + d ≤ p) : (rngL O a p).filter (fun q => decide (q + d ≤ p)) = rngL O a (p - d + 1) := by
  apply sorted_ext ((rngL_sorted O a p).filter _) (rngL_sorted O a _)
  intro x
  unfold rngL
  rw [List.mem_filter, mem_tk, mem_tk]
  simp only [Bool.and_eq_true, decide_eq_true_eq]
  constructor
  · rintro ⟨⟨h1, h2⟩, h3⟩; exact ⟨by omega, h2⟩
  · rintro ⟨h1, h2⟩; exact ⟨⟨by omega, h2⟩, by omega⟩
theorem rngL_filter0 {O : Nat → Bool} {a p d : Nat} (h : p < a + d) : (rngL O a p).filter (fun q => decide (q + d ≤ p)) = [] := by
  rw [List.filter_eq_nil_iff]
  intro x hx
  obtain ⟨h1, h2⟩ := mem_tk.1 hx
  simp only [Bool.and_eq_true, decide_eq_true_eq] at h2
  simp; omega
theorem rngL_len (O : Nat → Bool) (a b : Nat) : (rngL O a b).length ≤ b := tk_length_le _ _
/-- numbers of choices by their numbers of seats -/
def crow (d : Nat) (l : List Nat) : List Nat := (List.range 25).map fun k => chl d k l
theorem crow_len (d : Nat) (l : List Nat) : (crow d l).length = 25 := by unfold crow; simp
theorem crow_get {d : Nat} {l : List Nat} {k : Nat} (h : k < 25) : (crow d l)[k]?.getD 0 = chl d k l := by unfold crow; simp [h]
theorem crow_nil (d : Nat) : crow d [] = 1 :: List.replicate 24 0 := rfl
/-- a row of which the places 1 .. k - 1 have what lies one before in another row, too -/
def mixR (f g : Nat → Nat) (k : Nat) : List Nat := (List.range 25).map fun i => if 1 ≤ i ∧ i < k then f i + g (i - 1) else f i
theorem mixR_len (f g : Nat → Nat) (k : Nat) : (mixR f g k).length = 25 := by unfold mixR; simp
theorem mixR_one (f g : Nat → Nat) : mixR f g 1 = (List.range 25).map f := by
  unfold mixR
  apply List.map_congr_left
  intro i _
  rw [if_neg (by omega)]
theorem mixR_get {f g : Nat → Nat} {k : Nat} (h : k < 25) : (mixR f g k)[k]?.getD 0 = f k := by
  unfold mixR
  simp [h]
theorem mixR_set (f g : Nat → Nat) {k : Nat} (h1 : 1 ≤ k) : (mixR f g k).set k (f k + g (k - 1)) = mixR f g (k + 1) := by
  apply List.ext_getElem?
  intro i
  rw [List.getElem?_set, mixR_len]
  unfold mixR
  by_cases e : k = i
  · subst e
    rw [if_pos rfl]
    by_cases h : k < 25
    · simp [h, h1]
    · simp [h]
  · rw [if_neg e]
    by_cases h : i < 25
    · have : (1 ≤ i ∧ i < k) ↔ (1 ≤ i ∧ i < k + 1) := by omega
      simp [h, this]
    · simp [h]
theorem mixR_all (f g : Nat → Nat) : mixR f g 25 = (List.range 25).map fun i => if 1 ≤ i then f i + g (i - 1) else f i := by
  unfold mixR
  apply List.map_congr_left
  intro i hi
  have : i < 25 := by simpa using hi
  by_cases h : 1 ≤ i
  · rw [if_pos ⟨h, this⟩, if_pos h]
  · rw [if_neg (by omega), if_neg h]
/-- one open seat more -/
theorem crow_next {O : Nat → Bool} {a p d : Nat} (hd : 1 ≤ d) (h : a ≤ p) (hO : O p = true) {B : List Nat} (hB : (rngL O a p).filter (fun q => decide (q + d ≤ p)) = B) : mixR (fun k => chl d k (rngL O a p)) (fun k => chl d k B) 25 = crow d (rngL O a (p + 1)) := by
  rw [mixR_all, rngL_yes h hO]
  unfold crow
  apply List.map_congr_left
  intro i _
  cases i with
  | zero => rfl
  | succ k =>
    rw [if_pos (by omega), chl_snoc, hB]
    rfl
theorem chl_bound {d k b : Nat} {O : Nat → Bool} {a : Nat} (hb : b ≤ 24) : chl d k (rngL O a b) ≤ 16777216 :=
  Nat.le_trans (chl_le d k _) (Nat.le_trans (Nat.pow_le_pow_right (by omega) (Nat.le_trans (rngL_len O a b) hb)) (by decide))
end Go.Proofs.Ytoedcklgpmhnnaa
