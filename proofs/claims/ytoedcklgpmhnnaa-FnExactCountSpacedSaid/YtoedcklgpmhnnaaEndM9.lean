/- Choices by their first and their last seat: mathematics. Plain lemmas: no function of the program. -/
import Derived.Test.YtoedcklgpmhnnaaSpkM9
namespace Go.Proofs.Ytoedcklgpmhnnaa

/-- how many choices of k seats that begin with the first seat end with q, when the last but one is among the first i of all -/
def knP (d : Nat) (rest : List Nat) (i q : Nat) : Nat → Nat
  | 0 => 0
  | 1 => 0
  | k + 2 => if i = 0 then 0 else chl d k ((rest.take (i - 1)).filter fun x => decide (x + d ≤ q))
/-- those that end with the first seat -/
def knF (k : Nat) : Nat := if k = 1 then 1 else 0
/-- those that end with the seat of an index -/
def knE (d : Nat) (rest : List Nat) (j : Nat) : Nat → Nat := if j = 0 then knF else knP d rest j (rest[j - 1]?.getD 0)
theorem knP_zero (d : Nat) (rest : List Nat) (q k : Nat) : knP d rest 0 q k = 0 := by
  match k with
  | 0 => rfl
  | 1 => rfl
  | k + 2 => rfl
theorem knP_none (d : Nat) (rest : List Nat) (i q : Nat) : knP d rest i q 0 = 0 := rfl
theorem take_snoc9 {l : List Nat} {j : Nat} (h : j < l.length) : l.take (j + 1) = l.take j ++ [l[j]?.getD 0] := by
  rw [List.take_succ_eq_append_getElem h, List.getElem?_eq_getElem h]; rfl
theorem filter_le9 {l : List Nat} {d p q : Nat} (h : p ≤ q) : (l.filter fun x => decide (x + d ≤ q)).filter (fun x => decide (x + d ≤ p)) = l.filter fun x => decide (x + d ≤ p) := by
  rw [List.filter_filter]
  apply List.filter_congr
  intro x _
  by_cases h1 : x + d ≤ p
  · have : x + d ≤ q := by omega
    simp [h1, this]
  · simp [h1]
/-- q can follow the seat of index j -/
theorem knP_step {d : Nat} {rest : List Nat} {j q : Nat} (hj : j ≤ rest.length) (h : j = 0 ∨ rest[j - 1]?.getD 0 + d ≤ q) (k : Nat) : knP d rest (j + 1) q (k + 1) = knP d rest j q (k + 1) + knE d rest j k := by
  match j, k with
  | 0, 0 => rfl
  | 0, 1 => rfl
  | 0, k + 2 => rfl
  | j + 1, 0 => rfl
  | j + 1, 1 => rfl
  | j + 1, k + 2 =>
    have hp : rest[j]?.getD 0 + d ≤ q := by
      rcases h with h | h
      · omega
      · exact h
    show chl d (k + 1) ((rest.take (j + 1)).filter fun x => decide (x + d ≤ q)) = chl d (k + 1) ((rest.take j).filter fun x => decide (x + d ≤ q)) + chl d k ((rest.take j).filter fun x => decide (x + d ≤ rest[j]?.getD 0))
    rw [take_snoc9 (by omega), List.filter_append]
    have e1 : [rest[j]?.getD 0].filter (fun x => decide (x + d ≤ q)) = [rest[j]?.getD 0] := by simp [hp]
    rw [e1, chl_snoc, filter_le9 (by omega)]
/-- q cannot -/
theorem knP_skip {d : Nat} {rest : List Nat} {j q : Nat} (hj : j ≤ rest.length) (h0 : 1 ≤ j) (h : ¬ rest[j - 1]?.getD 0 + d ≤ q) (k : Nat) : knP d rest (j + 1) q k = knP d rest j q k := by
  match j, k with
  | j + 1, 0 => rfl
  | j + 1, 1 => rfl
  | j + 1, k + 2 =>
    have hp : ¬ rest[j]?.getD 0 + d ≤ q := h
    show chl d k ((rest.take (j + 1)).filter fun x => decide (x + d ≤ q)) = chl d k ((rest.take j).filter fun x => decide (x + d ≤ q))
    rw [take_snoc9 (by omega), List.filter_append]
    have e1 : [rest[j]?.getD 0].filter (fun x => decide (x + d ≤ q)) = [] := by simp [hp]
    rw [e1, List.append_nil]
/-- sums over the first indexes -/
def upS (f : Nat → Nat) : Nat → Nat
  | 0 => 0
  | j + 1 => upS f j + f j
/-- choices of k seats with this first seat, whose last one is among the first j -/
def endU (d : Nat) (rest : List Nat) (k j : Nat) : Nat := upS (fun i => knE d rest i k) j
theorem endU_succ (d : Nat) (rest : List Nat) (k j : Nat) : endU d rest k (j + 1) = endU d rest k j + knE d rest j k := rfl
theorem endU_is {d : Nat} {rest : List Nat} (k : Nat) : ∀ {j : Nat}, j ≤ rest.length → endU d rest (k + 1) (j + 1) = chl d k (rest.take j) := by
  intro j
  induction j with
  | zero =>
    intro _
    show 0 + knF (k + 1) = chl d k []
    match k with
    | 0 => rfl
    | k + 1 => rfl
  | succ j ih =>
    intro hj
    rw [endU_succ, ih (by omega), take_snoc9 (by omega)]
    match k with
    | 0 => rfl
    | k + 1 => rw [chl_snoc]; rfl
theorem endU_none (d : Nat) (rest : List Nat) : ∀ j, endU d rest 0 j = 0 := by
  intro j
  induction j with
  | zero => rfl
  | succ j ih =>
    rw [endU_succ, ih]
    match j with
    | 0 => rfl
    | j + 1 => rfl
/-- choices of k seats whose first one is among the first i -/
def firU (n : Nat) (ring : Bool) (d : Nat) (l : List Nat) (k i : Nat) : Nat := upS (fun j => endU d (restM n ring d (l[j]?.getD 0) (l.drop (j + 1))) k ((restM n ring d (l[j]?.getD 0) (l.drop (j + 1))).length + 1)) i
theorem firU_succ (n : Nat) (ring : Bool) (d : Nat) (l : List Nat) (k i : Nat) : firU n ring d l k (i + 1) = firU n ring d l k i + endU d (restM n ring d (l[i]?.getD 0) (l.drop (i + 1))) k ((restM n ring d (l[i]?.getD 0) (l.drop (i + 1))).length + 1) := rfl
theorem firU_drop {n : Nat} {ring : Bool} {d : Nat} {l : List Nat} (k : Nat) : ∀ {i : Nat}, i ≤ l.length → firU n ring d l (k + 1) i + chg n ring d k (l.drop i) = chg n ring d k l := by
  intro i
  induction i with
  | zero => intro _; show 0 + _ = _; rw [List.drop_zero]; omega
  | succ i ih =>
    intro hi
    rw [← ih (by omega), firU_succ, endU_is k (Nat.le_refl _), List.take_length]
    have e : l.drop i = l[i]?.getD 0 :: l.drop (i + 1) := by
      rw [List.drop_eq_getElem_cons (by omega), List.getElem?_eq_getElem (by omega)]; rfl
    rw [e]
    show _ = _ + (chl d k (restM n ring d (l[i]?.getD 0) (l.drop (i + 1))) + chg n ring d k (l.drop (i + 1)))
    omega
theorem firU_all {n : Nat} {ring : Bool} {d : Nat} {l : List Nat} (k : Nat) : (if k = 0 then 1 else 0) + firU n ring d l k l.length = spkM n ring d l k := by
  match k with
  | 0 =>
    have : ∀ i, firU n ring d l 0 i = 0 := by
      intro i
      induction i with
      | zero => rfl
      | succ i ih => rw [firU_succ, ih, endU_none]
    rw [this]; rfl
  | k + 1 =>
    have := firU_drop (n := n) (ring := ring) (d := d) (l := l) k (Nat.le_refl _)
    rw [List.drop_length] at this
    rw [if_neg (by omega)]
    show 0 + _ = chg n ring d k l
    rw [← this]
    show _ = _ + 0
    omega
theorem knE_le {d : Nat} {rest : List Nat} {j k : Nat} (hl : rest.length ≤ 24) : knE d rest j k ≤ 16777216 := by
  unfold knE
  by_cases h : j = 0
  · rw [if_pos h]; unfold knF; split <;> omega
  · rw [if_neg h]
    match k with
    | 0 => exact Nat.zero_le _
    | 1 => exact Nat.zero_le _
    | k + 2 =>
      show (if j = 0 then 0 else _) ≤ _
      rw [if_neg h]
      refine Nat.le_trans (chl_le d k _) (Nat.le_trans (Nat.pow_le_pow_right (by omega) (Nat.le_trans (List.length_filter_le _ _) (Nat.le_trans (List.length_take_le' _ _) hl))) (by decide))
theorem knP_le {d : Nat} {rest : List Nat} {i q k : Nat} (hl : rest.length ≤ 24) : knP d rest i q k ≤ 16777216 := by
  match k with
  | 0 => exact Nat.zero_le _
  | 1 => exact Nat.zero_le _
  | k + 2 =>
    show (if i = 0 then 0 else _) ≤ _
    by_cases h : i = 0
    · rw [if_pos h]; omega
    · rw [if_neg h]
      refine Nat.le_trans (chl_le d k _) (Nat.le_trans (Nat.pow_le_pow_right (by omega) (Nat.le_trans (List.length_filter_le _ _) (Nat.le_trans (List.length_take_le' _ _) hl))) (by decide))
theorem endU_le {d : Nat} {rest : List Nat} {k : Nat} (hl : rest.length ≤ 24) : ∀ j, endU d rest k j ≤ 16777216 * j := by
  intro j
  induction j with
  | zero => exact Nat.le_refl _
  | succ j ih =>
    rw [endU_succ]
    have := knE_le (d := d) (rest := rest) (j := j) (k := k) hl
    omega
end Go.Proofs.Ytoedcklgpmhnnaa
