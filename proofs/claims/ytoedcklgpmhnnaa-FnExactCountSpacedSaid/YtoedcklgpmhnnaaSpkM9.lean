/- Counts of spaced choices by their numbers of seats: mathematics. Plain lemmas: no function of the program. -/
import Derived.Test.YtoedcklgpmhnnaaLinM9
namespace Go.Proofs.Ytoedcklgpmhnnaa

theorem rngL_all (O : Nat → Bool) (n : Nat) : rngL O 0 n = tk n O := by
  unfold rngL
  exact tk_congr fun q _ => by simp
theorem mem_rngL {O : Nat → Bool} {a b q : Nat} : q ∈ rngL O a b ↔ a ≤ q ∧ q < b ∧ O q = true := by
  unfold rngL
  rw [mem_tk, Bool.and_eq_true, decide_eq_true_eq]
  constructor
  · rintro ⟨h1, h2, h3⟩; exact ⟨h2, h1, h3⟩
  · rintro ⟨h1, h2, h3⟩; exact ⟨h2, h1, h3⟩
/-- on a line -/
theorem rest_line {n d x : Nat} {xs : List Nat} (h : ∀ y ∈ xs, x < y ∧ y < n) : restM n false d x xs = xs.filter fun q => decide (x + d ≤ q) := by
  unfold restM
  apply List.filter_congr
  intro y hy
  obtain ⟨h1, h2⟩ := h y hy
  have := gap_far (ring := false) (d := d) h1 h2
  rw [decide_eq_decide, this]
  simp
theorem chg_line {n d : Nat} (k : Nat) : ∀ (l : List Nat), l.Pairwise (· < ·) → (∀ y ∈ l, y < n) → chg n false d k l = chl d (k + 1) l := by
  intro l
  induction l with
  | nil => intro _ _; rfl
  | cons x xs ih =>
    intro hs hn
    rw [List.pairwise_cons] at hs
    rw [chl_cons]
    show chl d k (restM n false d x xs) + chg n false d k xs = _
    rw [ih hs.2 (fun y hy => hn y (by simp [hy])), rest_line (fun y hy => ⟨hs.1 y hy, hn y (by simp [hy])⟩)]
theorem spk_line {n d : Nat} {l : List Nat} (hs : l.Pairwise (· < ·)) (hn : ∀ y ∈ l, y < n) (k : Nat) : spkM n false d l k = chl d k l := by
  cases k with
  | zero => rfl
  | succ k => exact chg_line k l hs hn
/-- on a ring: those that may follow a first seat -/
def ringR (n : Nat) (O : Nat → Bool) (d x : Nat) : List Nat := rngL O (x + d) (min (n - 1) (x + n - d) + 1)
theorem chg_ring {n d : Nat} {O : Nat → Bool} (hd : 1 ≤ d) (hdn : d ≤ n) (k : Nat) : ∀ (l : List Nat), l.Pairwise (· < ·) → (∀ y ∈ l, y < n ∧ O y = true) → (∀ y, O y = true → y < n → (∃ x ∈ l, x ≤ y) → y ∈ l) →
    chg n true d k l = (l.map fun x => chl d k (ringR n O d x)).sum := by
  intro l
  induction l with
  | nil => intro _ _ _; rfl
  | cons x xs ih =>
    intro hs hn hu
    rw [List.pairwise_cons] at hs
    rw [List.map_cons, List.sum_cons]
    show chl d k (restM n true d x xs) + chg n true d k xs = _
    rw [ih hs.2 (fun y hy => hn y (by simp [hy])) ?_]
    · congr 2
      apply sorted_ext (hs.2.filter _) (rngL_sorted O _ _)
      intro y
      rw [mem_rngL, List.mem_filter, decide_eq_true_eq]
      have hx := hn x (by simp)
      constructor
      · rintro ⟨h1, h2⟩
        have h3 := hn y (by simp [h1])
        rw [gap_far (hs.1 y h1) h3.1] at h2
        have := h2.2 rfl
        exact ⟨h2.1, by omega, h3.2⟩
      · rintro ⟨h1, h2, h3⟩
        have hy : y ∈ x :: xs := hu y h3 (by omega) ⟨x, by simp, by omega⟩
        have hy2 : y ∈ xs := by
          rcases List.mem_cons.1 hy with e | e
          · omega
          · exact e
        refine ⟨hy2, ?_⟩
        rw [gap_far (hs.1 y hy2) (by omega)]
        exact ⟨h1, fun _ => by omega⟩
    · intro y h1 h2 ⟨z, hz, hzy⟩
      have := hu y h1 h2 ⟨z, by simp [hz], hzy⟩
      rcases List.mem_cons.1 this with e | e
      · have := hs.1 z hz; omega
      · exact e
/-- the counts of a ring, of choices whose first seat lies before p -/
def cnR (n : Nat) (O : Nat → Bool) (d p : Nat) : Nat → Nat
  | 0 => 1
  | k + 1 => ((tk p O).map fun x => chl d k (ringR n O d x)).sum
theorem cnR_no {n : Nat} {O : Nat → Bool} {d p : Nat} (h : O p = false) : cnR n O d (p + 1) = cnR n O d p := by
  funext k
  cases k with
  | zero => rfl
  | succ k =>
    show ((tk (p + 1) O).map _).sum = ((tk p O).map _).sum
    rw [tk_succ, h]
    simp
theorem cnR_yes {n : Nat} {O : Nat → Bool} {d p : Nat} (h : O p = true) (k : Nat) : cnR n O d (p + 1) (k + 1) = cnR n O d p (k + 1) + chl d k (ringR n O d p) := by
  show ((tk (p + 1) O).map _).sum = ((tk p O).map _).sum + _
  rw [tk_succ, h]
  simp
theorem cnR_le {n : Nat} {O : Nat → Bool} {d : Nat} (hn1 : 1 ≤ n) (hn : n ≤ 24) (k : Nat) : ∀ p, p ≤ 24 → cnR n O d p k ≤ 16777216 * p + 1 := by
  intro p
  induction p with
  | zero =>
    intro _
    cases k with
    | zero => exact Nat.le_refl _
    | succ k => show ((tk 0 O).map _).sum ≤ _; simp [tk]
  | succ p ih =>
    intro hp
    have h1 := ih (by omega)
    cases k with
    | zero => show 1 ≤ _; omega
    | succ k =>
      cases e : O p with
      | false => rw [cnR_no e]; omega
      | true =>
        rw [cnR_yes e]
        have : chl d k (ringR n O d p) ≤ 16777216 := chl_bound (by omega)
        omega
/-- a row after the addition of another -/
theorem cnR_next {n : Nat} {O : Nat → Bool} {d p : Nat} (h : O p = true) : mixR (cnR n O d p) (fun k => chl d k (ringR n O d p)) 25 = (List.range 25).map (cnR n O d (p + 1)) := by
  rw [mixR_all]
  apply List.map_congr_left
  intro i _
  cases i with
  | zero => rfl
  | succ k =>
    rw [if_pos (by omega), cnR_yes h]
    rfl
theorem cnR_all {n : Nat} {S : Nat → Bool} {d : Nat} (hd : 1 ≤ d) (hdn : d ≤ n) (k : Nat) : cnR n (opM n true S d) d n k = spkM n true d (opn n true S d) k := by
  cases k with
  | zero => rfl
  | succ k =>
    show ((tk n _).map _).sum = chg n true d k (opn n true S d)
    rw [chg_ring hd hdn k (opn n true S d) (opn_sorted _ _ _ _) (O := opM n true S d)]
    · rfl
    · intro y hy; exact mem_tk.1 hy
    · intro y h1 h2 _; exact mem_tk.2 ⟨h2, h1⟩
/-- the counts -/
def spkR (n : Nat) (ring : Bool) (S : Nat → Bool) (d : Nat) : List Nat := (List.range 25).map (spkM n ring d (opn n ring S d))
theorem spkR_len (n : Nat) (ring : Bool) (S : Nat → Bool) (d : Nat) : (spkR n ring S d).length = 25 := by unfold spkR; simp
theorem spkR_get {n : Nat} {ring : Bool} {S : Nat → Bool} {d k : Nat} (h : k < 25) : (spkR n ring S d)[k]?.getD 0 = spkM n ring d (opn n ring S d) k := by unfold spkR; simp [h]
theorem spkR_ring {n : Nat} {S : Nat → Bool} {d : Nat} (hd : 1 ≤ d) (hdn : d ≤ n) : (List.range 25).map (cnR n (opM n true S d) d n) = spkR n true S d := by
  unfold spkR
  apply List.map_congr_left
  intro k _
  exact cnR_all hd hdn k
theorem spkR_line {n : Nat} {S : Nat → Bool} {d : Nat} : crow d (rngL (opM n false S d) 0 n) = spkR n false S d := by
  unfold spkR crow
  apply List.map_congr_left
  intro k _
  rw [rngL_all]
  exact (spk_line (opn_sorted _ _ _ _) opn_lt k).symm
/-- no gap is n or more -/
theorem gap_ltn {n : Nat} {ring : Bool} {p q : Nat} (hp : p < n) (hq : q < n) : gapM n ring p q < n := by
  unfold gapM
  cases ring
  · simp; omega
  · simp; omega
theorem rest_big {n : Nat} {ring : Bool} {d x : Nat} {xs : List Nat} (hd : n ≤ d) (hx : x < n) (h : ∀ y ∈ xs, y < n) : restM n ring d x xs = [] := by
  unfold restM
  rw [List.filter_eq_nil_iff]
  intro y hy
  have := gap_ltn (ring := ring) hx (h y hy)
  simp; omega
theorem op_big {n : Nat} {ring : Bool} {S : Nat → Bool} {d : Nat} (hd : n ≤ d) : opn n ring S d = opn n ring S n := by
  unfold opn
  apply tk_congr
  intro q hq
  unfold opM
  congr 1
  rw [Bool.eq_iff_iff, List.all_eq_true, List.all_eq_true]
  constructor
  · intro h t ht
    have := h t ht
    rw [decide_eq_true_eq] at this ⊢
    omega
  · intro h t ht
    have := h t ht
    have h2 := gap_ltn (ring := ring) hq (mem_tk.1 ht).1
    rw [decide_eq_true_eq] at this
    omega
theorem chg_big {n : Nat} {ring : Bool} {d : Nat} (hd : n ≤ d) (k : Nat) : ∀ (l : List Nat), (∀ y ∈ l, y < n) → chg n ring d k l = chg n ring n k l := by
  intro l
  induction l with
  | nil => intro _; rfl
  | cons x xs ih =>
    intro h
    show chl d k (restM n ring d x xs) + chg n ring d k xs = chl n k (restM n ring n x xs) + chg n ring n k xs
    rw [ih (fun y hy => h y (by simp [hy])), rest_big hd (h x (by simp)) (fun y hy => h y (by simp [hy])), rest_big (Nat.le_refl n) (h x (by simp)) (fun y hy => h y (by simp [hy]))]
    cases k <;> rfl
theorem spk_big {n : Nat} {ring : Bool} {S : Nat → Bool} {d : Nat} (k : Nat) : spkM n ring (min d n) (opn n ring S (min d n)) k = spkM n ring d (opn n ring S d) k := by
  by_cases h : d ≤ n
  · rw [Nat.min_eq_left h]
  · rw [Nat.min_eq_right (by omega), op_big (d := d) (by omega)]
    cases k with
    | zero => rfl
    | succ k => exact (chg_big (by omega) k _ opn_lt).symm
theorem spkR_min {n : Nat} {ring : Bool} {S : Nat → Bool} {d : Nat} : spkR n ring S (min d n) = spkR n ring S d := by
  unfold spkR
  apply List.map_congr_left
  intro k _
  exact spk_big k
end Go.Proofs.Ytoedcklgpmhnnaa
