/- Spaced choices: mathematics: choices on a line counted by their last seats, and by their first ones; choices that are made as early as can be. Plain lemmas: no function of the program. -/
import Derived.Test.YtoedcklgpmhnnaaRowMath
namespace Go.Proofs.Ytoedcklgpmhnnaa

/-- one seat more ahead of choices that F counts -/
def chlStep (d : Nat) (F : List Nat → Nat) : List Nat → Nat
  | [] => 0
  | x :: xs => F (xs.filter fun q => decide (x + d ≤ q)) + chlStep d F xs
/-- choices of k numbers of an ascending list, each one at least d behind the one before -/
def chl (d : Nat) : Nat → List Nat → Nat
  | 0 => fun _ => 1
  | k + 1 => chlStep d (chl d k)
theorem chl_zero (d : Nat) (l : List Nat) : chl d 0 l = 1 := rfl
theorem chl_nil (d k : Nat) : chl d (k + 1) [] = 0 := rfl
theorem chl_cons (d k x : Nat) (xs : List Nat) : chl d (k + 1) (x :: xs) = chl d k (xs.filter fun q => decide (x + d ≤ q)) + chl d (k + 1) xs := rfl
theorem chl_le (d : Nat) : ∀ (k : Nat) (l : List Nat), chl d k l ≤ 2 ^ l.length := by
  intro k
  induction k with
  | zero => intro l; rw [chl_zero]; exact Nat.one_le_two_pow
  | succ k ih =>
    intro l
    induction l with
    | nil => rw [chl_nil]; exact Nat.zero_le _
    | cons x xs ih2 =>
      rw [chl_cons, List.length_cons, Nat.pow_succ]
      have h1 := ih (xs.filter fun q => decide (x + d ≤ q))
      have h2 : 2 ^ (xs.filter fun q => decide (x + d ≤ q)).length ≤ 2 ^ xs.length := Nat.pow_le_pow_right (by omega) (List.length_filter_le _ _)
      omega
theorem filter_comm' (p q : Nat → Bool) (l : List Nat) : (l.filter p).filter q = (l.filter q).filter p := by
  rw [List.filter_filter, List.filter_filter]
  apply List.filter_congr
  intro x _
  exact Bool.and_comm _ _
/-- counted by the last seat -/
theorem chl_snoc (d x : Nat) : ∀ (k : Nat) (l : List Nat), chl d (k + 1) (l ++ [x]) = chl d (k + 1) l + chl d k (l.filter fun q => decide (q + d ≤ x)) := by
  intro k
  induction k with
  | zero =>
    intro l
    induction l with
    | nil => rfl
    | cons y l ih2 =>
      show chl d (0 + 1) (y :: (l ++ [x])) = _
      rw [chl_cons, chl_cons, ih2, chl_zero, chl_zero, chl_zero, chl_zero]
      omega
  | succ k ih =>
    intro l
    induction l with
    | nil => rfl
    | cons y l ih2 =>
      show chl d (k + 1 + 1) (y :: (l ++ [x])) = _
      rw [chl_cons, chl_cons, ih2, List.filter_append]
      by_cases h : y + d ≤ x
      · have e1 : [x].filter (fun q => decide (y + d ≤ q)) = [x] := by simp [h]
        have e2 : (y :: l).filter (fun q => decide (q + d ≤ x)) = y :: l.filter (fun q => decide (q + d ≤ x)) := by simp [h]
        rw [e1, e2, ih, chl_cons, filter_comm']
        omega
      · have e1 : [x].filter (fun q => decide (y + d ≤ q)) = [] := by simp [h]
        have e2 : (y :: l).filter (fun q => decide (q + d ≤ x)) = l.filter (fun q => decide (q + d ≤ x)) := by simp [h]
        rw [e1, e2, List.append_nil]
        omega

/-- the choice that is made as early as can be -/
def grl (d : Nat) : List Nat → List Nat
  | [] => []
  | x :: xs => x :: grl d (xs.filter fun q => decide (x + d ≤ q))
termination_by l => l.length
decreasing_by
  simp only [List.length_cons]
  rw [List.length_unattach]
  exact Nat.lt_succ_of_le (Nat.le_trans (List.length_filter_le _ _) (by simp))
theorem grl_nil (d : Nat) : grl d [] = [] := by rw [grl]
theorem grl_cons (d x : Nat) (xs : List Nat) : grl d (x :: xs) = x :: grl d (xs.filter fun q => decide (x + d ≤ q)) := by rw [grl]
theorem filter_ge_all {c : Nat} {l : List Nat} (h : ∀ x ∈ l, c ≤ x) : l.filter (fun q => decide (c ≤ q)) = l := by
  rw [List.filter_eq_self]
  intro x hx
  exact decide_eq_true (h x hx)
/-- who begins later gets no more -/
theorem grl_later (d : Nat) (hd : 1 ≤ d) (c : Nat) : ∀ (N : Nat) (l : List Nat), l.length ≤ N → l.Pairwise (· < ·) → (grl d (l.filter fun q => decide (c ≤ q))).length ≤ (grl d l).length := by
  intro N
  induction N generalizing c with
  | zero =>
    intro l hl _
    have : l = [] := List.length_eq_zero_iff.1 (by omega)
    subst this
    exact Nat.le_refl _
  | succ N ih =>
    intro l hl hs
    cases l with
    | nil => exact Nat.le_refl _
    | cons x xs =>
      rw [List.pairwise_cons] at hs
      obtain ⟨hx, hs⟩ := hs
      have hN : xs.length ≤ N := by simp only [List.length_cons] at hl; omega
      by_cases hc : c ≤ x
      · rw [filter_ge_all (c := c) (l := x :: xs) (fun y hy => (List.mem_cons.1 hy).elim (fun e => e ▸ hc) (fun e => Nat.le_trans hc (Nat.le_of_lt (hx y e))))]
        exact Nat.le_refl _
      · have e : (x :: xs).filter (fun q => decide (c ≤ q)) = xs.filter (fun q => decide (c ≤ q)) := by simp [hc]
        rw [e, grl_cons]
        cases hm : xs.filter (fun q => decide (c ≤ q)) with
        | nil => rw [grl_nil]; simp
        | cons y ys =>
          rw [grl_cons, List.length_cons, List.length_cons]
          have hy : c ≤ y := by
            have : y ∈ xs.filter (fun q => decide (c ≤ q)) := by rw [hm]; simp
            simpa using (List.mem_filter.1 this).2
          have e2 : ys.filter (fun q => decide (y + d ≤ q)) = (xs.filter fun q => decide (x + d ≤ q)).filter (fun q => decide (y + d ≤ q)) := by
            have e3 : ys.filter (fun q => decide (y + d ≤ q)) = (y :: ys).filter (fun q => decide (y + d ≤ q)) := by
              have : ¬ y + d ≤ y := by omega
              simp [this]
            rw [e3, ← hm, List.filter_filter, List.filter_filter]
            apply List.filter_congr
            intro z _
            by_cases hz : y + d ≤ z
            · have h1 : c ≤ z := by omega
              have h2 : x + d ≤ z := by omega
              simp [hz, h1, h2]
            · simp [hz]
          rw [e2]
          have := ih (y + d) (xs.filter fun q => decide (x + d ≤ q)) (Nat.le_trans (List.length_filter_le _ _) hN) (hs.filter _)
          omega
/-- there is a choice of k exactly if the earliest one has k seats -/
theorem chl_pos (d : Nat) (hd : 1 ≤ d) : ∀ (k : Nat) (l : List Nat), l.Pairwise (· < ·) → (0 < chl d k l ↔ k ≤ (grl d l).length) := by
  intro k
  induction k with
  | zero => intro l _; rw [chl_zero]; simp
  | succ k ih =>
    intro l
    induction l with
    | nil => intro _; rw [chl_nil, grl_nil]; simp
    | cons x xs ih2 =>
      intro hs
      rw [List.pairwise_cons] at hs
      obtain ⟨hx, hs⟩ := hs
      have h1 := ih (xs.filter fun q => decide (x + d ≤ q)) (hs.filter _)
      have h2 := ih2 hs
      rw [chl_cons, grl_cons, List.length_cons]
      have h3 : (grl d xs).length ≤ (grl d (xs.filter fun q => decide (x + d ≤ q))).length + 1 := by
        cases xs with
        | nil => rw [grl_nil]; simp
        | cons y ys =>
          rw [grl_cons, List.length_cons]
          have hxy : x < y := hx y (by simp)
          have e2 : ys.filter (fun q => decide (y + d ≤ q)) = ((y :: ys).filter fun q => decide (x + d ≤ q)).filter (fun q => decide (y + d ≤ q)) := by
            have e3 : ys.filter (fun q => decide (y + d ≤ q)) = (y :: ys).filter (fun q => decide (y + d ≤ q)) := by
              have : ¬ y + d ≤ y := by omega
              simp [this]
            rw [e3, List.filter_filter]
            apply List.filter_congr
            intro z _
            by_cases hz : y + d ≤ z
            · have h2 : x + d ≤ z := by omega
              simp [hz, h2]
            · simp [hz]
          rw [e2]
          have := grl_later d hd (y + d) _ ((y :: ys).filter fun q => decide (x + d ≤ q)) (Nat.le_refl _) (hs.filter _)
          omega
      omega

/-- those of a list that are far enough from a seat -/
def restM (n : Nat) (ring : Bool) (d x : Nat) (xs : List Nat) : List Nat := xs.filter fun q => decide (d ≤ gapM n ring x q)
/-- the earliest choice, with gaps -/
def grg (n : Nat) (ring : Bool) (d : Nat) : List Nat → List Nat
  | [] => []
  | x :: xs => x :: grg n ring d (restM n ring d x xs)
termination_by l => l.length
decreasing_by
  simp only [List.length_cons]
  exact Nat.lt_succ_of_le (List.length_filter_le _ _)
theorem grg_nil (n : Nat) (ring : Bool) (d : Nat) : grg n ring d [] = [] := by rw [grg]
theorem grg_cons (n : Nat) (ring : Bool) (d x : Nat) (xs : List Nat) : grg n ring d (x :: xs) = x :: grg n ring d (restM n ring d x xs) := by rw [grg]
/-- among these, gaps are steps -/
def Steps (n : Nat) (ring : Bool) (d : Nat) (l : List Nat) : Prop := ∀ p ∈ l, ∀ q ∈ l, p < q → (d ≤ gapM n ring p q ↔ p + d ≤ q)
theorem Steps.filter {n : Nat} {ring : Bool} {d : Nat} {l : List Nat} (h : Steps n ring d l) (f : Nat → Bool) : Steps n ring d (l.filter f) :=
  fun p hp q hq => h p (List.mem_filter.1 hp).1 q (List.mem_filter.1 hq).1
theorem gap_far {n : Nat} {ring : Bool} {x q d : Nat} (h : x < q) (hq : q < n) : d ≤ gapM n ring x q ↔ x + d ≤ q ∧ (ring = true → q + d ≤ x + n) := by
  unfold gapM
  cases ring
  · simp; omega
  · simp; omega
theorem rest_steps {n : Nat} {ring : Bool} {d x : Nat} {xs : List Nat} (hx : ∀ y ∈ xs, x < y ∧ y < n) : Steps n ring d (restM n ring d x xs) := by
  intro p hp q hq hpq
  unfold restM at hp hq
  obtain ⟨hp1, hp2⟩ := List.mem_filter.1 hp
  obtain ⟨hq1, hq2⟩ := List.mem_filter.1 hq
  have hxp := hx p hp1
  have hxq := hx q hq1
  simp only [decide_eq_true_eq] at hp2 hq2
  rw [gap_far hxp.1 hxp.2] at hp2
  rw [gap_far hxq.1 hxq.2] at hq2
  rw [gap_far hpq hxq.2]
  cases ring
  · simp
  · simp at hp2 hq2 ⊢; omega
theorem grg_line {n : Nat} {ring : Bool} {d : Nat} : ∀ (N : Nat) (l : List Nat), l.length ≤ N → l.Pairwise (· < ·) → Steps n ring d l → grg n ring d l = grl d l := by
  intro N
  induction N with
  | zero =>
    intro l hl _ _
    have : l = [] := List.length_eq_zero_iff.1 (by omega)
    subst this
    rw [grg_nil, grl_nil]
  | succ N ih =>
    intro l hl hs h
    cases l with
    | nil => rw [grg_nil, grl_nil]
    | cons x xs =>
      rw [grg_cons, grl_cons]
      rw [List.pairwise_cons] at hs
      have e : restM n ring d x xs = xs.filter fun q => decide (x + d ≤ q) := by
        unfold restM
        apply List.filter_congr
        intro y hy
        have := h x (by simp) y (by simp [hy]) (hs.1 y hy)
        exact decide_eq_decide.2 this
      rw [e]
      congr 1
      refine ih _ (Nat.le_trans (List.length_filter_le _ _) (by simp only [List.length_cons] at hl; omega)) (hs.2.filter _) ?_
      exact fun p hp q hq => h p (by simp [(List.mem_filter.1 hp).1]) q (by simp [(List.mem_filter.1 hq).1])
theorem grg_rest {n : Nat} {ring : Bool} {d x : Nat} {xs : List Nat} (hs : (x :: xs).Pairwise (· < ·)) (hn : ∀ y ∈ x :: xs, y < n) : grg n ring d (x :: xs) = x :: grl d (restM n ring d x xs) := by
  rw [List.pairwise_cons] at hs
  have e := grg_line (n := n) (ring := ring) (d := d) _ (restM n ring d x xs) (Nat.le_refl _) (hs.2.filter _) (rest_steps fun y hy => ⟨hs.1 y hy, hn y (by simp [hy])⟩)
  rw [grg_cons, e]

/-- choices of k + 1 seats, by their first one -/
def chg (n : Nat) (ring : Bool) (d k : Nat) : List Nat → Nat
  | [] => 0
  | x :: xs => chl d k (restM n ring d x xs) + chg n ring d k xs
/-- choices of k seats -/
def spkM (n : Nat) (ring : Bool) (d : Nat) (l : List Nat) : Nat → Nat
  | 0 => 1
  | k + 1 => chg n ring d k l
/-- the most seats of a choice -/
def mxSp (n : Nat) (ring : Bool) (d : Nat) : List Nat → Nat
  | [] => 0
  | x :: xs => max (grg n ring d (x :: xs)).length (mxSp n ring d xs)
/-- the first choice of k seats -/
def fstM (n : Nat) (ring : Bool) (d k : Nat) : List Nat → List Nat
  | [] => []
  | x :: xs => if k ≤ (grg n ring d (x :: xs)).length then (grg n ring d (x :: xs)).take k else fstM n ring d k xs
theorem chg_pos {n : Nat} {ring : Bool} {d : Nat} (hd : 1 ≤ d) (k : Nat) : ∀ (l : List Nat), l.Pairwise (· < ·) → (∀ y ∈ l, y < n) → (0 < chg n ring d k l ↔ k + 1 ≤ mxSp n ring d l) := by
  intro l
  induction l with
  | nil => intro _ _; simp [chg, mxSp]
  | cons x xs ih =>
    intro hs hn
    have h1 := grg_rest (ring := ring) (d := d) hs hn
    rw [List.pairwise_cons] at hs
    have h2 := chl_pos d hd k (restM n ring d x xs) (hs.2.filter _)
    have h3 := ih hs.2 (fun y hy => hn y (by simp [hy]))
    have h4 : (grg n ring d (x :: xs)).length = (grl d (restM n ring d x xs)).length + 1 := by rw [h1]; rfl
    unfold chg mxSp
    omega
theorem spk_pos {n : Nat} {ring : Bool} {d : Nat} (hd : 1 ≤ d) (k : Nat) {l : List Nat} (hs : l.Pairwise (· < ·)) (hn : ∀ y ∈ l, y < n) : 0 < spkM n ring d l k ↔ k ≤ mxSp n ring d l := by
  cases k with
  | zero => simp [spkM]
  | succ k => exact chg_pos hd k l hs hn
theorem filter_sub {f g : Nat → Bool} : ∀ (l : List Nat), (∀ x, f x = true → g x = true) → (l.filter f).Sublist (l.filter g) := by
  intro l h
  induction l with
  | nil => exact List.Sublist.slnil
  | cons x xs ih =>
    by_cases hf : f x = true
    · rw [List.filter_cons_of_pos hf, List.filter_cons_of_pos (h x hf)]
      exact ih.cons_cons x
    · rw [List.filter_cons_of_neg hf]
      by_cases hg : g x = true
      · rw [List.filter_cons_of_pos hg]
        exact ih.cons x
      · rw [List.filter_cons_of_neg hg]
        exact ih
theorem chl_mono {d d' : Nat} (hd : d ≤ d') : ∀ (k : Nat) {l' l : List Nat}, l'.Sublist l → chl d' k l' ≤ chl d k l := by
  intro k
  induction k with
  | zero => intro l' l _; exact Nat.le_refl _
  | succ k ih =>
    intro l' l h
    induction h with
    | slnil => exact Nat.le_refl _
    | cons a _ ih2 => rw [chl_cons]; omega
    | cons_cons a h ih2 =>
      rw [chl_cons, chl_cons]
      have := ih (l' := _) (l := _) (show (List.filter (fun q => decide (a + d' ≤ q)) _).Sublist (List.filter (fun q => decide (a + d ≤ q)) _) from by
        refine List.Sublist.trans ?_ (h.filter _)
        apply filter_sub
        intro x hx
        simp only [decide_eq_true_eq] at hx ⊢
        omega)
      omega
theorem rest_sub {n : Nat} {ring : Bool} {d d' x : Nat} (hd : d ≤ d') {xs' xs : List Nat} (h : xs'.Sublist xs) : (restM n ring d' x xs').Sublist (restM n ring d x xs) := by
  unfold restM
  refine List.Sublist.trans ?_ (h.filter _)
  apply filter_sub
  intro y hy
  simp only [decide_eq_true_eq] at hy ⊢
  omega
theorem chg_mono {n : Nat} {ring : Bool} {d d' : Nat} (hd : d ≤ d') (k : Nat) {l' l : List Nat} (h : l'.Sublist l) : chg n ring d' k l' ≤ chg n ring d k l := by
  induction h with
  | slnil => exact Nat.le_refl _
  | cons a _ ih2 => exact Nat.le_trans ih2 (Nat.le_add_left _ _)
  | cons_cons a h ih2 =>
    show chl d' k (restM n ring d' a _) + chg n ring d' k _ ≤ chl d k (restM n ring d a _) + chg n ring d k _
    have := chl_mono hd k (rest_sub (n := n) (ring := ring) (x := a) hd h)
    omega
/-- a seat that can be chosen alone -/
def opM (n : Nat) (ring : Bool) (S : Nat → Bool) (d q : Nat) : Bool := !S q && (tk n S).all fun t => decide (d ≤ gapM n ring q t)
/-- all of them -/
def opn (n : Nat) (ring : Bool) (S : Nat → Bool) (d : Nat) : List Nat := tk n (opM n ring S d)
theorem opn_sorted (n : Nat) (ring : Bool) (S : Nat → Bool) (d : Nat) : (opn n ring S d).Pairwise (· < ·) := tk_sorted _ _
theorem opn_lt {n : Nat} {ring : Bool} {S : Nat → Bool} {d : Nat} : ∀ y ∈ opn n ring S d, y < n := fun _ h => (mem_tk.1 h).1
theorem opn_sub {n : Nat} {ring : Bool} {S : Nat → Bool} {d d' : Nat} (hd : d ≤ d') : (opn n ring S d').Sublist (opn n ring S d) := by
  unfold opn tk
  apply filter_sub
  intro q hq
  unfold opM at hq ⊢
  simp only [Bool.and_eq_true, List.all_eq_true, decide_eq_true_eq] at hq ⊢
  exact ⟨hq.1, fun t ht => by have := hq.2 t ht; omega⟩
theorem mxSp_mono {n : Nat} {ring : Bool} {S : Nat → Bool} {d d' : Nat} (h1 : 1 ≤ d) (hd : d ≤ d') : mxSp n ring d' (opn n ring S d') ≤ mxSp n ring d (opn n ring S d) := by
  cases hm : mxSp n ring d' (opn n ring S d') with
  | zero => exact Nat.zero_le _
  | succ k =>
    have h2 := (chg_pos (n := n) (ring := ring) (d := d') (by omega) k _ (opn_sorted n ring S d') opn_lt).2 (by rw [hm]; exact Nat.le_refl _)
    have h3 := chg_mono (n := n) (ring := ring) hd k (opn_sub (n := n) (ring := ring) (S := S) hd)
    exact (chg_pos h1 k _ (opn_sorted n ring S d) opn_lt).1 (by omega)
/-- the greatest number of 1 .. m with a property, or 0 -/
def topM (P : Nat → Bool) : Nat → Nat
  | 0 => 0
  | m + 1 => if P (m + 1) then m + 1 else topM P m
theorem top_is {P : Nat → Bool} : ∀ {m D : Nat}, D ≤ m → (1 ≤ D → P D = true) → (∀ j, D < j → j ≤ m → P j = false) → topM P m = D := by
  intro m
  induction m with
  | zero => intro D h _ _; unfold topM; omega
  | succ m ih =>
    intro D h h1 h2
    unfold topM
    by_cases hD : D = m + 1
    · subst hD; rw [h1 (by omega)]; rfl
    · rw [h2 (m + 1) (by omega) (Nat.le_refl _)]
      exact ih (by omega) h1 (fun j hj hj2 => h2 j hj (by omega))
theorem mxSp_le (n : Nat) (ring : Bool) (d : Nat) : ∀ (l : List Nat), mxSp n ring d l ≤ l.length := by
  have key : ∀ (N : Nat) (l : List Nat), l.length ≤ N → (grg n ring d l).length ≤ l.length := by
    intro N
    induction N with
    | zero =>
      intro l hl
      have : l = [] := List.length_eq_zero_iff.1 (by omega)
      subst this
      rw [grg_nil]; exact Nat.le_refl _
    | succ N ih =>
      intro l hl
      cases l with
      | nil => rw [grg_nil]; exact Nat.le_refl _
      | cons x xs =>
        rw [grg_cons, List.length_cons, List.length_cons]
        have h1 : (restM n ring d x xs).length ≤ xs.length := List.length_filter_le _ _
        simp only [List.length_cons] at hl
        have := ih (restM n ring d x xs) (by omega)
        omega
  intro l
  induction l with
  | nil => exact Nat.le_refl _
  | cons x xs ih =>
    unfold mxSp
    have := key _ (x :: xs) (Nat.le_refl _)
    simp only [List.length_cons] at this ⊢
    omega
end Go.Proofs.Ytoedcklgpmhnnaa
