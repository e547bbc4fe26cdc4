/- The first spaced choice that begins with some seats: mathematics. Plain lemmas: no function of the program. -/
import Derived.Test.YtoedcklgpmhnnaaSpcS9
import Derived.Test.YtoedcklgpmhnnaaFewM9
namespace Go.Proofs.Ytoedcklgpmhnnaa

/-- those that may come next -/
def canM (n : Nat) (ring : Bool) (S : Nat → Bool) (D : Nat) (c : List Nat) : List Nat := tk n fun q => decide (frG9 c ≤ q) && mayM n ring S D c q
theorem mem_can {n : Nat} {ring : Bool} {S : Nat → Bool} {D : Nat} {c : List Nat} {q : Nat} : q ∈ canM n ring S D c ↔ q < n ∧ frG9 c ≤ q ∧ mayM n ring S D c q = true := by
  unfold canM
  rw [mem_tk, Bool.and_eq_true, decide_eq_true_eq]
theorem may_snoc {n : Nat} {ring : Bool} {S : Nat → Bool} {D : Nat} {c : List Nat} {p q : Nat} : mayM n ring S D (c ++ [p]) q = (mayM n ring S D c q && decide (D ≤ gapM n ring q p)) := by
  unfold mayM
  rw [List.all_append]
  simp [Bool.and_assoc]
theorem fr_snoc (c : List Nat) (p : Nat) : frG9 (c ++ [p]) = p + 1 := by
  unfold frG9
  rw [List.getLast?_append]
  simp
theorem can_hit {n : Nat} {ring : Bool} {S : Nat → Bool} {D : Nat} {c : List Nat} {p : Nat} (h1 : frG9 c ≤ p) (h2 : p < n) (h3 : mayM n ring S D c p = true) (h4 : ∀ q, frG9 c ≤ q → q < p → mayM n ring S D c q = false) :
    ∃ xs, canM n ring S D c = p :: xs ∧ canM n ring S D (c ++ [p]) = restM n ring D p xs := by
  have hs : (p :: tk n fun q => decide (p < q) && mayM n ring S D c q).Pairwise (· < ·) := by
    rw [List.pairwise_cons]
    refine ⟨fun y hy => ?_, tk_sorted _ _⟩
    have := (mem_tk.1 hy).2
    rw [Bool.and_eq_true, decide_eq_true_eq] at this
    exact this.1
  refine ⟨tk n fun q => decide (p < q) && mayM n ring S D c q, ?_, ?_⟩
  · apply sorted_ext (tk_sorted _ _) hs
    intro q
    show q ∈ canM n ring S D c ↔ _
    rw [mem_can, List.mem_cons, mem_tk, Bool.and_eq_true, decide_eq_true_eq]
    constructor
    · rintro ⟨a1, a2, a3⟩
      rcases Nat.lt_trichotomy q p with e | e | e
      · rw [h4 q a2 e] at a3; cases a3
      · exact .inl e
      · exact .inr ⟨a1, e, a3⟩
    · rintro (rfl | ⟨a1, a2, a3⟩)
      · exact ⟨h2, h1, h3⟩
      · exact ⟨a1, by omega, a3⟩
  · apply sorted_ext (tk_sorted _ _) ((tk_sorted _ _).filter _)
    intro q
    show q ∈ canM n ring S D (c ++ [p]) ↔ _
    rw [mem_can, fr_snoc, may_snoc, List.mem_filter, mem_tk, Bool.and_eq_true, Bool.and_eq_true, decide_eq_true_eq, decide_eq_true_eq, decide_eq_true_eq, gapM_comm n ring q p]
    constructor
    · rintro ⟨a1, a2, a3, a4⟩; exact ⟨⟨a1, by omega, a3⟩, a4⟩
    · rintro ⟨⟨a1, a2, a3⟩, a4⟩; exact ⟨a1, by omega, a3, a4⟩
theorem can_none {n : Nat} {ring : Bool} {S : Nat → Bool} {D : Nat} {c : List Nat} (h : ∀ q, frG9 c ≤ q → q < n → mayM n ring S D c q = false) : canM n ring S D c = [] := by
  apply List.eq_nil_iff_forall_not_mem.2
  intro q hq
  obtain ⟨a1, a2, a3⟩ := mem_can.1 hq
  rw [h q a2 a1] at a3; cases a3
theorem may_nil {n : Nat} {ring : Bool} {S : Nat → Bool} {D q : Nat} : mayM n ring S D [] q = opM n ring S D q := by unfold mayM; simp
/-- the first choice of j seats more than the begun ones -/
def resL (n : Nat) (ring : Bool) (S : Nat → Bool) (D j : Nat) (c : List Nat) : Option (List Nat) :=
  if c = [] then (if j ≤ mxSp n ring D (opn n ring S D) then some (fstM n ring D j (opn n ring S D)) else none)
  else if j ≤ (grg n ring D (canM n ring S D c)).length then some (c ++ (grg n ring D (canM n ring S D c)).take j) else none
theorem resL_zero (n : Nat) (ring : Bool) (S : Nat → Bool) (D : Nat) (c : List Nat) : resL n ring S D 0 c = some c := by
  unfold resL
  by_cases e : c = []
  · subst e
    rw [if_pos rfl, if_pos (Nat.zero_le _)]
    cases opn n ring S D with
    | nil => rfl
    | cons x xs => unfold fstM; rw [if_pos (Nat.zero_le _)]; rfl
  · rw [if_neg e, if_pos (Nat.zero_le _)]
    simp
theorem resL_next {n : Nat} {ring : Bool} {S : Nat → Bool} {D j : Nat} {c : List Nat} {p : Nat} (hc : c ≠ []) (h1 : frG9 c ≤ p) (h2 : p < n) (h3 : mayM n ring S D c p = true) (h4 : ∀ q, frG9 c ≤ q → q < p → mayM n ring S D c q = false) :
    resL n ring S D (j + 1) c = resL n ring S D j (c ++ [p]) := by
  obtain ⟨xs, e1, e2⟩ := can_hit h1 h2 h3 h4
  unfold resL
  rw [if_neg hc, e1, grg_cons, List.length_cons, if_neg (show ¬ c ++ [p] = [] by simp), e2]
  by_cases h : j ≤ (grg n ring D (restM n ring D p xs)).length
  · rw [if_pos (by omega), if_pos h]
    simp
  · rw [if_neg (by omega), if_neg h]
theorem resL_stop {n : Nat} {ring : Bool} {S : Nat → Bool} {D j : Nat} {c : List Nat} (hc : c ≠ []) (h : ∀ q, frG9 c ≤ q → q < n → mayM n ring S D c q = false) : resL n ring S D (j + 1) c = none := by
  unfold resL
  rw [if_neg hc, can_none h, grg_nil, if_neg (by simp)]
/-- a part of the open seats from one of them on -/
def Suf (n : Nat) (ring : Bool) (S : Nat → Bool) (D : Nat) (l : List Nat) : Prop := l.Pairwise (· < ·) ∧ (∀ y ∈ l, y ∈ opn n ring S D) ∧ ∀ y ∈ opn n ring S D, (∃ x ∈ l, x ≤ y) → y ∈ l
theorem Suf.tail {n : Nat} {ring : Bool} {S : Nat → Bool} {D x : Nat} {xs : List Nat} (h : Suf n ring S D (x :: xs)) : Suf n ring S D xs := by
  obtain ⟨h1, h2, h3⟩ := h
  rw [List.pairwise_cons] at h1
  refine ⟨h1.2, fun y hy => h2 y (by simp [hy]), fun y hy ⟨z, hz, hzy⟩ => ?_⟩
  have := h3 y hy ⟨z, by simp [hz], hzy⟩
  rcases List.mem_cons.1 this with e | e
  · have := h1.1 z hz; omega
  · exact e
theorem can_one {n : Nat} {ring : Bool} {S : Nat → Bool} {D x : Nat} {xs : List Nat} (h : Suf n ring S D (x :: xs)) : canM n ring S D [x] = restM n ring D x xs := by
  obtain ⟨h1, h2, h3⟩ := h
  rw [List.pairwise_cons] at h1
  apply sorted_ext (tk_sorted _ _) (h1.2.filter _)
  intro q
  show q ∈ canM n ring S D [x] ↔ _
  have e : ([x] : List Nat) = [] ++ [x] := rfl
  rw [mem_can, e, fr_snoc, may_snoc, may_nil, List.mem_filter, Bool.and_eq_true, decide_eq_true_eq, decide_eq_true_eq, gapM_comm n ring q x]
  constructor
  · rintro ⟨a1, a2, a3, a4⟩
    have hq : q ∈ x :: xs := h3 q (mem_tk.2 ⟨a1, a3⟩) ⟨x, by simp, by omega⟩
    rcases List.mem_cons.1 hq with e | e
    · omega
    · exact ⟨e, a4⟩
  · rintro ⟨a1, a2⟩
    obtain ⟨b1, b2⟩ := mem_tk.1 (h2 q (by simp [a1]))
    exact ⟨b1, by have := h1.1 q a1; omega, b2, a2⟩
theorem resL_one {n : Nat} {ring : Bool} {S : Nat → Bool} {D j x : Nat} {xs : List Nat} (h : Suf n ring S D (x :: xs)) : resL n ring S D j [x] = if j + 1 ≤ (grg n ring D (x :: xs)).length then some ((grg n ring D (x :: xs)).take (j + 1)) else none := by
  unfold resL
  rw [if_neg (by simp), can_one h, grg_cons, List.length_cons]
  by_cases h : j ≤ (grg n ring D (restM n ring D x xs)).length
  · rw [if_pos h, if_pos (by omega)]
    rfl
  · rw [if_neg h, if_neg (by omega)]
theorem suf_hit {n : Nat} {ring : Bool} {S : Nat → Bool} {D j p : Nat} {y : List Nat} : ∀ {l : List Nat}, Suf n ring S D l → p ∈ l → resL n ring S D j [p] = some y → (∀ q ∈ l, q < p → resL n ring S D j [q] = none) → j + 1 ≤ mxSp n ring D l ∧ fstM n ring D (j + 1) l = y := by
  intro l
  induction l with
  | nil => intro _ h; cases h
  | cons x xs ih =>
    intro hl hp hy hn
    have h1 := hl.1
    rw [List.pairwise_cons] at h1
    by_cases e : p = x
    · subst e
      rw [resL_one hl] at hy
      by_cases h : j + 1 ≤ (grg n ring D (p :: xs)).length
      · rw [if_pos h] at hy
        unfold mxSp fstM
        rw [if_pos h]
        refine ⟨by omega, by simpa using hy⟩
      · rw [if_neg h] at hy; cases hy
    · have hp2 : p ∈ xs := by
        rcases List.mem_cons.1 hp with e2 | e2
        · exact absurd e2 e
        · exact e2
      have hx := hn x (by simp) (h1.1 p hp2)
      rw [resL_one hl] at hx
      have hno : ¬ j + 1 ≤ (grg n ring D (x :: xs)).length := by
        intro h; rw [if_pos h] at hx; cases hx
      obtain ⟨a1, a2⟩ := ih hl.tail hp2 hy (fun q hq => hn q (by simp [hq]))
      unfold mxSp fstM
      rw [if_neg hno]
      exact ⟨by omega, a2⟩
theorem suf_none {n : Nat} {ring : Bool} {S : Nat → Bool} {D j : Nat} : ∀ {l : List Nat}, Suf n ring S D l → (∀ q ∈ l, resL n ring S D j [q] = none) → ¬ j + 1 ≤ mxSp n ring D l := by
  intro l
  induction l with
  | nil => intro _ _; unfold mxSp; omega
  | cons x xs ih =>
    intro hl hn
    have hx := hn x (by simp)
    rw [resL_one hl] at hx
    have hno : ¬ j + 1 ≤ (grg n ring D (x :: xs)).length := by
      intro h; rw [if_pos h] at hx; cases hx
    have := ih hl.tail (fun q hq => hn q (by simp [hq]))
    unfold mxSp
    omega
theorem suf_opn (n : Nat) (ring : Bool) (S : Nat → Bool) (D : Nat) : Suf n ring S D (opn n ring S D) := ⟨opn_sorted _ _ _ _, fun _ h => h, fun _ h _ => h⟩
theorem resL_first {n : Nat} {ring : Bool} {S : Nat → Bool} {D j p : Nat} {y : List Nat} (h2 : p < n) (h3 : mayM n ring S D [] p = true) (hy : resL n ring S D j [p] = some y) (h4 : ∀ q, q < p → mayM n ring S D [] q = true → resL n ring S D j [q] = none) : resL n ring S D (j + 1) [] = some y := by
  rw [may_nil] at h3
  obtain ⟨a1, a2⟩ := suf_hit (suf_opn n ring S D) (mem_tk.2 ⟨h2, h3⟩) hy (fun q hq hqp => h4 q hqp (by rw [may_nil]; exact (mem_tk.1 hq).2))
  unfold resL
  rw [if_pos rfl, if_pos a1, a2]
theorem resL_nofirst {n : Nat} {ring : Bool} {S : Nat → Bool} {D j : Nat} (h4 : ∀ q, q < n → mayM n ring S D [] q = true → resL n ring S D j [q] = none) : resL n ring S D (j + 1) [] = none := by
  have := suf_none (suf_opn n ring S D) (fun q hq => h4 q (mem_tk.1 hq).1 (by rw [may_nil]; exact (mem_tk.1 hq).2))
  unfold resL
  rw [if_pos rfl, if_neg this]
end Go.Proofs.Ytoedcklgpmhnnaa
