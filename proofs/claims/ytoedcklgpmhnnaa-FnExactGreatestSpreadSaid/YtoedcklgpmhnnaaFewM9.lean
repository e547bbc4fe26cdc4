/- The search for the fewest guards: mathematics. Plain lemmas: no function of the program. -/
import Derived.Test.YtoedcklgpmhnnaaFgdM9
namespace Go.Proofs.Ytoedcklgpmhnnaa

/-- the first seat that is tried behind some, and the last one -/
def frG9 (b : List Nat) : Nat := match b.getLast? with
  | none => 0
  | some x => x + 1
def ltM (n : Nat) (ring : Bool) (h : Nat) (b : List Nat) : Nat := match b.getLast? with
  | none => if ring then n - 1 else min h (n - 1)
  | some x => min (n - 1) (x + 1 + 2 * h)
/-- the first success of c tries from p on -/
def scanM (f : Nat → Option (List Nat)) : Nat → Nat → Option (List Nat)
  | _, 0 => none
  | p, c + 1 => match f p with
    | some x => some x
    | none => scanM f (p + 1) c
theorem scan_none {f : Nat → Option (List Nat)} : ∀ {c p : Nat}, (∀ q, p ≤ q → q < p + c → f q = none) → scanM f p c = none := by
  intro c
  induction c with
  | zero => intro p _; rfl
  | succ c ih =>
    intro p h
    unfold scanM
    rw [h p (Nat.le_refl _) (by omega)]
    exact ih (fun q h1 h2 => h q (by omega) (by omega))
theorem scan_hit {f : Nat → Option (List Nat)} {x : Nat} {y : List Nat} : ∀ {c p : Nat}, (∀ q, p ≤ q → q < x → f q = none) → f x = some y → p ≤ x → x < p + c → scanM f p c = some y := by
  intro c
  induction c with
  | zero => intro p _ _ _ h; omega
  | succ c ih =>
    intro p h1 h2 h3 h4
    unfold scanM
    by_cases e : p = x
    · subst e; rw [h2]
    · rw [h1 p (Nat.le_refl _) (by omega)]
      exact ih (fun q h5 h6 => h1 q (by omega) h6) h2 (by omega) (by omega)
theorem scan_some {f : Nat → Option (List Nat)} {y : List Nat} : ∀ {c p : Nat}, scanM f p c = some y → ∃ x, p ≤ x ∧ x < p + c ∧ f x = some y := by
  intro c
  induction c with
  | zero => intro p h; cases h
  | succ c ih =>
    intro p h
    unfold scanM at h
    cases e : f p with
    | some z =>
      rw [e] at h
      exact ⟨p, Nat.le_refl _, by omega, by rw [e]; exact h⟩
    | none =>
      rw [e] at h
      obtain ⟨x, h1, h2, h3⟩ := ih h
      exact ⟨x, by omega, by omega, h3⟩
/-- the first guards of j more seats that begin with some -/
def fewM (n : Nat) (ring : Bool) (h : Nat) (G : List Nat → Bool) : Nat → List Nat → Option (List Nat)
  | 0, b => if G b then some b else none
  | j + 1, b => scanM (fun p => fewM n ring h G j (b ++ [p])) (frG9 b) (ltM n ring h b + 1 - frG9 b)
theorem ltM_lt {n : Nat} {ring : Bool} {h : Nat} {b : List Nat} (hn : 1 ≤ n) : ltM n ring h b < n := by
  unfold ltM
  cases b.getLast? with
  | none => cases ring <;> simp <;> omega
  | some x => simp; omega
theorem snoc_ok {n : Nat} {b : List Nat} {p : Nat} (hs : b.Pairwise (· < ·)) (hb : ∀ x ∈ b, x < n) (h1 : frG9 b ≤ p) (h2 : p < n) : (b ++ [p]).Pairwise (· < ·) ∧ ∀ x ∈ b ++ [p], x < n := by
  refine ⟨?_, fun x hx => ?_⟩
  · rw [List.pairwise_append]
    refine ⟨hs, by simp, fun x hx y hy => ?_⟩
    have hy' : y = p := by simpa using hy
    subst hy'
    have hne : b ≠ [] := List.ne_nil_of_mem hx
    have hl := List.getLast?_eq_some_getLast hne
    unfold frG9 at h1
    rw [hl] at h1
    simp only at h1
    obtain ⟨i, hi, rfl⟩ := List.getElem_of_mem hx
    rw [List.getLast_eq_getElem] at h1
    rcases Nat.lt_or_ge i (b.length - 1) with h' | h'
    · have := List.pairwise_iff_getElem.1 hs i (b.length - 1) hi (by omega) h'
      omega
    · have : i = b.length - 1 := by omega
      subst this; omega
  · rcases List.mem_append.1 hx with e | e
    · exact hb x e
    · have : x = p := by simpa using e
      omega
theorem few_ext {n : Nat} {ring : Bool} {h : Nat} {G : List Nat → Bool} (hn : 1 ≤ n) : ∀ {j : Nat} {b a : List Nat}, b.Pairwise (· < ·) → (∀ x ∈ b, x < n) → fewM n ring h G j b = some a → a.Pairwise (· < ·) ∧ (∀ x ∈ a, x < n) ∧ a.length = b.length + j ∧ G a = true ∧ ∀ i, i < b.length → a[i]? = b[i]? := by
  intro j
  induction j with
  | zero =>
    intro b a hs hb h0
    unfold fewM at h0
    by_cases hg : G b = true
    · rw [if_pos hg] at h0
      simp only [Option.some.injEq] at h0
      subst h0
      exact ⟨hs, hb, rfl, hg, fun _ _ => rfl⟩
    · rw [if_neg hg] at h0; cases h0
  | succ j ih =>
    intro b a hs hb h0
    unfold fewM at h0
    obtain ⟨x, h1, h2, h3⟩ := scan_some h0
    have hl := ltM_lt (n := n) (ring := ring) (h := h) (b := b) hn
    obtain ⟨s1, s2⟩ := snoc_ok hs hb h1 (by omega)
    obtain ⟨r1, r2, r3, r4, r5⟩ := ih s1 s2 h3
    refine ⟨r1, r2, by rw [r3, List.length_append]; simp; omega, r4, fun i hi => ?_⟩
    rw [r5 i (by rw [List.length_append]; omega), List.getElem?_append_left hi]
theorem gdL_take {n : Nat} {ring : Bool} {h K i : Nat} (hi : i < K) : (gdL n ring h K).take (i + 1) = (gdL n ring h K).take i ++ [gdM n ring h K i] := by
  have hl := gdL_len n ring h K
  rw [List.take_succ_eq_append_getElem (by omega)]
  have := gdL_get (n := n) (ring := ring) (h := h) hi
  rw [List.getElem?_eq_getElem (by omega)] at this
  simp only [Option.some.injEq] at this
  rw [this]
theorem gdL_sorted {n : Nat} {ring : Bool} {h : Nat} (hn : 1 ≤ n) : (gdL n ring h (gdK n h)).Pairwise (· < ·) := by
  unfold gdL
  rw [List.pairwise_iff_getElem]
  have key : ∀ k i, i + k + 1 < gdK n h → gdM n ring h (gdK n h) i < gdM n ring h (gdK n h) (i + k + 1) := by
    intro k
    induction k with
    | zero => intro i hi; exact gd_mono hn hi
    | succ k ih =>
      intro i hi
      have h1 := ih i (by omega)
      have h2 := gd_mono (ring := ring) (h := h) hn (i := i + k + 1) (by omega)
      have e : i + (k + 1) + 1 = i + k + 1 + 1 := by omega
      rw [e]; omega
  intro i j hi hj hij
  simp only [List.length_map, List.length_range] at hi hj
  simp only [List.getElem_map, List.getElem_range]
  have := key (j - i - 1) i (by omega)
  have e : i + (j - i - 1) + 1 = j := by omega
  rw [e] at this
  exact this
theorem gdL_lt {n : Nat} {ring : Bool} {h K : Nat} (hn : 1 ≤ n) : ∀ x ∈ gdL n ring h K, x < n := by
  intro x hx
  unfold gdL at hx
  obtain ⟨i, -, rfl⟩ := List.mem_map.1 hx
  exact gd_lt hn
theorem take_last {n : Nat} {ring : Bool} {h K i : Nat} (hi : i < K) : ((gdL n ring h K).take (i + 1)).getLast? = some (gdM n ring h K i) := by
  rw [gdL_take hi, List.getLast?_append]; rfl
theorem fewM_is {n : Nat} {ring : Bool} {h : Nat} {G : List Nat → Bool} (hn : 1 ≤ n) (hG : ∀ b, b.Pairwise (· < ·) → (∀ x ∈ b, x < n) → 0 < b.length → (G b = true ↔ Cov n ring h b)) :
    ∀ t, t ≤ gdK n h → fewM n ring h G t ((gdL n ring h (gdK n h)).take (gdK n h - t)) = some (gdL n ring h (gdK n h)) := by
  obtain ⟨hK1, -, -⟩ := gdK_is n h hn
  have hlen := gdL_len n ring h (gdK n h)
  intro t
  induction t with
  | zero =>
    intro _
    unfold fewM
    rw [Nat.sub_zero, List.take_of_length_le (Nat.le_of_eq hlen)]
    rw [if_pos ((hG _ (gdL_sorted hn) (gdL_lt hn) (by omega)).2 (gd_cov hn))]
  | succ t ih =>
    intro ht
    have h1 := ih (by omega)
    obtain ⟨i, hi⟩ : ∃ i, gdK n h - (t + 1) = i := ⟨_, rfl⟩
    have hi1 : gdK n h - t = i + 1 := by omega
    have hiK : i < gdK n h := by omega
    rw [hi1, gdL_take hiK] at h1
    rw [hi]
    have hbs : ((gdL n ring h (gdK n h)).take i).Pairwise (· < ·) := (gdL_sorted hn).sublist (List.take_sublist _ _)
    have hbn : ∀ x ∈ (gdL n ring h (gdK n h)).take i, x < n := fun x hx => gdL_lt hn x (List.mem_of_mem_take hx)
    have hbl : ((gdL n ring h (gdK n h)).take i).length = i := by rw [List.length_take]; omega
    have hxn := gd_lt (n := n) (ring := ring) (h := h) (K := gdK n h) (i := i) hn
    unfold fewM
    refine scan_hit ?_ h1 ?_ ?_
    · intro q hq1 hq2
      cases e : fewM n ring h G t ((gdL n ring h (gdK n h)).take i ++ [q]) with
      | none => rfl
      | some a =>
        exfalso
        obtain ⟨s1, s2⟩ := snoc_ok hbs hbn hq1 (by omega)
        obtain ⟨r1, r2, r3, r4, r5⟩ := few_ext hn s1 s2 e
        rw [List.length_append, hbl] at r3
        simp only [List.length_cons, List.length_nil] at r3
        have hai : i < a.length := by omega
        have hc := (hG a r1 r2 (by omega)).1 r4
        have hm := gd_min (n := n) (ring := ring) (h := h) (K := gdK n h) (a := a) (by omega) r1 r2 hc t (by omega) (by omega)
        have hii : gdK n h - 1 - t = i := by omega
        simp only [hii] at hm
        have h5 := r5 i (by rw [List.length_append, hbl]; simp)
        rw [List.getElem?_append_right (by omega), hbl, Nat.sub_self, List.getElem?_eq_getElem hai] at h5
        simp only [List.getElem?_cons_zero, Option.some.injEq] at h5
        omega
    · cases i with
      | zero => simp [frG9]
      | succ i =>
        unfold frG9
        rw [take_last (by omega)]
        have := gd_mono (ring := ring) (h := h) hn (i := i) (by omega)
        simp; omega
    · have hle : gdM n ring h (gdK n h) i ≤ ltM n ring h ((gdL n ring h (gdK n h)).take i) := by
        cases i with
        | zero =>
          have h0 := gd_first (ring := ring) (h := h) hn
          simp only [List.take_zero]
          unfold ltM
          simp only [List.getLast?_nil]
          cases ring
          · simp; omega
          · rw [h0.2 rfl]; simp
        | succ i =>
          unfold ltM
          rw [take_last (by omega)]
          have := gd_step (n := n) (ring := ring) (h := h) (K := gdK n h) (i := i) hiK
          simp; omega
      have hfr : frG9 ((gdL n ring h (gdK n h)).take i) ≤ gdM n ring h (gdK n h) i := by
        cases i with
        | zero => simp [frG9]
        | succ i =>
          unfold frG9
          rw [take_last (by omega)]
          have := gd_mono (ring := ring) (h := h) hn (i := i) (by omega)
          simp; omega
      omega
theorem few_all {n : Nat} {ring : Bool} {h : Nat} {G : List Nat → Bool} (hn : 1 ≤ n) (hG : ∀ b, b.Pairwise (· < ·) → (∀ x ∈ b, x < n) → 0 < b.length → (G b = true ↔ Cov n ring h b)) :
    fewM n ring h G (gdK n h) [] = some (gdL n ring h (gdK n h)) := by
  have := fewM_is hn hG (gdK n h) (Nat.le_refl _)
  rw [Nat.sub_self, List.take_zero] at this
  exact this
end Go.Proofs.Ytoedcklgpmhnnaa
