/- Chapter 6: just one shift parks: mathematics. Plain lemmas. -/
import Derived.Test.YtfabannlebolfaaShf6
namespace Go.Proofs.Ytfabannlebolfaa

/-- how many numbers are less than k -/
def lessM (l : List Nat) (k : Nat) : Nat := l.countP (fun x => decide (x < k))
theorem cnt4 {A B C D : Nat → Bool} : ∀ {l : List Nat}, (∀ x ∈ l, (A x).toNat + (B x).toNat = (C x).toNat + (D x).toNat) → l.countP A + l.countP B = l.countP C + l.countP D
  | [], _ => rfl
  | x :: l, h => by
    have ih := cnt4 (A := A) (B := B) (C := C) (D := D) (l := l) (fun y hy => h y (List.mem_cons_of_mem _ hy))
    have hx := h x (List.mem_cons_self ..)
    rw [List.countP_cons, List.countP_cons, List.countP_cons, List.countP_cons]
    cases hA : A x <;> cases hB : B x <;> cases hC : C x <;> cases hD : D x <;> simp [hA, hB, hC, hD] at hx ⊢ <;> omega
theorem first_min (P : Nat → Int) : ∀ N, 1 ≤ N → ∃ b, 1 ≤ b ∧ b ≤ N ∧ (∀ j, 1 ≤ j → j ≤ N → P b ≤ P j) ∧ (∀ j, 1 ≤ j → j < b → P b < P j)
  | 0, h => by omega
  | N + 1, _ => by
    by_cases hN : N = 0
    · subst hN
      exact ⟨1, Nat.le_refl _, Nat.le_refl _, fun j h1 h2 => by rw [show j = 1 by omega]; exact Int.le_refl _, fun j h1 h2 => by omega⟩
    · obtain ⟨b, h1, h2, h3, h4⟩ := first_min P N (by omega)
      by_cases hlt : P (N + 1) < P b
      · refine ⟨N + 1, by omega, Nat.le_refl _, fun j j1 j2 => ?_, fun j j1 j2 => ?_⟩
        · by_cases e : j = N + 1
          · rw [e]; exact Int.le_refl _
          · have := h3 j j1 (by omega); omega
        · have := h3 j j1 (by omega); omega
      · refine ⟨b, h1, by omega, fun j j1 j2 => ?_, h4⟩
        by_cases e : j = N + 1
        · rw [e]; omega
        · exact h3 j j1 (by omega)
theorem less_all {l : List Nat} {n : Nat} (h : ∀ x ∈ l, x ≤ n) : lessM l (n + 1) = l.length := by
  unfold lessM
  rw [List.countP_eq_length]
  intro x hx
  have := h x hx
  simp; omega
/-- behind the right shift each head of the line has as many cars as seats, or more -/
theorem shift_ok {n : Nat} {l : List Nat} (hl : l.length = n) (hx : ∀ x ∈ l, x ≤ n) : ∃ s, s ≤ n ∧ ∀ p, p ≤ n → p ≤ l.countP (fun x => decide ((x + s) % (n + 1) < p)) := by
  obtain ⟨b, h1, h2, h3, h4⟩ := first_min (fun k => ((lessM l k : Nat) : Int) - (k : Int)) (n + 1) (by omega)
  refine ⟨n + 1 - b, by omega, fun p hp => ?_⟩
  have hmod : ∀ x ∈ l, (x + (n + 1 - b)) % (n + 1) = if b ≤ x then x - b else x + (n + 1 - b) := by
    intro x hxl
    have hxn := hx x hxl
    by_cases e : b ≤ x
    · rw [if_pos e, show x + (n + 1 - b) = (x - b) + (n + 1) by omega, Nat.add_mod_right, Nat.mod_eq_of_lt (by omega)]
    · rw [if_neg e, Nat.mod_eq_of_lt (by omega)]
  by_cases hc : b + p ≤ n + 1
  · have e := cnt4 (A := fun x => decide ((x + (n + 1 - b)) % (n + 1) < p)) (B := fun x => decide (x < b)) (C := fun x => decide (x < b + p)) (D := fun _ => false) (l := l) (fun x hxl => by
      rw [hmod x hxl]
      have hxn := hx x hxl
      by_cases e : b ≤ x
      · rw [if_pos e, decide_eq_false (show ¬ x < b by omega)]
        by_cases e2 : x < b + p
        · rw [decide_eq_true e2, decide_eq_true (by omega)]
        · rw [decide_eq_false e2, decide_eq_false (by omega)]
      · rw [if_neg e, decide_eq_true (show x < b by omega), decide_eq_true (show x < b + p by omega), decide_eq_false (show ¬ x + (n + 1 - b) < p by omega)]
        rfl)
    have h5 := h3 (b + p) (by omega) hc
    have hD : l.countP (fun _ => false) = 0 := by rw [List.countP_eq_zero]; intro x _; simp
    rw [hD] at e
    unfold lessM at h5
    omega
  · have e := cnt4 (A := fun x => decide ((x + (n + 1 - b)) % (n + 1) < p)) (B := fun x => decide (x < b)) (C := fun x => decide (x < b + p - (n + 1))) (D := fun _ => true) (l := l) (fun x hxl => by
      rw [hmod x hxl]
      have hxn := hx x hxl
      by_cases e : b ≤ x
      · rw [if_pos e, decide_eq_false (show ¬ x < b by omega), decide_eq_false (show ¬ x < b + p - (n + 1) by omega), decide_eq_true (show x - b < p by omega)]
        rfl
      · rw [if_neg e, decide_eq_true (show x < b by omega)]
        by_cases e2 : x < b + p - (n + 1)
        · rw [decide_eq_true e2, decide_eq_true (by omega)]
        · rw [decide_eq_false e2, decide_eq_false (by omega)])
    have h5 := h4 (b + p - (n + 1)) (by omega) (by omega)
    have hD : l.countP (fun _ => true) = l.length := by rw [List.countP_eq_length]; intro x _; rfl
    rw [hD, hl] at e
    unfold lessM at h5
    omega
/-- a parking list: each head of the line has cars enough -/
theorem park_is {n : Nat} {m : List Nat} (hl : m.length = n) (hx : ∀ x ∈ m, x ≤ n) : parkB n m = true ↔ ∀ p, p ≤ n → p ≤ lessM m p := by
  have hs : ∀ p, cntG p m m.length + lessM m p = n := by
    intro p
    unfold cntG lessM
    rw [List.take_of_length_le (Nat.le_refl _), ← List.countP_eq_length_filter]
    have := cnt4 (A := fun c => decide (p ≤ c)) (B := fun x => decide (x < p)) (C := fun _ => true) (D := fun _ => false) (l := m) (fun x _ => by
      by_cases e : p ≤ x
      · rw [decide_eq_true e, decide_eq_false (show ¬ x < p by omega)]
      · rw [decide_eq_false e, decide_eq_true (show x < p by omega)]
        rfl)
    have hD : m.countP (fun _ => false) = 0 := by rw [List.countP_eq_zero]; intro x _; simp
    have hT : m.countP (fun _ => true) = m.length := by rw [List.countP_eq_length]; intro x _; rfl
    rw [hD, hT] at this
    omega
  have hlast : n ∈ m ↔ ¬ n ≤ lessM m n := by
    constructor
    · intro h he
      have h1 : lessM m n = m.length := by
        have := List.countP_le_length (p := fun x => decide (x < n)) (l := m)
        unfold lessM at he ⊢
        omega
      unfold lessM at h1
      rw [List.countP_eq_length] at h1
      have := h1 n h
      simp at this
    · intro h
      refine Classical.byContradiction fun hn => h ?_
      have : lessM m n = m.length := by
        unfold lessM
        rw [List.countP_eq_length]
        intro x hxm
        have h1 := hx x hxm
        have h2 : x ≠ n := fun e => hn (e ▸ hxm)
        simp; omega
      omega
  unfold parkB
  rw [Bool.and_eq_true, List.all_eq_true]
  constructor
  · rintro ⟨h1, h2⟩ p hp
    by_cases e : p = n
    · subst e
      refine Classical.byContradiction fun h => ?_
      have := hlast.2 h
      simp [this] at h2
    · have h3 := of_decide_eq_true (h1 p (List.mem_range.2 (by omega)))
      have := hs p
      omega
  · intro h
    refine ⟨fun p hp => decide_eq_true ?_, ?_⟩
    · have h1 := h p (by have := List.mem_range.1 hp; omega)
      have := hs p
      have := List.mem_range.1 hp
      omega
    · have : ¬ n ∈ m := fun hm => hlast.1 hm (h n (Nat.le_refl _))
      simp [this]
theorem mv_all {n : Nat} {l : List Nat} {s : Nat} : mvM n l s l.length = l.map (fun c => (c + s) % (n + 1)) := by
  unfold mvM
  rw [List.take_of_length_le (Nat.le_refl _)]
theorem mv_le {n : Nat} {l : List Nat} {s j : Nat} : ∀ x ∈ mvM n l s j, x ≤ n := by
  intro x hx
  unfold mvM at hx
  obtain ⟨y, _, rfl⟩ := List.mem_map.1 hx
  have := Nat.mod_lt (y + s) (show 0 < n + 1 by omega)
  omega
/-- there is a shift that parks -/
theorem shf_some {n : Nat} {l : List Nat} (hl : l.length = n) (hx : ∀ x ∈ l, x ≤ n) : ∃ s, s ≤ n ∧ parkB n (mvM n l s l.length) = true := by
  obtain ⟨s, hs, h⟩ := shift_ok hl hx
  refine ⟨s, hs, (park_is (by rw [mv_len (Nat.le_refl _)]; exact hl) mv_le).2 fun p hp => ?_⟩
  unfold lessM
  rw [mv_all, List.countP_map]
  exact h p hp
theorem shfM_first {n : Nat} {l : List Nat} (hl : l.length = n) (hx : ∀ x ∈ l, x ≤ n) : ∃ s, shfM n l = some s ∧ s ≤ n ∧ parkB n (mvM n l s l.length) = true ∧ ∀ t, t < s → parkB n (mvM n l t l.length) = false := by
  obtain ⟨s, hs, hp⟩ := shf_some hl hx
  cases hf : shfM n l with
  | none =>
    unfold shfM at hf
    rw [List.find?_eq_none] at hf
    exact absurd hp (hf s (List.mem_range.2 (by omega)))
  | some t =>
    unfold shfM at hf
    rw [List.find?_range_eq_some] at hf
    obtain ⟨h1, h2, h3⟩ := hf
    exact ⟨t, rfl, by have := List.mem_range.1 h2; omega, h1, fun j hj => by simpa using h3 j hj⟩

/-- a sorted list: each number is at most its place -/
theorem park_sorted {n : Nat} {m : List Nat} {ss : List Int} (hp : ss.Perm (ints m)) (hs : ss.Pairwise (· ≤ ·)) (hl : m.length = n) (hx : ∀ x ∈ m, x ≤ n) : parkB n m = true ↔ ∀ i, i < n → ss[i]?.getD 0 ≤ (i : Int) := by
  rw [park_is hl hx]
  have hsl : ss.length = n := by rw [hp.length_eq, ints_length, hl]
  have hcnt : ∀ p : Nat, lessM m p = ss.countP (fun y => decide (y < (p : Int))) := by
    intro p
    rw [hp.countP_eq]
    unfold lessM ints
    rw [List.countP_map]
    apply List.countP_congr
    intro x _
    simp
  have hmono : ∀ i j, i ≤ j → j < n → ss[i]?.getD 0 ≤ ss[j]?.getD 0 := by
    intro i j hij hj
    rcases Nat.eq_or_lt_of_le hij with rfl | hlt
    · exact Int.le_refl _
    · have := List.pairwise_iff_getElem.1 hs i j (by omega) (by omega) hlt
      rw [List.getElem?_eq_getElem (by omega), List.getElem?_eq_getElem (by omega)]
      exact this
  have hsplit : ∀ i, i ≤ n → ∀ p : Nat, (∀ k, k < i → ss[k]?.getD 0 < (p : Int)) → i ≤ ss.countP (fun y => decide (y < (p : Int))) := by
    intro i hi p hk
    rw [← List.take_append_drop i ss, List.countP_append]
    have : (ss.take i).countP (fun y => decide (y < (p : Int))) = (ss.take i).length := by
      rw [List.countP_eq_length]
      intro y hy
      obtain ⟨k, hk', rfl⟩ := List.getElem_of_mem hy
      rw [List.length_take] at hk'
      have := hk k (by omega)
      rw [List.getElem?_eq_getElem (by omega)] at this
      rw [List.getElem_take]
      simpa using this
    rw [this, List.length_take]
    omega
  have hsplit2 : ∀ i, i ≤ n → ∀ p : Nat, (∀ k, i ≤ k → k < n → (p : Int) ≤ ss[k]?.getD 0) → ss.countP (fun y => decide (y < (p : Int))) ≤ i := by
    intro i hi p hk
    rw [← List.take_append_drop i ss, List.countP_append]
    have : (ss.drop i).countP (fun y => decide (y < (p : Int))) = 0 := by
      rw [List.countP_eq_zero]
      intro y hy
      obtain ⟨k, hk', rfl⟩ := List.getElem_of_mem hy
      rw [List.length_drop] at hk'
      have := hk (i + k) (by omega) (by omega)
      rw [List.getElem?_eq_getElem (by omega)] at this
      rw [List.getElem_drop]
      simp only [Option.getD_some] at this
      simp; omega
    have h2 := List.countP_le_length (p := fun y => decide (y < (p : Int))) (l := ss.take i)
    rw [List.length_take] at h2
    omega
  constructor
  · intro h i hi
    refine Classical.byContradiction fun hne => ?_
    have h1 := h (i + 1) (by omega)
    rw [hcnt] at h1
    have h2 := hsplit2 i (by omega) (i + 1) (fun k h3 h4 => by have := hmono i k h3 h4; push_cast; omega)
    omega
  · intro h p hp'
    rw [hcnt]
    exact hsplit p hp' p (fun k hk => by have := h k (by omega); omega)
end Go.Proofs.Ytfabannlebolfaa
