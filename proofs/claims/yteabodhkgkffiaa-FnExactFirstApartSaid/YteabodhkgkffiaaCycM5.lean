/- Chapter 5: cycles of a possible seating: mathematics. Plain lemmas. -/
import Derived.Test.YteabodhkgkffiaaShM5
namespace Go.Proofs.Yteabodhkgkffiaa

theorem nodup_free (n : Nat) : ∀ (l : List Nat), l.Nodup → (∀ x ∈ l, x < n) → (tk n (fun i => !decide (i ∈ l))).length + l.length = n
  | [], _, _ => by
    have e : tk n (fun i => !decide (i ∈ ([] : List Nat))) = tk n (fun _ => true) := tk_congr (fun i _ => by simp)
    rw [e]
    unfold tk
    rw [List.filter_eq_self.2 (fun _ _ => rfl), List.length_range]
    rfl
  | y :: l, hd, hl => by
    rw [List.nodup_cons] at hd
    have ih := nodup_free n l hd.2 (fun x hx => hl x (List.mem_cons_of_mem _ hx))
    have := tk_drop1 (fun i => !decide (i ∈ l)) (fun i => !decide (i ∈ y :: l)) y (by simpa using hd.1) n (hl y (List.mem_cons_self ..)) (by
      intro i _
      by_cases h : i = y
      · subst h; simp
      · simp [h])
    rw [List.length_cons]
    omega
theorem nodup_le {n : Nat} {l : List Nat} (hd : l.Nodup) (hl : ∀ x ∈ l, x < n) : l.length ≤ n := by have := nodup_free n l hd hl; omega

/-- t steps from a -/
def it (f : Nat → Nat) : Nat → Nat → Nat
  | 0, a => a
  | t + 1, a => f (it f t a)
/-- a permutation of the seats below n -/
structure Per (f : Nat → Nat) (n : Nat) : Prop where
  lt : ∀ i, i < n → f i < n
  inj : ∀ i j, i < n → j < n → f i = f j → i = j
theorem it_lt {f : Nat → Nat} {n : Nat} (h : Per f n) {a : Nat} (ha : a < n) : ∀ t, it f t a < n
  | 0 => ha
  | t + 1 => h.lt _ (it_lt h ha t)
theorem it_add (f : Nat → Nat) (s : Nat) (a : Nat) : ∀ t, it f (s + t) a = it f t (it f s a)
  | 0 => rfl
  | t + 1 => by show f (it f (s + t) a) = f _; rw [it_add f s a t]
theorem it_cancel {f : Nat → Nat} {n : Nat} (h : Per f n) {a b : Nat} (ha : a < n) (hb : b < n) : ∀ s, it f s a = it f s b → a = b
  | 0, e => e
  | s + 1, e => it_cancel h ha hb s (h.inj _ _ (it_lt h ha s) (it_lt h hb s) e)
theorem it_back {f : Nat → Nat} {n : Nat} (h : Per f n) {a : Nat} (ha : a < n) {s t : Nat} (hst : s ≤ t) (e : it f s a = it f t a) : it f (t - s) a = a := by
  have e2 : it f t a = it f s (it f (t - s) a) := by rw [← it_add, Nat.sub_add_cancel hst]
  rw [e2] at e
  exact (it_cancel h ha (it_lt h ha _) s e).symm
theorem per_any {f : Nat → Nat} {n : Nat} (h : Per f n) {a : Nat} (ha : a < n) : ∃ p, 1 ≤ p ∧ p ≤ n ∧ it f p a = a := by
  refine Classical.byContradiction fun hc => ?_
  have hd : ((List.range (n + 1)).map (fun t => it f t a)).Nodup := by
    rw [List.nodup_iff_pairwise_ne, List.pairwise_map]
    refine List.Pairwise.imp_of_mem ?_ List.pairwise_lt_range
    intro s t _ ht hlt e
    rw [List.mem_range] at ht
    exact hc ⟨t - s, by omega, by omega, it_back h ha (Nat.le_of_lt hlt) e⟩
  have := nodup_le hd (n := n) (by
    intro x hx
    rw [List.mem_map] at hx
    obtain ⟨t, _, rfl⟩ := hx
    exact it_lt h ha t)
  rw [List.length_map, List.length_range] at this
  omega
/-- the length of a's cycle -/
theorem per_min {f : Nat → Nat} {n : Nat} (h : Per f n) {a : Nat} (ha : a < n) : ∃ p, 1 ≤ p ∧ p ≤ n ∧ it f p a = a ∧ ∀ q, 1 ≤ q → q < p → it f q a ≠ a := by
  obtain ⟨p, h1, h2, h3⟩ := per_any h ha
  induction p using Nat.strongRecOn with
  | _ p ih =>
    by_cases hc : ∃ q, 1 ≤ q ∧ q < p ∧ it f q a = a
    · obtain ⟨q, q1, q2, q3⟩ := hc
      exact ih q q2 q1 (by omega) q3
    · exact ⟨p, h1, h2, h3, fun q q1 q2 e => hc ⟨q, q1, q2, e⟩⟩
theorem it_mul {f : Nat → Nat} {a p : Nat} (e : it f p a = a) : ∀ m, it f (p * m) a = a
  | 0 => rfl
  | m + 1 => by rw [Nat.mul_succ, it_add, it_mul e m, e]
theorem it_mod {f : Nat → Nat} {a p : Nat} (e : it f p a = a) (t : Nat) : it f t a = it f (t % p) a := by
  conv => lhs; rw [← Nat.div_add_mod t p]
  rw [it_add, it_mul e]

/-- whether j is on the way from a -/
def orbB (f : Nat → Nat) (n a j : Nat) : Bool := (List.range n).any (fun t => decide (it f t a = j))
theorem orb_iff {f : Nat → Nat} {n : Nat} (h : Per f n) {a j : Nat} (ha : a < n) : orbB f n a j = true ↔ ∃ t, it f t a = j := by
  unfold orbB
  rw [List.any_eq_true]
  constructor
  · rintro ⟨t, _, e⟩
    exact ⟨t, of_decide_eq_true e⟩
  · rintro ⟨t, e⟩
    obtain ⟨p, h1, h2, h3⟩ := per_any h ha
    exact ⟨t % p, List.mem_range.2 (Nat.lt_of_lt_of_le (Nat.mod_lt _ (by omega)) h2), decide_eq_true (by rw [← it_mod h3, e])⟩
/-- whether j is on a cycle, of two at least, that holds a number below i -/
def sinB (f : Nat → Nat) (n i j : Nat) : Bool := (List.range i).any (fun a => !decide (f a = a) && orbB f n a j)
theorem sin_iff {f : Nat → Nat} {n : Nat} (h : Per f n) {i j : Nat} (hi : i ≤ n) : sinB f n i j = true ↔ ∃ a, a < i ∧ ¬ f a = a ∧ ∃ t, it f t a = j := by
  unfold sinB
  rw [List.any_eq_true]
  constructor
  · rintro ⟨a, ha, e⟩
    rw [List.mem_range] at ha
    rw [Bool.and_eq_true] at e
    exact ⟨a, ha, by simpa using e.1, (orb_iff h (by omega)).1 e.2⟩
  · rintro ⟨a, ha, hne, ht⟩
    exact ⟨a, List.mem_range.2 ha, by rw [(orb_iff h (by omega)).2 ht]; simpa using hne⟩
theorem sin_zero (f : Nat → Nat) (n j : Nat) : sinB f n 0 j = false := rfl
theorem sin_succ (f : Nat → Nat) (n i j : Nat) : sinB f n (i + 1) j = (sinB f n i j || (!decide (f i = i) && orbB f n i j)) := by
  unfold sinB
  rw [List.range_succ, List.any_append]
  simp
/-- a number whose cycle was met, or that is alone: nothing new -/
theorem sin_same {f : Nat → Nat} {n : Nat} (h : Per f n) {i : Nat} (hi : i < n) (hc : sinB f n i i = true ∨ f i = i) (j : Nat) : sinB f n (i + 1) j = sinB f n i j := by
  rw [sin_succ]
  rcases hc with hc | hc
  · cases ho : orbB f n i j with
    | false => simp
    | true =>
      obtain ⟨t, ht⟩ := (orb_iff h hi).1 ho
      obtain ⟨a, a1, a2, u, hu⟩ := (sin_iff h (Nat.le_of_lt hi)).1 hc
      have : sinB f n i j = true := (sin_iff h (Nat.le_of_lt hi)).2 ⟨a, a1, a2, u + t, by rw [it_add, hu, ht]⟩
      rw [this]; rfl
  · simp [hc]
/-- i's cycle is new: nobody on it was met before -/
theorem sin_new {f : Nat → Nat} {n : Nat} (h : Per f n) {i : Nat} (hi : i < n) (hc : sinB f n i i = false) (t : Nat) : sinB f n i (it f t i) = false := by
  cases hs : sinB f n i (it f t i) with
  | false => rfl
  | true =>
    obtain ⟨a, a1, a2, u, hu⟩ := (sin_iff h (Nat.le_of_lt hi)).1 hs
    obtain ⟨p, h1, h2, h3⟩ := per_any h hi
    have hm : t % p ≤ p := Nat.le_of_lt (Nat.mod_lt _ (by omega))
    have hback : it f (p - t % p) (it f t i) = i := by
      rw [it_mod h3 t, ← it_add, Nat.add_sub_cancel' hm, h3]
    rw [← hu, ← it_add] at hback
    rw [(sin_iff h (Nat.le_of_lt hi)).2 ⟨a, a1, a2, _, hback⟩] at hc
    cases hc
/-- the numbers met in the first t steps from i -/
def pasB (f : Nat → Nat) (i t j : Nat) : Bool := (List.range t).any (fun s => decide (it f s i = j))
theorem pas_iff {f : Nat → Nat} {i t j : Nat} : pasB f i t j = true ↔ ∃ s, s < t ∧ it f s i = j := by
  unfold pasB
  rw [List.any_eq_true]
  constructor
  · rintro ⟨s, hs, e⟩
    exact ⟨s, List.mem_range.1 hs, of_decide_eq_true e⟩
  · rintro ⟨s, hs, e⟩
    exact ⟨s, List.mem_range.2 hs, decide_eq_true e⟩
theorem pas_succ (f : Nat → Nat) (i t j : Nat) : pasB f i (t + 1) j = (pasB f i t j || decide (it f t i = j)) := by
  unfold pasB
  rw [List.range_succ, List.any_append]
  simp
theorem pas_not {f : Nat → Nat} {n : Nat} (h : Per f n) {i p t : Nat} (hi : i < n) (hm : ∀ q, 1 ≤ q → q < p → it f q i ≠ i) (ht : t < p) : pasB f i t (it f t i) = false := by
  cases hs : pasB f i t (it f t i) with
  | false => rfl
  | true =>
    obtain ⟨s, s1, s2⟩ := pas_iff.1 hs
    exact absurd (it_back h hi (Nat.le_of_lt s1) s2) (hm _ (by omega) (by omega))
theorem pas_all {f : Nat → Nat} {n : Nat} (h : Per f n) {i p : Nat} (hi : i < n) (h1 : 1 ≤ p) (hp : it f p i = i) (j : Nat) : pasB f i p j = orbB f n i j := by
  cases ho : orbB f n i j with
  | true =>
    obtain ⟨t, ht⟩ := (orb_iff h hi).1 ho
    exact pas_iff.2 ⟨t % p, Nat.mod_lt _ (by omega), by rw [← it_mod hp, ht]⟩
  | false =>
    cases hs : pasB f i p j with
    | false => rfl
    | true =>
      obtain ⟨s, _, e⟩ := pas_iff.1 hs
      rw [(orb_iff h hi).2 ⟨s, e⟩] at ho
      cases ho
/-- how many cycles, of two at least, hold a number below i -/
def cycN (f : Nat → Nat) (n : Nat) : Nat → Nat
  | 0 => 0
  | i + 1 => cycN f n i + (if sinB f n i i = true ∨ f i = i then 0 else 1)
theorem cycN_le (f : Nat → Nat) (n : Nat) : ∀ i, cycN f n i ≤ i
  | 0 => Nat.le_refl _
  | i + 1 => by show cycN f n i + _ ≤ i + 1; have := cycN_le f n i; split <;> omega

/-- the spec's marks: behind t steps from i -/
def seeB (f : Nat → Nat) (n i t j : Nat) : Bool := sinB f n i j || pasB f i t j
theorem see_zero (f : Nat → Nat) (n i j : Nat) : seeB f n i 0 j = sinB f n i j := by unfold seeB pasB; simp
theorem see_fresh {f : Nat → Nat} {n : Nat} (h : Per f n) {i p t : Nat} (hi : i < n) (hc : sinB f n i i = false) (hm : ∀ q, 1 ≤ q → q < p → it f q i ≠ i) (ht : t < p) : seeB f n i t (it f t i) = false := by
  unfold seeB
  rw [sin_new h hi hc t, pas_not h hi hm ht]
  rfl
theorem see_step (f : Nat → Nat) (n i t j : Nat) : seeB f n i (t + 1) j = (if j = it f t i then true else seeB f n i t j) := by
  unfold seeB
  rw [pas_succ]
  by_cases e : j = it f t i
  · rw [if_pos e, decide_eq_true e.symm]; simp
  · rw [if_neg e, decide_eq_false (fun e2 => e e2.symm)]; simp
theorem see_done {f : Nat → Nat} {n : Nat} (h : Per f n) {i p : Nat} (hi : i < n) (hne : ¬ f i = i) (h1 : 1 ≤ p) (hp : it f p i = i) (j : Nat) : seeB f n i p j = sinB f n (i + 1) j := by
  unfold seeB
  rw [sin_succ, pas_all h hi h1 hp, decide_eq_false hne]
  rfl
theorem see_end {f : Nat → Nat} {n i p : Nat} (h1 : 1 ≤ p) (hp : it f p i = i) : seeB f n i p (it f p i) = true := by
  unfold seeB
  have h0 : pasB f i p i = true := pas_iff.2 ⟨0, h1, rfl⟩
  rw [hp, h0]
  simp

/-- the program's rest: before i's cycle is undone, and behind t steps of that -/
def resN (f : Nat → Nat) (n i j : Nat) : Nat := if j < n then (if sinB f n i j then j else f j) else 0
def undN (f : Nat → Nat) (n i t j : Nat) : Nat := if j < n then (if j = i then it f t i else if sinB f n i j || (pasB f i t j) then j else f j) else 0
theorem und_one {f : Nat → Nat} {n i : Nat} (hc : sinB f n i i = false) (j : Nat) : undN f n i 1 j = resN f n i j := by
  unfold undN resN
  by_cases hj : j < n
  · rw [if_pos hj, if_pos hj]
    by_cases e : j = i
    · subst e; rw [if_pos rfl, hc]; rfl
    · rw [if_neg e]
      have : pasB f i 1 j = false := by
        cases hs : pasB f i 1 j with
        | false => rfl
        | true =>
          obtain ⟨s, s1, s2⟩ := pas_iff.1 hs
          have : s = 0 := by omega
          subst this
          exact absurd s2.symm e
      rw [this, Bool.or_false]
  · rw [if_neg hj, if_neg hj]
theorem und_own {f : Nat → Nat} {n : Nat} (h : Per f n) {i p t : Nat} (hi : i < n) (hc : sinB f n i i = false) (hm : ∀ q, 1 ≤ q → q < p → it f q i ≠ i) (h1 : 1 ≤ t) (ht : t < p) : undN f n i t (it f t i) = it f (t + 1) i := by
  unfold undN
  rw [if_pos (it_lt h hi t), if_neg (hm t h1 ht), sin_new h hi hc t, pas_not h hi hm ht]
  rfl
theorem und_step {f : Nat → Nat} {n : Nat} {i p t : Nat} (hi : i < n) (hm : ∀ q, 1 ≤ q → q < p → it f q i ≠ i) (h1 : 1 ≤ t) (ht : t < p) (hlt : it f t i < n) (j : Nat) : undN f n i (t + 1) j = (if j = it f t i then it f t i else if j = i then it f (t + 1) i else undN f n i t j) := by
  unfold undN
  by_cases e : j = it f t i
  · rw [if_pos e, if_pos (by omega), if_neg (by rw [e]; exact hm t h1 ht), if_pos]
    · exact e
    · rw [pas_succ, decide_eq_true e.symm]; simp
  · rw [if_neg e]
    by_cases e2 : j = i
    · rw [if_pos e2, if_pos (by omega), if_pos e2]
    · rw [if_neg e2, if_neg e2, if_neg e2, pas_succ, decide_eq_false (fun e3 => e e3.symm), Bool.or_false]
theorem und_done {f : Nat → Nat} {n : Nat} (h : Per f n) {i p : Nat} (hi : i < n) (hne : ¬ f i = i) (h1 : 1 ≤ p) (hp : it f p i = i) (j : Nat) : undN f n i p j = resN f n (i + 1) j := by
  have hd := see_done h hi hne h1 hp j
  unfold seeB at hd
  unfold undN resN
  by_cases hj : j < n
  · rw [if_pos hj, if_pos hj, hd]
    by_cases e : j = i
    · rw [if_pos e, hp]
      have : sinB f n (i + 1) j = true := by
        have h0 : pasB f i p i = true := pas_iff.2 ⟨0, h1, rfl⟩
        rw [← hd, e, h0]; simp
      rw [this, if_pos rfl, e]
    · rw [if_neg e]
  · rw [if_neg hj, if_neg hj]
theorem res_same {f : Nat → Nat} {n : Nat} (h : Per f n) {i : Nat} (hi : i < n) (hc : sinB f n i i = true ∨ f i = i) (j : Nat) : resN f n (i + 1) j = resN f n i j := by
  unfold resN
  rw [sin_same h hi hc j]
theorem res_at {f : Nat → Nat} {n i : Nat} (hi : i < n) : resN f n i i = (if sinB f n i i = true ∨ f i = i then i else f i) := by
  unfold resN
  rw [if_pos hi]
  by_cases h1 : sinB f n i i = true
  · rw [if_pos h1, if_pos (Or.inl h1)]
  · rw [if_neg h1]
    by_cases h2 : f i = i
    · rw [if_pos (Or.inr h2), h2]
    · rw [if_neg (by rintro (h | h); exact h1 h; exact h2 h)]

/-- a possible seating is a permutation -/
def setF (xs : List Int) (i : Nat) : Nat := (xs[i]?.getD 0).toNat
theorem set_per {n k : Nat} {xs : List Int} (h : possM n k xs n = true) (hl : xs.length = n) : Per (setF xs) n ∧ ∀ i, i < n → xs[i]?.getD 0 = ((setF xs i : Nat) : Int) := by
  have hv : ∀ i, i < n → xs[i]?.getD 0 = ((setF xs i : Nat) : Int) ∧ setF xs i < n := by
    intro i hi
    obtain ⟨s, h1, h2, _⟩ := poss_seat h hl hi
    unfold setF
    rw [h1]
    exact ⟨by omega, by omega⟩
  refine ⟨⟨fun i hi => (hv i hi).2, ?_⟩, fun i hi => (hv i hi).1⟩
  intro i j hi hj e
  have hd := poss_nodup h hl
  rw [List.nodup_iff_pairwise_ne, List.pairwise_iff_getElem] at hd
  have ei := (hv i hi).1
  have ej := (hv j hj).1
  rw [List.getElem?_eq_getElem (by omega)] at ei ej
  simp only [Option.getD_some] at ei ej
  rcases Nat.lt_trichotomy i j with hlt | heq | hgt
  · exact absurd (by rw [ei, ej, e]) (hd i j (by omega) (by omega) hlt)
  · exact heq
  · exact absurd (by rw [ei, ej, e]) (hd j i (by omega) (by omega) hgt)
end Go.Proofs.Yteabodhkgkffiaa
