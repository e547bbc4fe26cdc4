/- The fewest guards: mathematics. Plain lemmas: no function of the program. -/
import Derived.Test.YtoedcklgpmhnnaaRowMath
namespace Go.Proofs.Ytoedcklgpmhnnaa

/-- each seat has a guard within the reach -/
def Cov (n : Nat) (ring : Bool) (h : Nat) (l : List Nat) : Prop := ∀ p, p < n → ∃ q ∈ l, gapM n ring p q ≤ h
/-- the guard i of K -/
def gdM (n : Nat) (ring : Bool) (h K i : Nat) : Nat := n - 1 - (if ring then 2 * h else h) - (2 * h + 1) * (K - 1 - i)
/-- all of them -/
def gdL (n : Nat) (ring : Bool) (h K : Nat) : List Nat := (List.range K).map (gdM n ring h K)
theorem gdL_len (n : Nat) (ring : Bool) (h K : Nat) : (gdL n ring h K).length = K := by unfold gdL; simp
theorem gdL_get {n : Nat} {ring : Bool} {h K i : Nat} (hi : i < K) : (gdL n ring h K)[i]? = some (gdM n ring h K i) := by unfold gdL; simp [hi]
/-- so many guards -/
def gdK (n h : Nat) : Nat := (n + 2 * h) / (2 * h + 1)
theorem gdK_is (n h : Nat) (hn : 1 ≤ n) : 1 ≤ gdK n h ∧ n ≤ (2 * h + 1) * gdK n h ∧ (2 * h + 1) * gdK n h ≤ n + 2 * h := by
  unfold gdK
  have h1 := Nat.div_add_mod (n + 2 * h) (2 * h + 1)
  have h2 := Nat.mod_lt (n + 2 * h) (show 2 * h + 1 > 0 by omega)
  obtain ⟨K, hK⟩ : ∃ K, (n + 2 * h) / (2 * h + 1) = K := ⟨_, rfl⟩
  rw [hK] at h1 ⊢
  obtain ⟨X, hX⟩ : ∃ X, (2 * h + 1) * K = X := ⟨_, rfl⟩
  rw [hX] at h1 ⊢
  refine ⟨?_, by omega, by omega⟩
  rcases Nat.eq_zero_or_pos K with h0 | h0
  · subst h0
    rw [Nat.mul_zero] at hX
    omega
  · exact h0
theorem gdK_le (n h : Nat) (hn : 1 ≤ n) : gdK n h ≤ n := by
  unfold gdK
  apply Nat.div_le_of_le_mul
  have e : (2 * h + 1) * n = n + 2 * h * n := by rw [Nat.add_mul]; omega
  have : 2 * h * 1 ≤ 2 * h * n := Nat.mul_le_mul_left _ hn
  omega
/-- what is subtracted, step by step -/
theorem step_sub {R K i : Nat} (h : i + 1 < K) : R * (K - 1 - i) = R * (K - 1 - (i + 1)) + R := by
  have e : K - 1 - i = (K - 1 - (i + 1)) + 1 := by omega
  rw [e, Nat.mul_succ]
theorem gd_step {n : Nat} {ring : Bool} {h K i : Nat} (hi : i + 1 < K) : gdM n ring h K (i + 1) ≤ gdM n ring h K i + (2 * h + 1) := by
  unfold gdM
  rw [step_sub (R := 2 * h + 1) hi]
  omega
theorem first_sub {R K : Nat} (h : 1 ≤ K) : R * (K - 1) + R = R * K := by
  have e : K = (K - 1) + 1 := by omega
  conv => rhs; rw [e, Nat.mul_succ]
theorem gd_first {n : Nat} {ring : Bool} {h : Nat} (hn : 1 ≤ n) : gdM n ring h (gdK n h) 0 ≤ h ∧ (ring = true → gdM n ring h (gdK n h) 0 = 0) := by
  obtain ⟨h1, h2, h3⟩ := gdK_is n h hn
  have e := first_sub (R := 2 * h + 1) h1
  unfold gdM
  cases ring
  · simp; omega
  · simp; omega
theorem last_sub {R K : Nat} : R * (K - 1 - (K - 1)) = 0 := by rw [Nat.sub_self, Nat.mul_zero]
theorem gd_last {n : Nat} {ring : Bool} {h K : Nat} : gdM n ring h K (K - 1) = n - 1 - (if ring then 2 * h else h) := by
  unfold gdM
  rw [last_sub, Nat.sub_zero]
theorem gd_mono {n : Nat} {ring : Bool} {h i : Nat} (hn : 1 ≤ n) (hi : i + 1 < gdK n h) : gdM n ring h (gdK n h) i < gdM n ring h (gdK n h) (i + 1) := by
  obtain ⟨h1, h2, h3⟩ := gdK_is n h hn
  have e := first_sub (R := 2 * h + 1) h1
  have e2 : (2 * h + 1) * (gdK n h - 1 - (i + 1)) ≤ (2 * h + 1) * (gdK n h - 1 - 1) := Nat.mul_le_mul_left _ (by omega)
  have e3 := step_sub (R := 2 * h + 1) (K := gdK n h) (i := 0) (by omega)
  have e4 := step_sub (R := 2 * h + 1) (K := gdK n h) hi
  unfold gdM
  rw [Nat.zero_add, Nat.sub_zero] at e3
  cases ring
  · simp; omega
  · simp; omega
theorem gd_lt {n : Nat} {ring : Bool} {h K i : Nat} (hn : 1 ≤ n) : gdM n ring h K i < n := by
  unfold gdM
  omega
theorem gap_near {n : Nat} {ring : Bool} {p q h : Nat} (h1 : p ≤ q + h) (h2 : q ≤ p + h) : gapM n ring p q ≤ h := by
  unfold gapM
  cases ring <;> simp <;> omega
/-- they are guards -/
theorem gd_cov {n : Nat} {ring : Bool} {h : Nat} (hn : 1 ≤ n) : Cov n ring h (gdL n ring h (gdK n h)) := by
  obtain ⟨h1, -, -⟩ := gdK_is n h hn
  have hmem : ∀ i, i < gdK n h → gdM n ring h (gdK n h) i ∈ gdL n ring h (gdK n h) := by
    intro i hi
    unfold gdL
    exact List.mem_map.2 ⟨i, by simpa using hi, rfl⟩
  have h0 := gd_first (ring := ring) (h := h) hn
  intro p hp
  have key : ∀ i, i < gdK n h → p ≤ gdM n ring h (gdK n h) i + h → ∃ q ∈ gdL n ring h (gdK n h), gapM n ring p q ≤ h := by
    intro i
    induction i with
    | zero => intro hi hpi; exact ⟨_, hmem 0 hi, gap_near hpi (by omega)⟩
    | succ i ih =>
      intro hi hpi
      by_cases hc : p ≤ gdM n ring h (gdK n h) i + h
      · exact ih (by omega) hc
      · have := gd_step (n := n) (ring := ring) (h := h) hi
        exact ⟨_, hmem (i + 1) hi, gap_near hpi (by omega)⟩
  have hl := gd_last (n := n) (ring := ring) (h := h) (K := gdK n h)
  by_cases hc : p ≤ gdM n ring h (gdK n h) (gdK n h - 1) + h
  · exact key _ (by omega) hc
  · rw [hl] at hc
    cases ring with
    | false => simp at hc; omega
    | true =>
      simp at hc
      refine ⟨_, hmem 0 h1, ?_⟩
      rw [h0.2 rfl]
      unfold gapM
      simp
      omega
theorem pos_get {a : List Nat} (hs : a.Pairwise (· < ·)) {q i : Nat} (hq : q ∈ a) (hi : i < a.length) (h : a[i] < q) : ∃ j, ∃ (hj : j < a.length), i < j ∧ q = a[j] := by
  obtain ⟨j, hj, rfl⟩ := List.getElem_of_mem hq
  refine ⟨j, hj, ?_, rfl⟩
  rcases Nat.lt_or_ge i j with h' | h'
  · exact h'
  · exfalso
    rcases Nat.eq_or_lt_of_le h' with e | e
    · subst e; omega
    · have := List.pairwise_iff_getElem.1 hs j i hj hi e
      omega
/-- .. and none has a guard before these -/
theorem gd_min {n : Nat} {ring : Bool} {h K : Nat} {a : List Nat} (hK : a.length = K) (hs : a.Pairwise (· < ·)) (hn : ∀ x ∈ a, x < n) (hc : Cov n ring h a) : ∀ t, t < K → ∀ (hi : K - 1 - t < a.length), gdM n ring h K (K - 1 - t) ≤ a[K - 1 - t] := by
  intro t
  induction t with
  | zero =>
    intro hK0 hi
    simp only [Nat.sub_zero] at hi ⊢
    rw [gd_last]
    have hln := hn _ (List.getElem_mem hi)
    have hmax : ∀ q ∈ a, q ≤ a[K - 1] := by
      intro q hq
      rcases Nat.lt_or_ge a[K - 1] q with h' | h'
      · obtain ⟨j, hj, h1, -⟩ := pos_get hs hq hi h'
        omega
      · exact h'
    obtain ⟨z, hz⟩ : ∃ z, a[K - 1] = z := ⟨_, rfl⟩
    rw [hz] at hln hmax ⊢
    cases ring with
    | false =>
      obtain ⟨q, hq, hg⟩ := hc (n - 1) (by omega)
      have := hmax q hq
      have := hn q hq
      unfold gapM at hg
      simp at hg ⊢
      omega
    | true =>
      simp
      rcases Nat.lt_or_ge (z + 2 * h + 1) n with h' | h'
      · exfalso
        obtain ⟨q, hq, hg⟩ := hc (z + h + 1) (by omega)
        have := hmax q hq
        unfold gapM at hg
        simp at hg
        omega
      · omega
  | succ t ih =>
    intro htK hi
    have hi2 : K - 1 - t < a.length := by omega
    have h1 := ih (by omega) hi2
    have hj : K - 1 - t = (K - 1 - (t + 1)) + 1 := by omega
    obtain ⟨j, hjj⟩ : ∃ j, K - 1 - (t + 1) = j := ⟨_, rfl⟩
    simp only [hj, hjj] at h1 hi2 ⊢
    simp only [hjj] at hi
    have hst := gd_step (n := n) (ring := ring) (h := h) (K := K) (i := j) (by omega)
    have hstep : a[j + 1] ≤ a[j] + (2 * h + 1) := by
      rcases Nat.lt_or_ge (a[j] + (2 * h + 1)) a[j + 1] with h' | h'
      · exfalso
        have hxn := hn _ (List.getElem_mem hi2)
        obtain ⟨q, hq, hg⟩ := hc (a[j] + h + 1) (by omega)
        have hqn := hn q hq
        have hno : ¬ (a[j] < q ∧ q < a[j + 1]) := by
          rintro ⟨e1, e2⟩
          obtain ⟨i, hi', e3, rfl⟩ := pos_get hs hq hi e1
          rcases Nat.eq_or_lt_of_le (show j + 1 ≤ i by omega) with e4 | e4
          · subst e4; omega
          · have := List.pairwise_iff_getElem.1 hs (j + 1) i hi2 hi' e4
            omega
        obtain ⟨x, hx⟩ : ∃ x, a[j] = x := ⟨_, rfl⟩
        obtain ⟨y, hy⟩ : ∃ y, a[j + 1] = y := ⟨_, rfl⟩
        rw [hx] at h' hg hno
        rw [hy] at h' hxn hno
        unfold gapM at hg
        cases ring
        · simp at hg; omega
        · simp at hg; omega
      · exact h'
    have hgd : gdM n ring h K j + (2 * h + 1) ≤ gdM n ring h K (j + 1) ∨ gdM n ring h K j = 0 := by
      unfold gdM
      rw [step_sub (R := 2 * h + 1) (K := K) (i := j) (by omega)]
      omega
    omega
end Go.Proofs.Ytoedcklgpmhnnaa
