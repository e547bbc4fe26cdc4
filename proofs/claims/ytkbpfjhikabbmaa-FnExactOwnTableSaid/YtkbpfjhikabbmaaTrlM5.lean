/- Chapter 5: who has a seat, and trails: mathematics. Plain lemmas. -/
import Derived.Test.YtkbpfjhikabbmaaChM5
import Derived.Test.YtkbpfjhikabbmaaOrderM
namespace Go.Proofs.Ytkbpfjhikabbmaa

/-- the traveler who has a seat -/
def whoM (xs : List Int) (s : Nat) : Nat := xs.idxOf (s : Int)
theorem who_is {xs : List Int} {s : Nat} (h : (s : Int) ∈ xs) : whoM xs s < xs.length ∧ xs[whoM xs s]?.getD 0 = (s : Int) ∧ ∀ j, j < whoM xs s → ¬ xs[j]?.getD 0 = (s : Int) := by
  have h1 : xs.idxOf (s : Int) < xs.length := List.idxOf_lt_length_iff.2 h
  refine ⟨h1, ?_, ?_⟩
  · unfold whoM
    rw [List.getElem?_eq_getElem h1]
    exact List.getElem_idxOf h1
  · intro j hj e
    have hjl : j < xs.length := Nat.lt_trans hj h1
    rw [List.getElem?_eq_getElem hjl] at e
    have hm : (s : Int) ∈ xs.take (j + 1) := by
      rw [List.take_succ_eq_append_getElem hjl, List.mem_append]
      right
      simp at e
      simp [e]
    have h2 : (xs.take (j + 1)).idxOf (s : Int) < j + 1 := by
      have := List.idxOf_lt_length_iff.2 hm
      rw [List.length_take] at this
      omega
    have h3 : xs.idxOf (s : Int) = (xs.take (j + 1)).idxOf (s : Int) := by
      conv => lhs; rw [← List.take_append_drop (j + 1) xs]
      rw [List.idxOf_append, if_pos hm]
    unfold whoM at hj
    omega
theorem who_take {xs : List Int} {s i : Nat} (h : (s : Int) ∈ xs.take i) : whoM xs s < i := by
  have h2 : (xs.take i).idxOf (s : Int) < i := by
    have := List.idxOf_lt_length_iff.2 h
    rw [List.length_take] at this
    omega
  have h3 : xs.idxOf (s : Int) = (xs.take i).idxOf (s : Int) := by
    conv => lhs; rw [← List.take_append_drop i xs]
    rw [List.idxOf_append, if_pos h]
  unfold whoM
  omega

/-- a choice is a seat, and one that nobody has -/
theorem cho_mem {n k : Nat} {xs : List Int} {x : Int} (h : x ∈ ints (choM n k xs)) (hl : xs.length < n) : x ∉ xs ∧ ∃ s : Nat, x = s ∧ s < n := by
  unfold choM at h
  split at h
  · rename_i hc
    simp only [ints, List.map_cons, List.map_nil, List.mem_singleton] at h
    subst h
    exact ⟨hc.2, _, rfl, hl⟩
  · obtain ⟨s, rfl, h1, h2⟩ := mem_ints_tk.1 h
    unfold choS at h2
    exact ⟨by simpa using h2, s, rfl, h1⟩
theorem poss_at {n k : Nat} {xs : List Int} {m j : Nat} (h : possM n k xs m = true) (hj : j < m) : xs[j]?.getD 0 ∈ ints (choM n k (xs.take j)) := by
  have := possM_mono (i := j + 1) h hj
  rw [possM_succ, Bool.and_eq_true] at this
  exact of_decide_eq_true this.2
/-- seats of a possible seating are seats, and no two travelers have the same -/
theorem poss_seat {n k : Nat} {xs : List Int} (h : possM n k xs n = true) (hl : xs.length = n) {j : Nat} (hj : j < n) : ∃ s : Nat, xs[j]?.getD 0 = s ∧ s < n ∧ (s : Int) ∉ xs.take j := by
  obtain ⟨h1, s, h2, h3⟩ := cho_mem (poss_at h hj) (by rw [List.length_take]; omega)
  exact ⟨s, h2, h3, by rw [← h2]; exact h1⟩
/-- who has the pass and not the own seat: another one had it before -/
theorem poss_before {n k : Nat} {xs : List Int} (h : possM n k xs n = true) (hl : xs.length = n) {j : Nat} (hj : j < n) (hk : k ≤ j) (hne : ¬ xs[j]?.getD 0 = (j : Int)) : (j : Int) ∈ xs.take j := by
  refine Classical.byContradiction fun hc => hne ?_
  have := poss_at h hj
  have htl : (xs.take j).length = j := by rw [List.length_take]; omega
  unfold choM at this
  rw [htl, if_pos ⟨hk, hc⟩] at this
  simpa [ints] using this

theorem poss_nodup {n k : Nat} {xs : List Int} (h : possM n k xs n = true) (hl : xs.length = n) : xs.Nodup := by
  rw [List.nodup_iff_pairwise_ne, List.pairwise_iff_getElem]
  intro i j hi hj hij e
  obtain ⟨s, h1, h2, h3⟩ := poss_seat h hl (j := j) (by omega)
  rw [List.getElem?_eq_getElem hj] at h1
  simp only [Option.getD_some] at h1
  apply h3
  rw [← h1, ← e, List.mem_take_iff_getElem]
  exact ⟨i, by omega, rfl⟩

/-- n different seats below n are all seats -/
theorem all_seats {n : Nat} {xs : List Int} (hl : xs.length = n) (hd : xs.Nodup) (hs : ∀ x ∈ xs, ∃ s : Nat, x = s ∧ s < n) {s : Nat} (h : s < n) : (s : Int) ∈ xs := by
  have hp := List.mergeSort_perm xs (fun a b => decide (a ≤ b))
  have hso : (xs.mergeSort (fun a b => decide (a ≤ b))).Pairwise (· ≤ ·) := by
    have := List.pairwise_mergeSort (le := fun (a b : Int) => decide (a ≤ b)) (by intro a b c; simp; omega) (by intro a b; simp; omega) xs
    exact this.imp (by intro a b; simp)
  obtain ⟨ss, hss⟩ : ∃ ss, xs.mergeSort (fun a b => decide (a ≤ b)) = ss := ⟨_, rfl⟩
  rw [hss] at hp hso
  have hsl : ss.length = n := by rw [hp.length_eq, hl]
  have hsd : ss.Nodup := hp.nodup_iff.2 hd
  have hr : ∀ x ∈ ss, ∃ s : Nat, x = s ∧ s < n := fun x hx => hs x (hp.mem_iff.1 hx)
  have key := mono_id (n := n) (f := fun v => (ss[v]?.getD 0).toNat) (by
    intro v hv
    obtain ⟨s', e1, e2⟩ := hr ss[v] (List.getElem_mem (by omega))
    rw [List.getElem?_eq_getElem (by omega)]
    simp only [Option.getD_some, e1]
    omega) (by
    intro u v huv hv
    have h1 := List.pairwise_iff_getElem.1 hso u v (by omega) (by omega) huv
    have h2 : ss[u]'(by omega) ≠ ss[v]'(by omega) := by
      rw [List.nodup_iff_pairwise_ne, List.pairwise_iff_getElem] at hsd
      exact hsd u v (by omega) (by omega) huv
    obtain ⟨a, e1, _⟩ := hr (ss[u]'(by omega)) (List.getElem_mem (by omega))
    obtain ⟨b, e2, _⟩ := hr (ss[v]'(by omega)) (List.getElem_mem (by omega))
    rw [List.getElem?_eq_getElem (by omega), List.getElem?_eq_getElem (by omega)]
    simp only [Option.getD_some]
    rw [e1, e2] at h1 h2
    rw [e1, e2]
    omega)
  have hk : (ss[s]?.getD 0).toNat = s := key s h
  obtain ⟨a, e1, _⟩ := hr (ss[s]'(by omega)) (List.getElem_mem (by omega))
  rw [List.getElem?_eq_getElem (by omega)] at hk
  simp only [Option.getD_some, e1] at hk
  have : ss[s]'(by omega) = (s : Int) := by rw [e1]; omega
  rw [← this]
  exact hp.mem_iff.1 (List.getElem_mem _)
theorem poss_all {n k : Nat} {xs : List Int} (h : possM n k xs n = true) (hl : xs.length = n) {s : Nat} (hs : s < n) : (s : Int) ∈ xs := by
  refine all_seats hl (poss_nodup h hl) ?_ hs
  intro x hx
  obtain ⟨j, hj, e⟩ := List.getElem_of_mem hx
  obtain ⟨s', h1, h2, _⟩ := poss_seat h hl (j := j) (by omega)
  rw [List.getElem?_eq_getElem hj] at h1
  simp only [Option.getD_some, e] at h1
  exact ⟨s', h1, h2⟩

/-- a traveler's trail, who has the seat of the last one -/
def trlM (xs : List Int) (k : Nat) : Nat → Nat → List Nat
  | 0, i => [i]
  | f + 1, i => if i < k ∨ xs[i]?.getD 0 = (i : Int) then [i] else i :: trlM xs k f (whoM xs i)
end Go.Proofs.Ytkbpfjhikabbmaa
