/- Lists that have each number below n once: mathematics. Plain lemmas. -/
import Derived.Test.YtkbpfjhikabbmaaInts
namespace Go.Proofs.Ytkbpfjhikabbmaa

/-- a list has so many numbers, and each number below its length -/
def orderB (s : Int) (xs : List Int) : Bool := decide ((xs.length : Int) = s) && (List.range xs.length).all (fun i => decide ((i : Int) ∈ xs))

theorem mono_id {n : Nat} {f : Nat → Nat} (h1 : ∀ v, v < n → f v < n) (h2 : ∀ u v, u < v → v < n → f u < f v) : ∀ v, v < n → f v = v := by
  have lo : ∀ v, v < n → v ≤ f v := by
    intro v
    induction v with
    | zero => intro _; omega
    | succ v ih => intro hv; have := ih (by omega); have := h2 v (v + 1) (by omega) hv; omega
  have hi : ∀ m v, v + m + 1 = n → f v ≤ v := by
    intro m
    induction m with
    | zero => intro v hv; have := h1 v (by omega); omega
    | succ m ih => intro v hv; have := ih (v + 1) (by omega); have := h2 v (v + 1) (by omega) (by omega); omega
  intro v hv
  have := lo v hv
  have := hi (n - 1 - v) v (by omega)
  omega

/-- a rearrangement in order shows it -/
theorem order_sorted {xs ss : List Int} (hp : ss.Perm xs) (hs : ss.Pairwise (· ≤ ·)) : (∀ i : Nat, i < xs.length → (i : Int) ∈ xs) ↔ ∀ k : Nat, k < xs.length → ss[k]?.getD 0 = (k : Int) := by
  have hl : ss.length = xs.length := hp.length_eq
  constructor
  · intro h
    have hex : ∀ v, ∃ k, v < xs.length → k < xs.length ∧ ss[k]?.getD 0 = (v : Int) := by
      intro v
      by_cases hv : v < xs.length
      · obtain ⟨k, hk, e⟩ := List.getElem_of_mem (hp.mem_iff.2 (h v hv))
        exact ⟨k, fun _ => ⟨by omega, by rw [List.getElem?_eq_getElem hk]; exact e⟩⟩
      · exact ⟨0, fun h' => absurd h' hv⟩
    have hf := fun v => (hex v).choose_spec
    have key := mono_id (n := xs.length) (f := fun v => (hex v).choose) (fun v hv => (hf v hv).1) (by
      intro u v huv hv
      have hu' := hf u (by omega)
      have hv' := hf v hv
      rcases Nat.lt_or_ge (hex u).choose (hex v).choose with h' | h'
      · exact h'
      · rcases Nat.lt_or_eq_of_le h' with h'' | h''
        · have := List.pairwise_iff_getElem.1 hs _ _ (by omega) (by omega) h''
          have e1 := hu'.2
          have e2 := hv'.2
          rw [List.getElem?_eq_getElem (by omega)] at e1 e2
          simp only [Option.getD_some] at e1 e2
          omega
        · have e1 := hu'.2
          have e2 := hv'.2
          rw [h'', e1] at e2
          omega)
    intro k hk
    have := (hf k hk).2
    have hk' : (hex k).choose = k := key k hk
    rw [hk'] at this
    exact this
  · intro h i hi
    have := h i hi
    rw [List.getElem?_eq_getElem (by omega)] at this
    simp only [Option.getD_some] at this
    rw [← this]
    exact hp.mem_iff.1 (List.getElem_mem _)
theorem orderB_true {xs ss : List Int} {s : Int} (hp : ss.Perm xs) (hs : ss.Pairwise (· ≤ ·)) (hl : (xs.length : Int) = s) (h : ∀ k : Nat, k < xs.length → ss[k]?.getD 0 = (k : Int)) : orderB s xs = true := by
  have := (order_sorted hp hs).2 h
  simp [orderB, hl]
  exact this
theorem orderB_false {xs ss : List Int} {s : Int} (hp : ss.Perm xs) (hs : ss.Pairwise (· ≤ ·)) {k : Nat} (hk : k < xs.length) (h : ¬ ss[k]?.getD 0 = (k : Int)) : orderB s xs = false := by
  cases e : orderB s xs with
  | false => rfl
  | true =>
    simp [orderB] at e
    exact absurd ((order_sorted hp hs).1 e.2 k hk) h
/-- .. is a list of the numbers below n -/
theorem orderB_is {n : Nat} {xs : List Int} (h : orderB (n : Int) xs = true) : ∃ l : List Nat, xs = ints l ∧ l.length = n ∧ ∀ x ∈ l, x < n := by
  simp only [orderB, Bool.and_eq_true, decide_eq_true_eq, List.all_eq_true, List.mem_range] at h
  have hl : xs.length = n := by omega
  have hp := List.mergeSort_perm xs (fun a b => decide (a ≤ b))
  have hs : (xs.mergeSort (fun a b => decide (a ≤ b))).Pairwise (· ≤ ·) := by
    have := List.pairwise_mergeSort (le := fun (a b : Int) => decide (a ≤ b)) (by intro a b c; simp; omega) (by intro a b; simp; omega) xs
    exact this.imp (by intro a b; simp)
  have hk := (order_sorted hp hs).1 h.2
  have hm : ∀ x ∈ xs, 0 ≤ x ∧ x < (n : Int) := by
    intro x hx
    obtain ⟨k, hk1, e⟩ := List.getElem_of_mem (hp.mem_iff.2 hx)
    have hkl : k < xs.length := by rw [← hp.length_eq]; exact hk1
    have := hk k hkl
    rw [List.getElem?_eq_getElem hk1] at this
    simp only [Option.getD_some] at this
    omega
  refine ⟨xs.map Int.toNat, ?_, by rw [List.length_map, hl], ?_⟩
  · unfold ints
    rw [List.map_map]
    conv => lhs; rw [← List.map_id xs]
    apply List.map_congr_left
    intro x hx
    have := hm x hx
    simp only [id, Function.comp]
    omega
  · intro x hx
    obtain ⟨y, hy, rfl⟩ := List.mem_map.1 hx
    have := hm y hy
    omega
theorem orderB_swap (n : Nat) (xs : List Int) : orderB (n : Int) xs = ((List.range n).all (fun i => decide ((i : Int) ∈ xs)) && decide ((xs.length : Int) = (n : Int))) := by
  unfold orderB
  by_cases h : (xs.length : Int) = (n : Int)
  · have e : xs.length = n := by omega
    rw [e, Bool.and_comm]
  · rw [decide_eq_false h]; simp
end Go.Proofs.Ytkbpfjhikabbmaa
