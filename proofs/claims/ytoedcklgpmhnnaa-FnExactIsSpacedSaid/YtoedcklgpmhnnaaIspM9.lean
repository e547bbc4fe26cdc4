/- Spaced choices, seat by seat: mathematics. Plain lemmas: no function of the program. -/
import Derived.Test.YtoedcklgpmhnnaaSpcM9
namespace Go.Proofs.Ytoedcklgpmhnnaa

theorem drop_sorted {L : List Nat} (hs : L.Pairwise (· < ·)) {i : Nat} (hi : i < L.length) : L.drop (i + 1) = L.filter fun q => decide (L[i] < q) := by
  have e : L = L.take i ++ L[i] :: L.drop (i + 1) := by
    rw [← List.drop_eq_getElem_cons hi, List.take_append_drop]
  obtain ⟨a, ha⟩ : ∃ a, L[i] = a := ⟨_, rfl⟩
  rw [ha] at e ⊢
  have hs' := hs
  rw [e] at hs'
  rw [List.pairwise_append, List.pairwise_cons] at hs'
  obtain ⟨-, ⟨h2, -⟩, h3⟩ := hs'
  obtain ⟨A, hA⟩ : ∃ A, L.take i = A := ⟨_, rfl⟩
  obtain ⟨B, hB⟩ : ∃ B, L.drop (i + 1) = B := ⟨_, rfl⟩
  rw [hA] at e h3
  rw [hB] at e h2 h3 ⊢
  rw [e, List.filter_append]
  have e1 : A.filter (fun q => decide (a < q)) = [] := by
    rw [List.filter_eq_nil_iff]
    intro x hx
    have := h3 x hx a (by simp)
    simp; omega
  have e2 : (a :: B).filter (fun q => decide (a < q)) = B := by
    have : ¬ a < a := by omega
    rw [List.filter_cons_of_neg (by simp)]
    rw [List.filter_eq_self]
    intro x hx
    exact decide_eq_true (h2 x hx)
  rw [e1, e2]; rfl

/-- the seats that can still be chosen behind some -/
def lfM (n : Nat) (ring : Bool) (S : Nat → Bool) (D : Nat) (cs : List Nat) : List Nat := (opn n ring S D).filter fun q => cs.all fun c => decide (c < q) && decide (D ≤ gapM n ring c q)
theorem lfM_nil (n : Nat) (ring : Bool) (S : Nat → Bool) (D : Nat) : lfM n ring S D [] = opn n ring S D := by
  unfold lfM; simp
theorem lfM_sorted (n : Nat) (ring : Bool) (S : Nat → Bool) (D : Nat) (cs : List Nat) : (lfM n ring S D cs).Pairwise (· < ·) := (opn_sorted n ring S D).filter _
theorem lfM_lt {n : Nat} {ring : Bool} {S : Nat → Bool} {D : Nat} {cs : List Nat} : ∀ y ∈ lfM n ring S D cs, y < n := fun y h => opn_lt y (List.mem_filter.1 h).1
theorem lfM_len {n : Nat} {ring : Bool} {S : Nat → Bool} {D : Nat} {cs : List Nat} : (lfM n ring S D cs).length ≤ n :=
  Nat.le_trans (List.length_filter_le _ _) (tk_length_le n _)
theorem lfM_next {n : Nat} {ring : Bool} {S : Nat → Bool} {D : Nat} {cs : List Nat} {i : Nat} (hi : i < (lfM n ring S D cs).length) : restM n ring D (lfM n ring S D cs)[i] ((lfM n ring S D cs).drop (i + 1)) = lfM n ring S D (cs ++ [(lfM n ring S D cs)[i]]) := by
  rw [drop_sorted (lfM_sorted n ring S D cs) hi]
  obtain ⟨a, ha⟩ : ∃ a, (lfM n ring S D cs)[i] = a := ⟨_, rfl⟩
  rw [ha]
  unfold restM lfM
  rw [List.filter_filter, List.filter_filter]
  apply List.filter_congr
  intro q _
  rw [List.all_append]
  simp only [List.all_cons, List.all_nil, Bool.and_true]
  rw [Bool.and_comm (decide (D ≤ gapM n ring a q)), Bool.and_comm]
theorem lfM_next' {n : Nat} {ring : Bool} {S : Nat → Bool} {D : Nat} {cs : List Nat} {i : Nat} (hi : i < (lfM n ring S D cs).length) : restM n ring D ((lfM n ring S D cs)[i]?.getD 0) ((lfM n ring S D cs).drop (i + 1)) = lfM n ring S D (cs ++ [(lfM n ring S D cs)[i]?.getD 0]) := by
  rw [List.getElem?_eq_getElem hi]
  exact lfM_next hi
theorem mem_lfM {n : Nat} {ring : Bool} {S : Nat → Bool} {D : Nat} {cs : List Nat} {q : Nat} : q ∈ lfM n ring S D cs ↔ q < n ∧ opM n ring S D q = true ∧ ∀ c ∈ cs, c < q ∧ D ≤ gapM n ring c q := by
  unfold lfM opn
  rw [List.mem_filter, mem_tk, List.all_eq_true]
  simp only [Bool.and_eq_true, decide_eq_true_eq]
  exact and_assoc
/-- the seat j of a list may be chosen behind those before it -/
def goodM (n : Nat) (ring : Bool) (S : Nat → Bool) (D : Nat) (ss : List Int) (j : Nat) : Bool := decide (ss[j]?.getD 0 ∈ ints (lfM n ring S D ((ss.take j).map Int.toNat)))
theorem mem_ints {l : List Nat} {x : Int} : x ∈ ints l ↔ ∃ k : Nat, x = k ∧ k ∈ l := by
  unfold ints
  rw [List.mem_map]
  constructor
  · rintro ⟨k, hk, rfl⟩; exact ⟨k, rfl, hk⟩
  · rintro ⟨k, rfl, hk⟩; exact ⟨k, hk, rfl⟩
theorem ints_map (l : List Nat) : (ints l).map Int.toNat = l := by
  unfold ints
  rw [List.map_map]
  conv => rhs; rw [← List.map_id l]
  apply List.map_congr_left
  intro x _
  simp
theorem good_rising {n : Nat} {ring : Bool} {S : Nat → Bool} {D : Nat} {ss : List Int} (h : ∀ j, j < ss.length → goodM n ring S D ss j = true) : rising (-1) n ss = true := by
  have hm : ∀ j, j < ss.length → ∃ k : Nat, ss[j]?.getD 0 = k ∧ k < n ∧ ∀ i, i < j → (ss[i]?.getD 0).toNat < k := by
    intro j hj
    have := h j hj
    unfold goodM at this
    rw [decide_eq_true_eq, mem_ints] at this
    obtain ⟨k, hk, hk2⟩ := this
    obtain ⟨h1, -, h3⟩ := mem_lfM.1 hk2
    refine ⟨k, hk, h1, fun i hi => ?_⟩
    refine (h3 (ss[i]?.getD 0).toNat ?_).1
    rw [List.mem_map]
    refine ⟨ss[i]?.getD 0, ?_, rfl⟩
    rw [List.getElem?_eq_getElem (by omega)]
    exact List.mem_take_iff_getElem.2 ⟨i, by omega, rfl⟩
  apply sorted_rising
  · rw [List.pairwise_iff_getElem]
    intro i j hi hj hij
    obtain ⟨k, h1, h2, h3⟩ := hm j hj
    obtain ⟨k', h1', -, -⟩ := hm i hi
    have := h3 i hij
    rw [h1'] at this
    rw [List.getElem?_eq_getElem hj] at h1
    rw [List.getElem?_eq_getElem hi] at h1'
    simp only [Option.getD_some] at h1 h1'
    rw [h1, h1']
    omega
  · intro x hx
    obtain ⟨j, hj, rfl⟩ := List.getElem_of_mem hx
    obtain ⟨k, h1, h2, -⟩ := hm j hj
    rw [List.getElem?_eq_getElem hj] at h1
    simp only [Option.getD_some] at h1
    rw [h1]
    omega
end Go.Proofs.Ytoedcklgpmhnnaa
