/- Placings of groups on a line: mathematics. Plain lemmas: no function of the program. -/
import Derived.Test.YtoedcklgpmhnnaaRowMath
namespace Go.Proofs.Ytoedcklgpmhnnaa

/-- a line, groups and a distance are valid -/
def pvB (s : Int) (ring : Bool) (xs gs : List Int) (d : Int) : Bool :=
  gs.all (fun g => decide (1 ≤ g)) && (rowB s ring xs && (!ring && ((decide ((1 : Int) ≤ (gs.length : Int)) && decide ((gs.length : Int) ≤ 5)) && decide (0 ≤ d))))
theorem pvB_is {s : Int} {ring : Bool} {xs gs : List Int} {d : Int} (h : pvB s ring xs gs d = true) :
    (∀ g ∈ gs, 1 ≤ g) ∧ rowB s ring xs = true ∧ ring = false ∧ 1 ≤ gs.length ∧ gs.length ≤ 5 ∧ 0 ≤ d := by
  unfold pvB at h
  simp only [Bool.and_eq_true, List.all_eq_true, decide_eq_true_eq, Bool.not_eq_true'] at h
  exact ⟨h.1, h.2.1, h.2.2.1, by omega, by omega, h.2.2.2.2⟩

/-- a seat that is too near to a group -/
def nrB (d p size q : Int) : Bool := decide (p - q ≤ d) && decide (q - (p + size - 1) ≤ d)
/-- a group can sit from p on -/
def fitG (n : Nat) (S : Nat → Bool) (d size p : Int) : Bool := decide (0 ≤ p) && (decide (size ≤ (n : Int) - p) && (List.range n).all fun q => !(S q && nrB d p size (q : Int)))
theorem fitG_true {n : Nat} {S : Nat → Bool} {d size p : Int} : fitG n S d size p = true ↔ 0 ≤ p ∧ size ≤ (n : Int) - p ∧ ∀ q, q < n → S q = true → ¬ (p - (q : Int) ≤ d ∧ (q : Int) - (p + size - 1) ≤ d) := by
  unfold fitG nrB
  simp only [Bool.and_eq_true, decide_eq_true_eq, List.all_eq_true, List.mem_range, Bool.not_eq_true', Bool.and_eq_false_iff, decide_eq_false_iff_not]
  constructor
  · rintro ⟨h1, h2, h3⟩
    refine ⟨h1, h2, fun q hq hS hn => ?_⟩
    rcases h3 q hq with h | h | h
    · rw [hS] at h; cases h
    · omega
    · omega
  · rintro ⟨h1, h2, h3⟩
    refine ⟨h1, h2, fun q hq => ?_⟩
    cases hS : S q with
    | false => exact .inl rfl
    | true =>
      have := h3 q hq hS
      by_cases h : p - (q : Int) ≤ d
      · right; right; omega
      · right; left; exact h
theorem fitG_congr {n : Nat} {S T : Nat → Bool} {d size p : Int} (h : ∀ q, q < n → S q = T q) : fitG n S d size p = fitG n T d size p := by
  unfold fitG
  have e : ((List.range n).all fun q => !(S q && nrB d p size (q : Int))) = ((List.range n).all fun q => !(T q && nrB d p size (q : Int))) := by
    rw [Bool.eq_iff_iff, List.all_eq_true, List.all_eq_true]
    constructor
    · intro h2 q hq
      rw [← h q (by simpa using hq)]; exact h2 q hq
    · intro h2 q hq
      rw [h q (by simpa using hq)]; exact h2 q hq
  rw [e]
/-- the group j sits on q -/
def grpAt (gs ps : List Int) (j q : Nat) : Bool := decide (ps[j]?.getD 0 ≤ (q : Int)) && decide ((q : Int) < ps[j]?.getD 0 + gs[j]?.getD 0)
/-- the seats that are taken when the first groups sit -/
def seatedM (S : Nat → Bool) (gs ps : List Int) (i q : Nat) : Bool := S q || (List.range i).any fun j => grpAt gs ps j q
theorem seatedM_zero (S : Nat → Bool) (gs ps : List Int) : seatedM S gs ps 0 = S := by
  funext q; simp [seatedM]
theorem seatedM_succ (S : Nat → Bool) (gs ps : List Int) (i q : Nat) : seatedM S gs ps (i + 1) q = (seatedM S gs ps i q || grpAt gs ps i q) := by
  unfold seatedM
  rw [List.range_succ, List.any_append, Bool.or_assoc]
  simp
theorem seatedM_take {S : Nat → Bool} {gs ps : List Int} {i : Nat} (q : Nat) : seatedM S gs (ps.take i) i q = seatedM S gs ps i q := by
  unfold seatedM
  congr 1
  rw [Bool.eq_iff_iff, List.any_eq_true, List.any_eq_true]
  constructor
  · rintro ⟨j, hj, h⟩
    refine ⟨j, hj, ?_⟩
    have : j < i := by simpa using hj
    unfold grpAt at *
    rwa [List.getElem?_take_of_lt this] at h
  · rintro ⟨j, hj, h⟩
    refine ⟨j, hj, ?_⟩
    have : j < i := by simpa using hj
    unfold grpAt at *
    rwa [List.getElem?_take_of_lt this]
/-- two groups are too near -/
def ovB (D p size a b : Int) : Bool := decide (a ≤ p + size - 1 + D) && decide (p ≤ a + b - 1 + D)
/-- a taken seat is too near -/
def ntB (D p size q : Int) : Bool := decide (p - D ≤ q) && decide (q ≤ p + size - 1 + D)
/-- as the specification asks it: the taken seats, then the groups that sit -/
theorem fit_split {n : Nat} {S : Nat → Bool} {d D size p : Int} {gs ps : List Int} {i : Nat} (hd : 0 ≤ d) (hD : D = if d < (n : Int) then d else (n : Int)) (h0 : 0 ≤ p) (h1 : size ≤ (n : Int) - p) (hz : 1 ≤ size)
    (hv : ∀ j, j < i → 0 ≤ ps[j]?.getD 0 ∧ ps[j]?.getD 0 + gs[j]?.getD 0 ≤ (n : Int) ∧ 1 ≤ gs[j]?.getD 0) :
    fitG n (seatedM S gs ps i) d size p = ((tk n S).all (fun t => !ntB D p size (t : Int)) && (List.range i).all (fun j => !ovB D p size (ps[j]?.getD 0) (gs[j]?.getD 0))) := by
  rw [Bool.eq_iff_iff, fitG_true]
  simp only [Bool.and_eq_true, List.all_eq_true, Bool.not_eq_true', List.mem_range]
  constructor
  · rintro ⟨_, _, h⟩
    refine ⟨fun t ht => ?_, fun j hj => ?_⟩
    · obtain ⟨ht1, ht2⟩ := mem_tk.1 ht
      have := h t ht1 (by unfold seatedM; rw [ht2]; rfl)
      unfold ntB
      by_cases hc : p - D ≤ (t : Int) ∧ (t : Int) ≤ p + size - 1 + D
      · exfalso
        apply this
        by_cases hdn : d < (n : Int)
        · rw [if_pos hdn] at hD; omega
        · omega
      · by_cases hc1 : p - D ≤ (t : Int)
        · have : ¬ (t : Int) ≤ p + size - 1 + D := fun hc2 => hc ⟨hc1, hc2⟩
          simp [this]
        · simp [hc1]
    · obtain ⟨v1, v2, v3⟩ := hv j hj
      unfold ovB
      obtain ⟨a, ha⟩ : ∃ a, ps[j]?.getD 0 = a := ⟨_, rfl⟩
      obtain ⟨b, hb⟩ : ∃ b, gs[j]?.getD 0 = b := ⟨_, rfl⟩
      rw [ha] at v1 v2 ⊢
      rw [hb] at v2 v3 ⊢
      by_cases hc : a ≤ p + size - 1 + D ∧ p ≤ a + b - 1 + D
      · exfalso
        have hD0 : 0 ≤ D := by
          by_cases hdn : d < (n : Int)
          · rw [if_pos hdn] at hD; omega
          · rw [if_neg hdn] at hD; omega
        have hDd : D ≤ d := by
          by_cases hdn : d < (n : Int)
          · rw [if_pos hdn] at hD; omega
          · rw [if_neg hdn] at hD; omega
        obtain ⟨q, hq⟩ : ∃ q : Int, (a ≤ q ∧ q ≤ a + b - 1) ∧ p - q ≤ D ∧ q - (p + size - 1) ≤ D := by
          by_cases hc3 : p - D ≤ a
          · exact ⟨a, by omega⟩
          · exact ⟨p - D, by omega⟩
        obtain ⟨Q, rfl⟩ : ∃ Q : Nat, q = Q := ⟨q.toNat, by omega⟩
        refine h Q (by omega) ?_ (by omega)
        unfold seatedM
        rw [Bool.or_eq_true, List.any_eq_true]
        refine .inr ⟨j, by simpa using hj, ?_⟩
        unfold grpAt
        rw [ha, hb]
        simp only [Bool.and_eq_true, decide_eq_true_eq]
        omega
      · by_cases hc1 : a ≤ p + size - 1 + D
        · have : ¬ p ≤ a + b - 1 + D := fun hc2 => hc ⟨hc1, hc2⟩
          simp [this]
        · simp [hc1]
  · rintro ⟨h2, h3⟩
    refine ⟨h0, h1, fun q hq hS hn => ?_⟩
    unfold seatedM at hS
    rw [Bool.or_eq_true, List.any_eq_true] at hS
    have hDc : D = d ∨ (D = (n : Int) ∧ (n : Int) ≤ d) := by
      by_cases hdn : d < (n : Int)
      · rw [if_pos hdn] at hD; exact .inl hD
      · rw [if_neg hdn] at hD; exact .inr ⟨hD, by omega⟩
    rcases hS with hS | ⟨j, hj, hg⟩
    · have := h2 q (mem_tk.2 ⟨hq, hS⟩)
      unfold ntB at this
      rw [Bool.and_eq_false_iff, decide_eq_false_iff_not, decide_eq_false_iff_not] at this
      omega
    · have hj' : j < i := by simpa using hj
      obtain ⟨v1, v2, v3⟩ := hv j hj'
      have := h3 j hj'
      unfold ovB at this
      unfold grpAt at hg
      rw [Bool.and_eq_false_iff, decide_eq_false_iff_not, decide_eq_false_iff_not] at this
      simp only [Bool.and_eq_true, decide_eq_true_eq] at hg
      omega
/-- the first i groups can sit, one after the other -/
def plcUp (n : Nat) (S : Nat → Bool) (d : Int) (gs ps : List Int) (i : Nat) : Bool := (List.range i).all fun j => fitG n (seatedM S gs ps j) d (gs[j]?.getD 0) (ps[j]?.getD 0)
theorem plcUp_succ (n : Nat) (S : Nat → Bool) (d : Int) (gs ps : List Int) (i : Nat) : plcUp n S d gs ps (i + 1) = (plcUp n S d gs ps i && fitG n (seatedM S gs ps i) d (gs[i]?.getD 0) (ps[i]?.getD 0)) := by
  unfold plcUp
  rw [List.range_succ, List.all_append]
  simp
theorem plcUp_is {n : Nat} {S : Nat → Bool} {d : Int} {gs ps : List Int} {i : Nat} (h : plcUp n S d gs ps i = true) {j : Nat} (hj : j < i) : fitG n (seatedM S gs ps j) d (gs[j]?.getD 0) (ps[j]?.getD 0) = true := by
  unfold plcUp at h
  rw [List.all_eq_true] at h
  exact h j (by simpa using hj)
theorem plcUp_false {n : Nat} {S : Nat → Bool} {d : Int} {gs ps : List Int} {i j : Nat} (hj : j < i) (h : fitG n (seatedM S gs ps j) d (gs[j]?.getD 0) (ps[j]?.getD 0) = false) : plcUp n S d gs ps i = false := by
  unfold plcUp
  rw [List.all_eq_false]
  exact ⟨j, by simpa using hj, by rw [h]; simp⟩
/-- a placing -/
def plgB (n : Nat) (S : Nat → Bool) (d : Int) (gs ps : List Int) : Bool := decide (ps.length = gs.length) && plcUp n S d gs ps gs.length
end Go.Proofs.Ytoedcklgpmhnnaa
