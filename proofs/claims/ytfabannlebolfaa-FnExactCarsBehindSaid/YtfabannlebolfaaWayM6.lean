/- Chapter 6, impl side: mathematics of the way of a car. Plain lemmas. -/
import Derived.Test.YtfabannlebolfaaPrkM6
namespace Go.Proofs.Ytfabannlebolfaa

theorem find_cut {m m' : Nat} {f g : Nat → Bool} (hm : m ≤ m') (h1 : ∀ j, j < m → f j = g j) (h2 : ∀ j, m ≤ j → j < m' → g j = false) : (List.range m).find? f = (List.range m').find? g := by
  cases h : (List.range m).find? f with
  | none =>
    symm
    refine find_none fun j hj => ?_
    by_cases hjm : j < m
    · rw [List.find?_eq_none] at h
      have := h j (List.mem_range.2 hjm)
      rw [h1 j hjm] at this
      simpa using this
    · exact h2 j (by omega) hj
  | some k =>
    symm
    rw [List.find?_range_eq_some] at h
    obtain ⟨h3, h4, h5⟩ := h
    rw [List.mem_range] at h4
    refine find_some (by omega) (by rw [← h1 k h4]; exact h3) fun j hj => ?_
    have := h5 j hj
    rw [h1 j (by omega)] at this
    simpa using this

/-- one step back, one step ahead -/
def backM (n a i : Nat) : Nat := (a + n - 1 - i) % n
def aheadM (n a i : Nat) : Nat := (a + 1 + i) % n
/-- the own seat, the first t seats back -/
def way1 (n a t : Nat) : List Nat := a :: (List.range t).map (backM n a)
/-- and the first u seats ahead -/
def way2 (n a t u : Nat) : List Nat := way1 n a t ++ (List.range u).map (aheadM n a)
/-- how many seats lie behind and ahead -/
def bhN (n : Nat) (ring : Bool) (a : Nat) : Nat := if ring then n - 1 else a
def ahN (n : Nat) (ring : Bool) (a : Nat) : Nat := if ring then n - 1 else n - 1 - a
def wayM (n : Nat) (ring : Bool) (a k : Nat) : List Nat := way2 n a (min k (bhN n ring a)) (ahN n ring a)
theorem way1_succ (n a t : Nat) : way1 n a (t + 1) = way1 n a t ++ [backM n a t] := by
  unfold way1
  rw [List.range_succ, List.map_append]; rfl
theorem way2_succ (n a t u : Nat) : way2 n a t (u + 1) = way2 n a t u ++ [aheadM n a u] := by
  unfold way2
  rw [List.range_succ, List.map_append, List.append_assoc]; rfl
theorem way2_zero (n a t : Nat) : way2 n a t 0 = way1 n a t := by unfold way2; simp
theorem way1_len (n a t : Nat) : (way1 n a t).length = t + 1 := by unfold way1; simp
theorem way2_len (n a t u : Nat) : (way2 n a t u).length = t + 1 + u := by unfold way2; rw [List.length_append, way1_len]; simp
theorem way_len (n : Nat) (ring : Bool) (a k : Nat) (h : a < n) : (wayM n ring a k).length ≤ 2 * n := by
  unfold wayM
  rw [way2_len]
  unfold bhN ahN
  cases ring <;> simp <;> omega
theorem way_pos (n : Nat) (ring : Bool) (a k : Nat) : 0 < (wayM n ring a k).length := by unfold wayM; rw [way2_len]; omega
theorem way_lt {n : Nat} {ring : Bool} {a k : Nat} (h : a < n) : ∀ x ∈ wayM n ring a k, x < n := by
  intro x hx
  unfold wayM way2 way1 at hx
  simp only [List.mem_append, List.mem_cons, List.mem_map, List.mem_range] at hx
  rcases hx with (rfl | ⟨i, _, rfl⟩) | ⟨i, _, rfl⟩
  · exact h
  · exact Nat.mod_lt _ (by omega)
  · exact Nat.mod_lt _ (by omega)

theorem way_find {n : Nat} {ring : Bool} {S : Nat → Bool} {a k : Nat} (ha : a < n) : (wayM n ring a k).find? (fun q => !S q) = bckM n ring S a k := by
  cases hS : S a with
  | false =>
    rw [bck_free hS]
    unfold wayM way2 way1
    rw [List.cons_append, List.find?_cons_of_pos (by simp [hS])]
  | true =>
    have eA : ((List.range (ahN n ring a)).map (aheadM n a)).find? (fun q => !S q) = ahdM n ring S a := by
      unfold ahdM
      obtain ⟨m, rfl⟩ : ∃ m, n = m + 1 := ⟨n - 1, by omega⟩
      rw [List.range_succ_eq_map, List.find?_cons_of_neg (by unfold ahdP; rw [Nat.add_zero, Nat.mod_eq_of_lt ha, hS]; simp), List.find?_map, List.find?_map, Option.map_map]
      have e1 : (List.range (ahN (m + 1) ring a)).find? ((fun q => !S q) ∘ aheadM (m + 1) a) = (List.range m).find? (ahdP (m + 1) ring S a ∘ Nat.succ) := by
        refine find_cut ?_ ?_ ?_
        · unfold ahN; cases ring <;> simp
        · intro j hj
          show (!S ((a + 1 + j) % (m + 1))) = ((ring || decide (a + (j + 1) < m + 1)) && !S ((a + (j + 1)) % (m + 1)))
          have : (ring || decide (a + (j + 1) < m + 1)) = true := by
            cases ring with
            | true => rfl
            | false =>
              have : j < m + 1 - 1 - a := hj
              simp; omega
          rw [this, Bool.true_and, show a + 1 + j = a + (j + 1) by omega]
        · intro j hj hjm
          show ((ring || decide (a + (j + 1) < m + 1)) && !S ((a + (j + 1)) % (m + 1))) = false
          cases ring with
          | true => have : m + 1 - 1 ≤ j := hj; omega
          | false =>
            have : m + 1 - 1 - a ≤ j := hj
            rw [decide_eq_false (by omega)]; rfl
      rw [e1]
      congr 1
      funext i
      show (a + 1 + i) % (m + 1) = (a + (i + 1)) % (m + 1)
      rw [show a + 1 + i = a + (i + 1) by omega]
    have eB : (List.range (min k (bhN n ring a))).find? ((fun q => !S q) ∘ backM n a) = (List.range (min k (n - 1))).find? (bckP n ring S a) := by
      refine find_cut ?_ ?_ ?_
      · unfold bhN; cases ring <;> simp <;> omega
      · intro j hj
        show (!S ((a + n - 1 - j) % n)) = ((ring || decide (j + 1 ≤ a)) && !S ((a + n - (j + 1)) % n))
        have : (ring || decide (j + 1 ≤ a)) = true := by
          cases ring with
          | true => rfl
          | false =>
            have : j < min k a := hj
            simp; omega
        rw [this, Bool.true_and, show a + n - 1 - j = a + n - (j + 1) by omega]
      · intro j hj hjm
        show ((ring || decide (j + 1 ≤ a)) && !S ((a + n - (j + 1)) % n)) = false
        cases ring with
        | true => have : min k (n - 1) ≤ j := hj; omega
        | false =>
          have : min k a ≤ j := hj
          rw [decide_eq_false (by omega)]; rfl
    unfold wayM way2 way1
    rw [List.cons_append, List.find?_cons_of_neg (by simp [hS]), List.find?_append, eA, List.find?_map, eB]
    unfold bckM
    rw [if_neg (by rw [hS]; simp)]
    cases hf : (List.range (min k (n - 1))).find? (bckP n ring S a) with
    | none => rfl
    | some j =>
      show some (backM n a j) = some ((a + n - (j + 1)) % n)
      unfold backM
      rw [show a + n - 1 - j = a + n - (j + 1) by omega]

theorem find_at {W : List Nat} {f : Nat → Bool} {j : Nat} (hj : j < W.length) (h1 : f (W[j]?.getD 0) = true) (h0 : ∀ i, i < j → f (W[i]?.getD 0) = false) : W.find? f = some (W[j]?.getD 0) := by
  induction W generalizing j with
  | nil => simp at hj
  | cons x W ih =>
    cases j with
    | zero => simp at h1; simp [h1]
    | succ j =>
      have hx := h0 0 (by omega)
      simp at hx
      rw [List.find?_cons_of_neg (by simp [hx])]
      have := ih (j := j) (by simpa using hj) (by simpa using h1) (fun i hi => by simpa using h0 (i + 1) (by omega))
      simpa using this
theorem find_no {W : List Nat} {f : Nat → Bool} (h0 : ∀ i, i < W.length → f (W[i]?.getD 0) = false) : W.find? f = none := by
  rw [List.find?_eq_none]
  intro x hx
  obtain ⟨i, hi, rfl⟩ := List.getElem_of_mem hx
  have := h0 i hi
  rw [List.getElem?_eq_getElem hi] at this
  simpa using this

/-- a seat put among the taken ones: where it goes -/
def cntLt (l : List Int) (x : Int) : Nat := l.countP (· < x)
theorem put_at {n q : Nat} {S : Nat → Bool} (hq : q < n) (h : S q = false) : ints (tk n (putO S (some q))) = (ints (tk n S)).take (cntLt (ints (tk n S)) q) ++ (q : Int) :: (ints (tk n S)).drop (cntLt (ints (tk n S)) q) := by
  have e1 : ∀ m, m ≤ n → m ≤ q → tk m (putO S (some q)) = tk m S := by
    intro m _ hm
    refine tk_congr fun k hk => ?_
    show (S k || decide (k = q)) = S k
    rw [decide_eq_false (by omega), Bool.or_false]
  obtain ⟨A, hA⟩ : ∃ A, tk q S = A := ⟨_, rfl⟩
  have key : ∀ d, q + 1 + d ≤ n → ∃ B, tk (q + 1 + d) S = A ++ B ∧ tk (q + 1 + d) (putO S (some q)) = A ++ q :: B ∧ (∀ x ∈ B, q < x) := by
    intro d
    induction d with
    | zero =>
      intro _
      refine ⟨[], ?_, ?_, by simp⟩
      · rw [Nat.add_zero, tk_succ, h, hA]; simp
      · rw [Nat.add_zero, tk_succ, e1 q (by omega) (Nat.le_refl _), hA]
        have : putO S (some q) q = true := by show (S q || decide (q = q)) = true; simp
        rw [this]; simp
    | succ d ih =>
      intro hd
      obtain ⟨B, h1, h2, h3⟩ := ih (by omega)
      have e : q + 1 + (d + 1) = (q + 1 + d) + 1 := by omega
      have e2 : putO S (some q) (q + 1 + d) = S (q + 1 + d) := by
        show (S _ || decide (q + 1 + d = q)) = _
        rw [decide_eq_false (by omega), Bool.or_false]
      refine ⟨B ++ (if S (q + 1 + d) then [q + 1 + d] else []), ?_, ?_, ?_⟩
      · rw [e, tk_succ, h1]; simp
      · rw [e, tk_succ, h2, e2]; simp
      · intro x hx
        rcases List.mem_append.1 hx with hx | hx
        · exact h3 x hx
        · split at hx
          · simp at hx; omega
          · simp at hx
  obtain ⟨B, h1, h2, h3⟩ := key (n - (q + 1)) (by omega)
  rw [show q + 1 + (n - (q + 1)) = n by omega] at h1 h2
  have hlA : ∀ x ∈ A, x < q := by
    intro x hx
    rw [← hA, mem_tk] at hx
    exact hx.1
  have hc : cntLt (ints (A ++ B)) q = (ints A).length := by
    unfold cntLt ints
    rw [List.map_append, List.countP_append]
    have a1 : (A.map fun (k : Nat) => (k : Int)).countP (fun x => decide (x < (q : Int))) = (A.map fun (k : Nat) => (k : Int)).length := by
      rw [List.countP_eq_length]
      intro x hx
      obtain ⟨k, hk, rfl⟩ := List.mem_map.1 hx
      have := hlA k hk
      simp; omega
    have a2 : (B.map fun (k : Nat) => (k : Int)).countP (fun x => decide (x < (q : Int))) = 0 := by
      rw [List.countP_eq_zero]
      intro x hx
      obtain ⟨k, hk, rfl⟩ := List.mem_map.1 hx
      have := h3 k hk
      simp; omega
    rw [a1, a2, Nat.add_zero]
  rw [h1, h2, hc]
  unfold ints
  rw [List.map_append, List.map_append, List.take_left, List.drop_left]
  rfl
theorem cnt_le (l : List Int) (x : Int) : cntLt l x ≤ l.length := List.countP_le_length
/-- there is room for a free seat -/
theorem tk_room {n q : Nat} {S : Nat → Bool} (hq : q < n) (h : S q = false) : (tk n S).length + 1 ≤ n := by
  have e := put_at hq h
  have h1 := congrArg List.length e
  rw [ints_length, List.length_append, List.length_cons, List.length_take, List.length_drop, ints_length] at h1
  have h2 := tk_length_le n (putO S (some q))
  omega
theorem tk_int_sorted (n : Nat) (S : Nat → Bool) : (ints (tk n S)).Pairwise (· ≤ ·) := by
  unfold ints
  rw [List.pairwise_map]
  exact (tk_sorted n S).imp (fun h => by omega)
end Go.Proofs.Ytfabannlebolfaa
