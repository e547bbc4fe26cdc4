/- Rows of seats as mathematics: valid Rows, neighbors, runs, nearest seats, touching pairs, Rows that are made. Plain lemmas: no function of the program. -/
import Derived.WalkKit
namespace Go.Proofs.Ytoedcklgpmhnnaa

/-- numbers rise above b and stay below hi -/
def rising (b hi : Int) : List Int → Bool
  | [] => true
  | x :: xs => decide (b < x) && (decide (x < hi) && rising x hi xs)

/-- a Row is valid -/
def rowB (s : Int) (ring : Bool) (xs : List Int) : Bool :=
  decide ((if ring then 3 else 2) ≤ s) && (decide (s ≤ 24) && rising (-1) s xs)

/-- the seats below n with a property, in ascending order -/
def tk (n : Nat) (S : Nat → Bool) : List Nat := (List.range n).filter S
def ints (l : List Nat) : List Int := l.map (fun (k : Nat) => (k : Int))

theorem tk_succ (n : Nat) (S : Nat → Bool) : tk (n + 1) S = tk n S ++ (if S n then [n] else []) := by
  unfold tk
  rw [List.range_succ, List.filter_append]
  congr 1
  by_cases h : S n <;> simp [h]
theorem mem_tk {n : Nat} {S : Nat → Bool} {k : Nat} : k ∈ tk n S ↔ k < n ∧ S k = true := by
  unfold tk; simp
theorem tk_sorted (n : Nat) (S : Nat → Bool) : (tk n S).Pairwise (· < ·) := by
  unfold tk
  exact List.Pairwise.filter _ List.pairwise_lt_range
theorem tk_length_le (n : Nat) (S : Nat → Bool) : (tk n S).length ≤ n := by
  unfold tk
  have := List.length_filter_le S (List.range n)
  simpa using this
theorem tk_congr {n : Nat} {S T : Nat → Bool} (h : ∀ k, k < n → S k = T k) : tk n S = tk n T := by
  unfold tk
  apply List.filter_congr
  intro k hk
  exact h k (by simpa using hk)

theorem sorted_ext : ∀ {a b : List Nat}, a.Pairwise (· < ·) → b.Pairwise (· < ·) → (∀ x, x ∈ a ↔ x ∈ b) → a = b := by
  intro a
  induction a with
  | nil =>
    intro b _ _ h
    cases b with
    | nil => rfl
    | cons y b => exact absurd ((h y).2 (by simp)) (by simp)
  | cons x a ih =>
    intro b ha hb h
    cases b with
    | nil => exact absurd ((h x).1 (by simp)) (by simp)
    | cons y b =>
      rw [List.pairwise_cons] at ha hb
      have e : x = y := by
        have h1 := (h x).1 (by simp)
        have h2 := (h y).2 (by simp)
        rw [List.mem_cons] at h1 h2
        rcases h1 with h1 | h1
        · exact h1
        · rcases h2 with h2 | h2
          · exact h2.symm
          · have := ha.1 y h2; have := hb.1 x h1; omega
      subst e
      congr 1
      refine ih ha.2 hb.2 fun z => ?_
      have hz := h z
      rw [List.mem_cons, List.mem_cons] at hz
      constructor
      · intro hm
        rcases hz.1 (.inr hm) with e | e
        · subst e; have := ha.1 z hm; omega
        · exact e
      · intro hm
        rcases hz.2 (.inr hm) with e | e
        · subst e; have := hb.1 z hm; omega
        · exact e

theorem sorted_tk {a : List Nat} {n : Nat} {S : Nat → Bool} (ha : a.Pairwise (· < ·)) (h : ∀ x, x ∈ a ↔ x < n ∧ S x = true) : a = tk n S :=
  sorted_ext ha (tk_sorted n S) fun x => by rw [h x, mem_tk]

theorem rising_mem : ∀ {xs : List Int} {b hi : Int}, rising b hi xs = true → ∀ x ∈ xs, b < x ∧ x < hi := by
  intro xs
  induction xs with
  | nil => intro b hi _ x hx; cases hx
  | cons y xs ih =>
    intro b hi h x hx
    simp [rising] at h
    rcases List.mem_cons.1 hx with e | e
    · subst e; exact ⟨h.1, h.2.1⟩
    · have := ih h.2.2 x e; exact ⟨by omega, this.2⟩
theorem rising_sorted : ∀ {xs : List Int} {b hi : Int}, rising b hi xs = true → xs.Pairwise (· < ·) := by
  intro xs
  induction xs with
  | nil => intro b hi _; exact .nil
  | cons y xs ih =>
    intro b hi h
    simp [rising] at h
    exact .cons (fun z hz => (rising_mem h.2.2 z hz).1) (ih h.2.2)
theorem sorted_rising : ∀ {xs : List Int} {b hi : Int}, xs.Pairwise (· < ·) → (∀ x ∈ xs, b < x ∧ x < hi) → rising b hi xs = true := by
  intro xs
  induction xs with
  | nil => intro b hi _ _; rfl
  | cons y xs ih =>
    intro b hi h hm
    rw [List.pairwise_cons] at h
    simp only [rising, Bool.and_eq_true, decide_eq_true_eq]
    exact ⟨(hm y (by simp)).1, (hm y (by simp)).2, ih h.2 fun x hx => ⟨h.1 x hx, (hm x (by simp [hx])).2⟩⟩
theorem rising_tk (n : Nat) (S : Nat → Bool) : rising (-1) n (ints (tk n S)) = true := by
  apply sorted_rising
  · unfold ints
    rw [List.pairwise_map]
    exact (tk_sorted n S).imp (fun h => by omega)
  · intro x hx
    unfold ints at hx
    obtain ⟨k, hk, rfl⟩ := List.mem_map.1 hx
    have := (mem_tk.1 hk).1
    omega
theorem rising_is {xs : List Int} {n : Nat} (h : rising (-1) n xs = true) : xs = ints (tk n fun k => decide ((k : Int) ∈ xs)) := by
  have hs := rising_sorted h
  have hm := rising_mem h
  have key : ∀ {xs : List Int}, (∀ x ∈ xs, 0 ≤ x) → xs = ints (xs.map Int.toNat) := by
    intro xs h
    unfold ints
    rw [List.map_map]
    conv => lhs; rw [← List.map_id xs]
    apply List.map_congr_left
    intro x hx
    have := h x hx
    simp only [id, Function.comp]
    omega
  have e := key (xs := xs) (fun x hx => by have := hm x hx; omega)
  have e2 : xs.map Int.toNat = tk n fun k => decide ((k : Int) ∈ xs) := by
    apply sorted_tk
    · rw [List.pairwise_map]
      refine (List.pairwise_iff_forall_sublist.2 ?_)
      intro a b hab
      have h1 := List.pairwise_iff_forall_sublist.1 hs hab
      have ha := hm a (hab.subset (by simp))
      have hb := hm b (hab.subset (by simp))
      omega
    · intro x
      rw [List.mem_map]
      constructor
      · rintro ⟨y, hy, rfl⟩
        have := hm y hy
        have e3 : ((y.toNat : Nat) : Int) = y := by omega
        refine ⟨by omega, ?_⟩
        rw [e3]; simpa using hy
      · rintro ⟨_, h2⟩
        exact ⟨(x : Int), by simpa using h2, by omega⟩
  rw [e2] at e
  exact e

theorem ints_length (l : List Nat) : (ints l).length = l.length := by simp [ints]
theorem ints_append (a b : List Nat) : ints (a ++ b) = ints a ++ ints b := by simp [ints]

/-- a valid Row's number of seats and its taken ones -/
theorem rowB_is {s : Int} {ring : Bool} {xs : List Int} (h : rowB s ring xs = true) :
    ∃ (n : Nat) (S : Nat → Bool), s = (n : Int) ∧ xs = ints (tk n S) ∧ 2 ≤ n ∧ n ≤ 24 ∧ (ring = true → 3 ≤ n) := by
  unfold rowB at h
  simp only [Bool.and_eq_true, decide_eq_true_eq] at h
  obtain ⟨h1, h2, h3⟩ := h
  have h0 : 2 ≤ s := by
    cases ring <;> simp at h1 <;> omega
  obtain ⟨n, rfl⟩ : ∃ n : Nat, s = n := ⟨s.toNat, by omega⟩
  refine ⟨n, _, rfl, rising_is h3, by omega, by omega, ?_⟩
  intro hr
  subst hr
  simp at h1
  omega
theorem rowB_of {n : Nat} {ring : Bool} {S : Nat → Bool} (h1 : 2 ≤ n) (h2 : n ≤ 24) (h3 : ring = true → 3 ≤ n) : rowB n ring (ints (tk n S)) = true := by
  unfold rowB
  rw [rising_tk]
  cases ring
  · simp; omega
  · have := h3 rfl; simp; omega

theorem mem_ints_tk {n : Nat} {S : Nat → Bool} {x : Int} : x ∈ ints (tk n S) ↔ ∃ k : Nat, x = k ∧ k < n ∧ S k = true := by
  unfold ints
  rw [List.mem_map]
  constructor
  · rintro ⟨k, hk, rfl⟩
    exact ⟨k, rfl, mem_tk.1 hk⟩
  · rintro ⟨k, rfl, hk⟩
    exact ⟨k, mem_tk.2 hk, rfl⟩

/-- the gap of two seats -/
def gapM (n : Nat) (ring : Bool) (a b : Nat) : Nat := if ring then min (max a b - min a b) (n - (max a b - min a b)) else max a b - min a b
theorem gapM_comm (n : Nat) (ring : Bool) (a b : Nat) : gapM n ring a b = gapM n ring b a := by
  unfold gapM; rw [Nat.max_comm a b, Nat.min_comm a b]
/-- the neighbors of a seat -/
def nearM (n : Nat) (ring : Bool) (p : Nat) : List Nat := tk n fun q => decide (gapM n ring p q = 1)
/-- the neighbors, as the program makes them -/
theorem near_line (n p : Nat) (hp : p < n) : nearM n false p = (if 0 < p then [p - 1] else []) ++ (if p + 1 < n then [p + 1] else []) := by
  symm
  unfold nearM
  apply sorted_tk
  · by_cases h1 : 0 < p <;> by_cases h2 : p + 1 < n <;> simp [h1, h2]
    omega
  · intro x
    simp only [gapM, Bool.false_eq_true, if_false, decide_eq_true_eq]
    by_cases h1 : 0 < p <;> by_cases h2 : p + 1 < n <;> simp [h1, h2] <;> omega
theorem near_ring (n p : Nat) (hp : p < n) (hn : 3 ≤ n) : nearM n true p = if p = 0 then [1, n - 1] else if p + 1 = n then [0, n - 2] else [p - 1, p + 1] := by
  symm
  unfold nearM
  apply sorted_tk
  · by_cases h1 : p = 0
    · simp [h1]; omega
    · by_cases h2 : p + 1 = n
      · simp [h1, h2]; omega
      · simp [h1, h2]; omega
  · intro x
    simp only [gapM, if_true, decide_eq_true_eq]
    by_cases h1 : p = 0
    · simp [h1]; omega
    · by_cases h2 : p + 1 = n
      · simp [h1, h2]; omega
      · simp [h1, h2]; omega

/-- the first place below m with a property, or m -/
def firstM (m : Nat) (T : Nat → Bool) : Nat := (List.range m).findIdx T
theorem firstM_eq {m k : Nat} {T : Nat → Bool} (h1 : ∀ i, i < k → T i = false) (h2 : k ≤ m) (h3 : k < m → T k = true) : firstM m T = k := by
  unfold firstM
  rcases Nat.lt_or_ge k m with h | h
  · rw [List.findIdx_eq (by simpa using h)]
    refine ⟨by simpa using h3 h, fun j hj => ?_⟩
    simpa using h1 j hj
  · have e : k = m := by omega
    subst e
    have : (List.range k).findIdx T = (List.range k).length := by
      rw [List.findIdx_eq_length]
      intro x hx
      exact h1 x (by simpa using hx)
    rw [this]; simp
theorem firstM_le (m : Nat) (T : Nat → Bool) : firstM m T ≤ m := by
  unfold firstM
  have := List.findIdx_le_length (p := T) (xs := List.range m)
  simpa using this
theorem firstM_before {m i : Nat} {T : Nat → Bool} (h : i < firstM m T) : T i = false := by
  unfold firstM at h
  have := List.not_of_lt_findIdx h
  simpa using this
theorem firstM_at {m : Nat} {T : Nat → Bool} (h : firstM m T < m) : T (firstM m T) = true := by
  have h' : (List.range m).findIdx T < (List.range m).length := by simpa [firstM] using h
  have := List.findIdx_getElem (w := h')
  simpa [firstM] using this

/-- a run begins at p -/
def startM (n : Nat) (ring : Bool) (S : Nat → Bool) (p : Nat) : Bool :=
  if p = 0 ∧ (ring = false ∨ tk n S = []) then !S p else !S p && S ((p + n - 1) % n)
def reachM (n : Nat) (ring : Bool) (p : Nat) : Nat := if ring then n else n - p
def runM (n : Nat) (ring : Bool) (S : Nat → Bool) (p : Nat) : Nat := firstM (reachM n ring p) fun k => S ((p + k) % n)
def runsM (n : Nat) (ring : Bool) (S : Nat → Bool) : List (Nat × Nat) := (tk n (startM n ring S)).map fun p => (p, runM n ring S p)

theorem tk_nil {n : Nat} {S : Nat → Bool} (h : tk n S = []) (k : Nat) (hk : k < n) : S k = false := by
  cases e : S k with
  | false => rfl
  | true =>
    have : k ∈ tk n S := mem_tk.2 ⟨hk, e⟩
    rw [h] at this; cases this
theorem runs_empty {n : Nat} {S : Nat → Bool} (hn : 0 < n) (h : tk n S = []) : runsM n true S = [(0, n)] := by
  have e : tk n (startM n true S) = [0] := by
    symm
    apply sorted_tk (by simp)
    intro x
    constructor
    · intro hx
      have : x = 0 := by simpa using hx
      subst this
      refine ⟨hn, ?_⟩
      simp [startM, h, tk_nil h 0 hn]
    · rintro ⟨h1, h2⟩
      by_cases hx : x = 0
      · simp [hx]
      · simp only [startM, hx, false_and, if_false, Bool.and_eq_true] at h2
        rw [tk_nil h ((x + n - 1) % n) (Nat.mod_lt _ hn)] at h2
        exact absurd h2.2 (by simp)
  unfold runsM
  rw [e]
  simp only [List.map_cons, List.map_nil, runM, reachM, if_true]
  rw [firstM_eq (k := n) (fun i hi => tk_nil h _ (Nat.mod_lt _ hn)) (Nat.le_refl _) (fun h => absurd h (Nat.lt_irrefl _))]
/-- the start of a run, as the specification asks it -/
theorem start_spec {n : Nat} {ring : Bool} {S : Nat → Bool} {p : Nat} (h : ¬ (ring = true ∧ tk n S = [])) :
    startM n ring S p = !(S p || (!S ((p + n - 1) % n) && (ring || decide (0 < p)))) := by
  unfold startM
  by_cases hp : p = 0
  · subst hp
    cases ring with
    | false => simp
    | true =>
      have : tk n S ≠ [] := fun e => h ⟨rfl, e⟩
      simp [this]
  · have hp' : 0 < p := by omega
    simp [hp, hp']
/-- on a ring with a taken seat a run ends -/
theorem run_lt {n p : Nat} {S : Nat → Bool} (hp : p < n) (h : tk n S ≠ []) : runM n true S p < n := by
  rcases Nat.lt_or_ge (runM n true S p) n with h' | h'
  · exact h'
  · exfalso
    apply h
    have e : runM n true S p = n := Nat.le_antisymm (by have := firstM_le (reachM n true p) (fun k => S ((p + k) % n)); simpa [runM, reachM] using this) h'
    have hb : ∀ i, i < n → S ((p + i) % n) = false := fun i hi => by
      have : i < firstM (reachM n true p) (fun k => S ((p + k) % n)) := by
        have := e; unfold runM at this; omega
      exact firstM_before (T := fun k => S ((p + k) % n)) this
    apply List.eq_nil_iff_forall_not_mem.2
    intro k hk
    obtain ⟨h1, h2⟩ := mem_tk.1 hk
    have h3 := hb ((k + n - p) % n) (Nat.mod_lt _ (by omega))
    have h4 : (p + (k + n - p) % n) % n = k := by
      rw [Nat.add_mod_mod, show p + (k + n - p) = k + n by omega, Nat.add_mod_right, Nat.mod_eq_of_lt h1]
    rw [h4, h2] at h3
    cases h3

/-- of the seats met so far, the first one with the least gap -/
def leastOf (g : Nat → Nat) (x : Nat) (l : List Nat) : Nat := l.foldl (fun b q => if g q < g b then q else b) x
theorem leastOf_snoc (g : Nat → Nat) (x : Nat) (l : List Nat) (q : Nat) : leastOf g x (l ++ [q]) = if g q < g (leastOf g x l) then q else leastOf g x l := by
  unfold leastOf
  rw [List.foldl_append]
  rfl
theorem leastOf_self (g : Nat → Nat) (x : Nat) (l : List Nat) : leastOf g x (x :: l) = leastOf g x l := by
  simp [leastOf]
theorem leastOf_mem (g : Nat → Nat) : ∀ (l : List Nat) (x : Nat), leastOf g x l = x ∨ leastOf g x l ∈ l := by
  intro l
  induction l with
  | nil => intro x; exact .inl rfl
  | cons y l ih =>
    intro x
    show leastOf g (if g y < g x then y else x) l = x ∨ leastOf g (if g y < g x then y else x) l ∈ y :: l
    by_cases h : g y < g x
    · rw [if_pos h]
      rcases ih y with e | e
      · right; rw [e]; simp
      · right; exact List.mem_cons_of_mem _ e
    · rw [if_neg h]
      rcases ih x with e | e
      · left; exact e
      · right; exact List.mem_cons_of_mem _ e
theorem leastOf_le (g : Nat → Nat) : ∀ (l : List Nat) (x : Nat), g (leastOf g x l) ≤ g x ∧ ∀ y ∈ l, g (leastOf g x l) ≤ g y := by
  intro l
  induction l with
  | nil => intro x; exact ⟨Nat.le_refl _, fun y hy => by cases hy⟩
  | cons y l ih =>
    intro x
    show g (leastOf g (if g y < g x then y else x) l) ≤ g x ∧ ∀ z ∈ y :: l, g (leastOf g (if g y < g x then y else x) l) ≤ g z
    by_cases h : g y < g x
    · rw [if_pos h]
      obtain ⟨h1, h2⟩ := ih y
      refine ⟨by omega, fun z hz => ?_⟩
      rcases List.mem_cons.1 hz with e | e
      · subst e; exact h1
      · exact h2 z e
    · rw [if_neg h]
      obtain ⟨h1, h2⟩ := ih x
      refine ⟨h1, fun z hz => ?_⟩
      rcases List.mem_cons.1 hz with e | e
      · subst e; omega
      · exact h2 z e

/-- how many of a list have a property, added over another list -/
def sumOf (f : Nat → Nat) (l : List Nat) : Nat := (l.map f).sum
theorem sumOf_snoc (f : Nat → Nat) (l : List Nat) (x : Nat) : sumOf f (l ++ [x]) = sumOf f l + f x := by simp [sumOf]
theorem sumOf_add (f g : Nat → Nat) (l : List Nat) : sumOf (fun x => f x + g x) l = sumOf f l + sumOf g l := by
  induction l with
  | nil => rfl
  | cons x l ih => simp only [sumOf, List.map_cons, List.sum_cons] at *; omega
theorem sumOf_congr {f g : Nat → Nat} {l : List Nat} (h : ∀ x ∈ l, f x = g x) : sumOf f l = sumOf g l := by
  unfold sumOf; rw [List.map_congr_left h]
theorem sumOf_zero (l : List Nat) : sumOf (fun _ => 0) l = 0 := by
  induction l with
  | nil => rfl
  | cons x l ih => simp only [sumOf, List.map_cons, List.sum_cons] at *; omega
theorem sumOf_swap (f : Nat → Nat → Nat) (a b : List Nat) : sumOf (fun x => sumOf (f x) b) a = sumOf (fun y => sumOf (fun x => f x y) a) b := by
  induction a with
  | nil => symm; exact sumOf_zero b
  | cons x a ih =>
    have e : sumOf (fun y => sumOf (fun x => f x y) (x :: a)) b = sumOf (fun y => f x y + sumOf (fun x => f x y) a) b := rfl
    rw [e, sumOf_add, ← ih]
    rfl
theorem sumOf_filter (T : Nat → Bool) (f : Nat → Nat) (l : List Nat) : sumOf f (l.filter T) = sumOf (fun x => if T x then f x else 0) l := by
  induction l with
  | nil => rfl
  | cons x l ih =>
    by_cases h : T x
    · simp only [List.filter_cons, h, if_true, sumOf, List.map_cons, List.sum_cons] at *
      rw [ih]
    · simp only [List.filter_cons, h, sumOf, List.map_cons, List.sum_cons] at *
      simp [ih]

/-- pairs of neighbors that both are taken: counted from the lesser one -/
def touchM (n : Nat) (ring : Bool) (S : Nat → Bool) : Nat := sumOf (fun p => sumOf (fun q => if decide (p < q) && S q then 1 else 0) (nearM n ring p)) (tk n S)
/-- .. and from the greater one -/
def touchM' (n : Nat) (ring : Bool) (S : Nat → Bool) : Nat := sumOf (fun p => sumOf (fun q => if decide (q < p) && decide (gapM n ring p q = 1) then 1 else 0) (tk n S)) (tk n S)
theorem touch_same (n : Nat) (ring : Bool) (S : Nat → Bool) : touchM n ring S = touchM' n ring S := by
  unfold touchM touchM'
  rw [sumOf_swap (fun p q => if decide (q < p) && decide (gapM n ring p q = 1) then 1 else 0) (tk n S) (tk n S)]
  apply sumOf_congr
  intro p hp
  unfold nearM
  unfold tk
  rw [sumOf_filter, sumOf_filter]
  apply sumOf_congr
  intro q hq
  rw [gapM_comm n ring q p]
  by_cases h1 : gapM n ring p q = 1 <;> by_cases h2 : S q <;> by_cases h3 : p < q <;> simp [h1, h2, h3]


/-! rows that are made: the specification's lists, the program's marks -/
theorem sortedI_ext : ∀ {a b : List Int}, a.Pairwise (· < ·) → b.Pairwise (· < ·) → (∀ x, x ∈ a ↔ x ∈ b) → a = b := by
  intro a
  induction a with
  | nil =>
    intro b _ _ h
    cases b with
    | nil => rfl
    | cons y b => exact absurd ((h y).2 (by simp)) (by simp)
  | cons x a ih =>
    intro b ha hb h
    cases b with
    | nil => exact absurd ((h x).1 (by simp)) (by simp)
    | cons y b =>
      rw [List.pairwise_cons] at ha hb
      have e : x = y := by
        have h1 := (h x).1 (by simp)
        have h2 := (h y).2 (by simp)
        rw [List.mem_cons] at h1 h2
        rcases h1 with h1 | h1
        · exact h1
        · rcases h2 with h2 | h2
          · exact h2.symm
          · have := ha.1 y h2; have := hb.1 x h1; omega
      subst e
      congr 1
      refine ih ha.2 hb.2 fun z => ?_
      have hz := h z
      rw [List.mem_cons, List.mem_cons] at hz
      constructor
      · intro hm
        rcases hz.1 (.inr hm) with e | e
        · subst e; have := ha.1 z hm; omega
        · exact e
      · intro hm
        rcases hz.2 (.inr hm) with e | e
        · subst e; have := hb.1 z hm; omega
        · exact e
theorem ints_sorted (n : Nat) (S : Nat → Bool) : (ints (tk n S)).Pairwise (· < ·) := by
  unfold ints
  rw [List.pairwise_map]
  exact (tk_sorted n S).imp (fun h => by omega)
theorem sortedI_tk {a : List Int} {n : Nat} {S : Nat → Bool} (ha : a.Pairwise (· < ·)) (h : ∀ x, x ∈ a ↔ ∃ k : Nat, x = k ∧ k < n ∧ S k = true) : a = ints (tk n S) :=
  sortedI_ext ha (ints_sorted n S) fun x => by rw [h x, mem_ints_tk]

/-- a number put to its place -/
def putM (x : Int) : List Int → List Int
  | [] => [x]
  | y :: ys => if y < x then y :: putM x ys else x :: y :: ys
theorem putM_at (x : Int) : ∀ (xs : List Int) (k : Nat), k ≤ xs.length → (∀ i, i < k → xs[i]?.getD 0 < x) → (k < xs.length → ¬ xs[k]?.getD 0 < x) → putM x xs = xs.take k ++ (x :: xs.drop k) := by
  intro xs
  induction xs with
  | nil => intro k hk _ _; simp at hk; subst hk; rfl
  | cons y ys ih =>
    intro k hk h1 h2
    cases k with
    | zero =>
      have := h2 (by simp)
      simp at this
      have : ¬ y < x := by omega
      simp [putM, this]
    | succ k =>
      have h0 := h1 0 (by omega)
      simp at h0
      simp only [putM, h0, if_true, List.take_succ_cons, List.drop_succ_cons, List.cons_append]
      rw [ih k (by simpa using hk) (fun i hi => by simpa using h1 (i + 1) (by omega)) (fun h => by simpa using h2 (by simpa using h))]
theorem mem_putM (x : Int) : ∀ (xs : List Int) (z : Int), z ∈ putM x xs ↔ z = x ∨ z ∈ xs := by
  intro xs
  induction xs with
  | nil => intro z; simp [putM]
  | cons y ys ih =>
    intro z
    by_cases h : y < x
    · simp only [putM, h, if_true, List.mem_cons, ih z]
      constructor <;> (intro h; rcases h with h | h | h <;> simp [h])
    · simp [putM, h]
theorem putM_sorted (x : Int) : ∀ (xs : List Int), xs.Pairwise (· < ·) → x ∉ xs → (putM x xs).Pairwise (· < ·) := by
  intro xs
  induction xs with
  | nil => intro _ _; simp [putM]
  | cons y ys ih =>
    intro h hx
    rw [List.pairwise_cons] at h
    simp only [List.mem_cons, not_or] at hx
    by_cases hy : y < x
    · simp only [putM, hy, if_true]
      refine .cons (fun z hz => ?_) (ih h.2 hx.2)
      rcases (mem_putM x ys z).1 hz with e | e
      · omega
      · exact h.1 z e
    · simp only [putM, hy, if_false]
      refine .cons (fun z hz => ?_) (.cons h.1 h.2)
      rcases List.mem_cons.1 hz with e | e
      · omega
      · have := h.1 z e; omega
theorem putM_length (x : Int) (xs : List Int) : (putM x xs).length = xs.length + 1 := by
  induction xs with
  | nil => rfl
  | cons y ys ih =>
    by_cases h : y < x <;> simp [putM, h, ih]

theorem take_spec {n p : Nat} {S : Nat → Bool} (hp : p < n) (hS : S p = false) : putM (p : Int) (ints (tk n S)) = ints (tk n fun i => S i || decide (i = p)) := by
  apply sortedI_tk
  · apply putM_sorted _ _ (ints_sorted n S)
    rw [mem_ints_tk]
    rintro ⟨k, h1, _, h3⟩
    have : k = p := by omega
    rw [this, hS] at h3
    cases h3
  · intro x
    rw [mem_putM, mem_ints_tk]
    constructor
    · rintro (h | ⟨k, h1, h2, h3⟩)
      · exact ⟨p, h, hp, by simp⟩
      · exact ⟨k, h1, h2, by simp [h3]⟩
    · rintro ⟨k, h1, h2, h3⟩
      simp only [Bool.or_eq_true, decide_eq_true_eq] at h3
      rcases h3 with h3 | h3
      · exact .inr ⟨k, h1, h2, h3⟩
      · subst h3; exact .inl h1
theorem leave_spec {n p : Nat} {S : Nat → Bool} : (ints (tk n S)).filter (fun x => decide (x ≠ (p : Int))) = ints (tk n fun i => S i && !decide (i = p)) := by
  apply sortedI_tk ((ints_sorted n S).filter _)
  intro x
  rw [List.mem_filter, mem_ints_tk]
  constructor
  · rintro ⟨⟨k, h1, h2, h3⟩, h4⟩
    refine ⟨k, h1, h2, ?_⟩
    have : ¬ x = (p : Int) := by simpa using h4
    have : ¬ k = p := by omega
    simp [h3, this]
  · rintro ⟨k, h1, h2, h3⟩
    simp only [Bool.and_eq_true, Bool.not_eq_true', decide_eq_false_iff_not] at h3
    refine ⟨⟨k, h1, h2, h3.1⟩, ?_⟩
    have : ¬ x = (p : Int) := by omega
    simpa using this
theorem mirror_spec {n : Nat} {S : Nat → Bool} : (ints (tk n S)).reverse.map (fun x => (n : Int) - 1 - x) = ints (tk n fun i => S (n - 1 - i)) := by
  apply sortedI_tk
  · rw [List.pairwise_map, List.pairwise_reverse]
    exact (ints_sorted n S).imp (fun h => by omega)
  · intro x
    rw [List.mem_map]
    constructor
    · rintro ⟨y, hy, rfl⟩
      rw [List.mem_reverse, mem_ints_tk] at hy
      obtain ⟨k, rfl, h2, h3⟩ := hy
      refine ⟨n - 1 - k, by omega, by omega, ?_⟩
      rw [show n - 1 - (n - 1 - k) = k by omega]; exact h3
    · rintro ⟨k, rfl, h2, h3⟩
      exact ⟨((n - 1 - k : Nat) : Int), by rw [List.mem_reverse, mem_ints_tk]; exact ⟨_, rfl, by omega, h3⟩, by omega⟩
/-- a ring turned, a taken seat after the other -/
def turnL (n by' : Nat) (l : List Nat) : List Int := l.foldl (fun a t => putM (((t + by') % n : Nat) : Int) a) []
theorem turnL_snoc (n b : Nat) (l : List Nat) (t : Nat) : turnL n b (l ++ [t]) = putM (((t + b) % n : Nat) : Int) (turnL n b l) := by simp [turnL, List.foldl_append]
theorem turn_inj {n b s t : Nat} (hs : s < n) (ht : t < n) (hb : b < n) (h : (s + b) % n = (t + b) % n) : s = t := by
  rcases Nat.lt_or_ge (s + b) n with h1 | h1 <;> rcases Nat.lt_or_ge (t + b) n with h2 | h2
  · rw [Nat.mod_eq_of_lt h1, Nat.mod_eq_of_lt h2] at h; omega
  · rw [Nat.mod_eq_of_lt h1, Nat.mod_eq_sub_mod h2, Nat.mod_eq_of_lt (by omega)] at h; omega
  · rw [Nat.mod_eq_of_lt h2, Nat.mod_eq_sub_mod h1, Nat.mod_eq_of_lt (by omega)] at h; omega
  · rw [Nat.mod_eq_sub_mod h1, Nat.mod_eq_sub_mod h2, Nat.mod_eq_of_lt (by omega), Nat.mod_eq_of_lt (by omega)] at h; omega
theorem turnL_is (n b : Nat) (hb : b < n) : ∀ (l : List Nat), (∀ t ∈ l, t < n) → l.Nodup → (turnL n b l.reverse).Pairwise (· < ·) ∧ (∀ x, x ∈ turnL n b l.reverse ↔ ∃ t ∈ l, x = (((t + b) % n : Nat) : Int)) := by
  intro l
  induction l with
  | nil => intro _ _; exact ⟨.nil, fun x => by simp [turnL]⟩
  | cons y l ih =>
    intro hl hd
    rw [List.nodup_cons] at hd
    obtain ⟨i1, i2⟩ := ih (fun t ht => hl t (by simp [ht])) hd.2
    rw [List.reverse_cons, turnL_snoc]
    constructor
    · apply putM_sorted _ _ i1
      rw [i2]
      rintro ⟨t, ht, he⟩
      have := turn_inj (hl y (by simp)) (hl t (by simp [ht])) hb (by omega)
      exact hd.1 (this ▸ ht)
    · intro x
      rw [mem_putM, i2]
      constructor
      · rintro (h | ⟨t, ht, he⟩)
        · exact ⟨y, by simp, h⟩
        · exact ⟨t, by simp [ht], he⟩
      · rintro ⟨t, ht, he⟩
        rcases List.mem_cons.1 ht with e | e
        · subst e; exact .inl he
        · exact .inr ⟨t, e, he⟩
theorem sorted_nodup {l : List Nat} (h : l.Pairwise (· < ·)) : l.Nodup := h.imp (fun h => by omega)
theorem nodup_rev {l : List Nat} (h : l.Pairwise (· < ·)) : l.reverse.Nodup := List.pairwise_reverse.2 (h.imp (fun h => by omega))
theorem turnL_notin {n b : Nat} (hb : b < n) {l : List Nat} {t : Nat} (hl : ∀ t ∈ l, t < n) (hd : l.Pairwise (· < ·)) (ht : t < n) (hn : t ∉ l) : (((t + b) % n : Nat) : Int) ∉ turnL n b l := by
  have := (turnL_is n b hb l.reverse (fun t ht => hl t (by simpa using ht)) (nodup_rev hd)).2
  rw [List.reverse_reverse] at this
  rw [this]
  rintro ⟨s, hs, he⟩
  have hs' : s ∈ l := by simpa using hs
  have := turn_inj ht (hl s hs') hb (by omega)
  exact hn (this ▸ hs')
theorem turn_spec {n b : Nat} {S : Nat → Bool} (hb : b < n) : turnL n b (tk n S) = ints (tk n fun i => S ((i + n - b) % n)) := by
  have h := turnL_is n b hb (tk n S).reverse (fun t ht => (mem_tk.1 (by simpa using ht)).1) (nodup_rev (tk_sorted n S))
  rw [List.reverse_reverse] at h
  apply sortedI_tk h.1
  intro x
  rw [h.2]
  constructor
  · rintro ⟨t, ht, he⟩
    obtain ⟨h1, h2⟩ := mem_tk.1 (by simpa using ht)
    refine ⟨(t + b) % n, he, Nat.mod_lt _ (by omega), ?_⟩
    have e : ((t + b) % n + n - b) % n = t := by
      rcases Nat.lt_or_ge (t + b) n with h3 | h3
      · rw [Nat.mod_eq_of_lt h3, show t + b + n - b = t + n by omega, Nat.add_mod_right, Nat.mod_eq_of_lt h1]
      · rw [Nat.mod_eq_sub_mod h3, Nat.mod_eq_of_lt (show t + b - n < n by omega), show t + b - n + n - b = t by omega, Nat.mod_eq_of_lt h1]
    rw [e]; exact h2
  · rintro ⟨k, rfl, h2, h3⟩
    refine ⟨(k + n - b) % n, by simpa using mem_tk.2 ⟨Nat.mod_lt _ (by omega), h3⟩, ?_⟩
    have e : ((k + n - b) % n + b) % n = k := by
      rw [Nat.mod_add_mod, show k + n - b + b = k + n by omega, Nat.add_mod_right, Nat.mod_eq_of_lt h2]
    rw [e]
theorem join_spec {a b : Nat} {S T : Nat → Bool} : ints (tk a S) ++ (ints (tk b T)).map (fun x => (a : Int) + x) = ints (tk (a + b) fun i => if i < a then S i else T (i - a)) := by
  apply sortedI_tk
  · rw [List.pairwise_append]
    refine ⟨ints_sorted a S, ?_, ?_⟩
    · rw [List.pairwise_map]
      exact (ints_sorted b T).imp (fun h => by omega)
    · intro x hx y hy
      obtain ⟨k, rfl, h2, _⟩ := mem_ints_tk.1 hx
      obtain ⟨z, hz, rfl⟩ := List.mem_map.1 hy
      obtain ⟨m, rfl, _, _⟩ := mem_ints_tk.1 hz
      omega
  · intro x
    rw [List.mem_append, List.mem_map, mem_ints_tk]
    constructor
    · rintro (⟨k, rfl, h2, h3⟩ | ⟨y, hy, rfl⟩)
      · exact ⟨k, rfl, by omega, by simp [h2, h3]⟩
      · obtain ⟨m, rfl, h2, h3⟩ := mem_ints_tk.1 hy
        refine ⟨a + m, by omega, by omega, ?_⟩
        have : ¬ a + m < a := by omega
        simp [h3]
    · rintro ⟨k, rfl, h2, h3⟩
      by_cases h : k < a
      · simp only [h, if_true] at h3
        exact .inl ⟨k, rfl, h, h3⟩
      · simp only [h, if_false] at h3
        exact .inr ⟨((k - a : Nat) : Int), mem_ints_tk.2 ⟨k - a, rfl, by omega, h3⟩, by omega⟩
/-- the seats behind a new place -/
def shiftI (p x : Int) : Int := if p ≤ x then x + 1 else x
def insS (S : Nat → Bool) (p : Nat) (t : Bool) (i : Nat) : Bool := if i < p then S i else if i = p then t else S (i - 1)
theorem shift_spec {n p : Nat} {S : Nat → Bool} (hp : p ≤ n) : (ints (tk n S)).map (shiftI p) = ints (tk (n + 1) (insS S p false)) := by
  apply sortedI_tk
  · rw [List.pairwise_map]
    refine (ints_sorted n S).imp (fun {a b} h => ?_)
    unfold shiftI
    by_cases h1 : (p : Int) ≤ a <;> by_cases h2 : (p : Int) ≤ b <;> simp only [h1, h2, if_true, if_false] <;> omega
  · intro x
    rw [List.mem_map]
    constructor
    · rintro ⟨y, hy, rfl⟩
      obtain ⟨k, rfl, h2, h3⟩ := mem_ints_tk.1 hy
      unfold shiftI insS
      by_cases h : p ≤ k
      · refine ⟨k + 1, by rw [if_pos (by omega)]; omega, by omega, ?_⟩
        have h4 : ¬ k + 1 < p := by omega
        have h5 : ¬ k + 1 = p := by omega
        simp [h4, h5, h3]
      · refine ⟨k, by rw [if_neg (by omega)], by omega, ?_⟩
        have h4 : k < p := by omega
        simp [h4, h3]
    · rintro ⟨k, rfl, h2, h3⟩
      unfold insS at h3
      unfold shiftI
      by_cases h : k < p
      · simp only [h, if_true] at h3
        exact ⟨k, mem_ints_tk.2 ⟨k, rfl, by omega, h3⟩, by rw [if_neg (by omega)]⟩
      · by_cases h' : k = p
        · simp [h'] at h3
        · simp only [h, h', if_false] at h3
          exact ⟨((k - 1 : Nat) : Int), mem_ints_tk.2 ⟨k - 1, rfl, by omega, h3⟩, by rw [if_pos (by omega)]; omega⟩
theorem insert_notin {n p : Nat} {S : Nat → Bool} : (p : Int) ∉ ints (tk (n + 1) (insS S p false)) := by
  rw [mem_ints_tk]
  rintro ⟨k, h1, _, h3⟩
  have : k = p := by omega
  subst this
  simp [insS] at h3
theorem insert_spec {n p : Nat} {S : Nat → Bool} (hp : p ≤ n) : putM (p : Int) (ints (tk (n + 1) (insS S p false))) = ints (tk (n + 1) (insS S p true)) := by
  rw [take_spec (by omega) (by simp [insS])]
  congr 1
  apply tk_congr
  intro k hk
  unfold insS
  by_cases h1 : k < p
  · have : ¬ k = p := by omega
    simp [h1, this]
  · by_cases h2 : k = p
    · simp [h2]
    · simp [h1, h2]

/-- marks -/
def bl (n : Nat) (S : Nat → Bool) : List Bool := (List.range n).map S
theorem bl_length (n : Nat) (S : Nat → Bool) : (bl n S).length = n := by simp [bl]
theorem bl_get {n : Nat} {S : Nat → Bool} {i : Nat} (h : i < n) : (bl n S)[i]? = some (S i) := by simp [bl, h]
theorem bl_getD {n : Nat} {S : Nat → Bool} {i : Nat} (h : i < n) : (bl n S)[i]?.getD false = S i := by simp [bl, h]
theorem bl_congr {n : Nat} {S T : Nat → Bool} (h : ∀ k, k < n → S k = T k) : bl n S = bl n T := by
  unfold bl
  exact List.map_congr_left (fun k hk => h k (by simpa using hk))
theorem bl_of {l : List Bool} : l = bl l.length (fun i => l[i]?.getD false) := by
  apply List.ext_getElem?
  intro i
  rcases Nat.lt_or_ge i l.length with h | h
  · rw [bl_get h, List.getElem?_eq_getElem h]; rfl
  · rw [List.getElem?_eq_none h, List.getElem?_eq_none (by rw [bl_length]; exact h)]
theorem bl_set {n p : Nat} {S : Nat → Bool} {t : Bool} : (bl n S).set p t = bl n (fun i => if i = p then t else S i) := by
  apply List.ext_getElem?
  intro i
  rw [List.getElem?_set, bl_length]
  rcases Nat.lt_or_ge i n with h | h
  · rw [bl_get h, bl_get h]
    by_cases e : p = i
    · subst e; simp [h]
    · have e' : ¬ i = p := fun h => e h.symm
      simp [e, e']
  · rw [List.getElem?_eq_none (by rw [bl_length]; exact h), List.getElem?_eq_none (by rw [bl_length]; exact h)]
    by_cases e : p = i
    · subst e; simp; omega
    · simp [e]
theorem bl_reverse {n : Nat} {S : Nat → Bool} : (bl n S).reverse = bl n (fun i => S (n - 1 - i)) := by
  apply List.ext_getElem?
  intro i
  rcases Nat.lt_or_ge i n with h | h
  · rw [List.getElem?_reverse (by rw [bl_length]; exact h), bl_length, bl_get (by omega), bl_get h]
  · rw [List.getElem?_eq_none (by rw [List.length_reverse, bl_length]; exact h), List.getElem?_eq_none (by rw [bl_length]; exact h)]
theorem bl_append {a b : Nat} {S T : Nat → Bool} : bl a S ++ bl b T = bl (a + b) (fun i => if i < a then S i else T (i - a)) := by
  apply List.ext_getElem?
  intro i
  rcases Nat.lt_or_ge i a with h | h
  · rw [List.getElem?_append_left (by rw [bl_length]; exact h), bl_get h, bl_get (by omega)]
    simp [h]
  · rw [List.getElem?_append_right (by rw [bl_length]; exact h), bl_length]
    have hn : ¬ i < a := by omega
    rcases Nat.lt_or_ge i (a + b) with h' | h'
    · rw [bl_get (by omega), bl_get h']
      simp [hn]
    · rw [List.getElem?_eq_none (by rw [bl_length]; omega), List.getElem?_eq_none (by rw [bl_length]; exact h')]
theorem bl_part {n a m : Nat} {S : Nat → Bool} (h : a + m ≤ n + n) : ((bl n S ++ bl n S).drop a).take m = bl m (fun i => S ((a + i) % n)) := by
  apply List.ext_getElem?
  intro i
  rw [List.getElem?_take]
  by_cases hi : i < m
  · rw [if_pos hi, List.getElem?_drop, bl_append, bl_get (by omega), bl_get hi]
    congr 1
    by_cases h1 : a + i < n
    · simp only [h1, if_true]; rw [Nat.mod_eq_of_lt h1]
    · simp only [h1, if_false]; rw [Nat.mod_eq_sub_mod (by omega), Nat.mod_eq_of_lt (by omega)]
  · rw [if_neg hi, List.getElem?_eq_none (by rw [bl_length]; omega)]
theorem bl_insert {n p : Nat} {S : Nat → Bool} {t : Bool} (hp : p ≤ n) : (bl n S).take p ++ (t :: (bl n S).drop p) = bl (n + 1) (insS S p t) := by
  apply List.ext_getElem?
  intro i
  have hl : ((bl n S).take p).length = p := by rw [List.length_take, bl_length]; omega
  rcases Nat.lt_or_ge i p with h | h
  · rw [List.getElem?_append_left (by omega), List.getElem?_take, if_pos h, bl_get (by omega), bl_get (by omega)]
    simp [insS, h]
  · rw [List.getElem?_append_right (by omega), hl]
    have hn : ¬ i < p := by omega
    rcases Nat.lt_or_ge i (n + 1) with h' | h'
    · rw [bl_get h']
      by_cases e : i = p
      · subst e; simp [insS]
      · rw [show i - p = (i - p - 1) + 1 by omega, List.getElem?_cons_succ, List.getElem?_drop, bl_get (by omega)]
        simp only [insS, hn, e, if_false]
        congr 2; omega
    · rw [List.getElem?_eq_none (by rw [List.length_cons, List.length_drop, bl_length]; omega), List.getElem?_eq_none (by rw [bl_length]; exact h')]
end Go.Proofs.Ytoedcklgpmhnnaa
