/- The search for placings, group by group: mathematics. Plain lemmas: no function of the program. -/
import Derived.Test.YtogdiahojbonaaaPlgM9
namespace Go.Proofs.Ytogdiahojbonaaa

/-- a group more that sits -/
theorem fit_more {n : Nat} {T T' : Nat → Bool} {d g : Int} {p : Nat} (hd : 0 ≤ d) (hg : 1 ≤ g) (hpn : (p : Int) + g ≤ n) (hT : ∀ q, q < n → T' q = (T q || (decide ((p : Int) ≤ (q : Int)) && decide ((q : Int) < (p : Int) + g)))) {s : Int} (hs : 1 ≤ s) {q : Nat} :
    fitG n T' d s (q : Int) = addF d (fun s q => fitG n T d s (q : Int)) g p s q := by
  unfold addF
  rw [Bool.eq_iff_iff, Bool.and_eq_true, fitG_true, fitG_true]
  unfold farP
  rw [Bool.or_eq_true, decide_eq_true_eq, decide_eq_true_eq]
  constructor
  · rintro ⟨h1, h2, h3⟩
    refine ⟨⟨h1, h2, fun t ht hS hn => h3 t ht (by rw [hT t ht, hS]; rfl) hn⟩, ?_⟩
    by_cases hc : (p : Int) + g + d ≤ (q : Int) ∨ (q : Int) + s + d ≤ (p : Int)
    · exact hc
    · exfalso
      obtain ⟨t, ht⟩ : ∃ t : Int, ((p : Int) ≤ t ∧ t < (p : Int) + g) ∧ (q : Int) - t ≤ d ∧ t - ((q : Int) + s - 1) ≤ d := by
        by_cases h5 : (q : Int) - d ≤ (p : Int)
        · exact ⟨p, by omega⟩
        · exact ⟨(q : Int) - d, by omega⟩
      obtain ⟨t', rfl⟩ : ∃ t' : Nat, t = t' := ⟨t.toNat, by omega⟩
      refine h3 t' (by omega) ?_ ht.2
      rw [hT t' (by omega), decide_eq_true ht.1.1, decide_eq_true ht.1.2]
      simp
  · rintro ⟨⟨h1, h2, h3⟩, h4⟩
    refine ⟨h1, h2, fun t ht hS hn => ?_⟩
    rw [hT t ht, Bool.or_eq_true, Bool.and_eq_true, decide_eq_true_eq, decide_eq_true_eq] at hS
    rcases hS with hS | hS
    · exact h3 t ht hS hn
    · omega
theorem ints_lenP (l : List Nat) : (ints l).length = l.length := by unfold ints; simp
theorem seat_more {n : Nat} {S : Nat → Bool} {gs : List Int} {pl : List Nat} {i p : Nat} (hi : pl.length = i) (q : Nat) (_ : q < n) : seatedM S gs (ints (pl ++ [p])) (i + 1) q = (seatedM S gs (ints pl) i q || (decide ((p : Int) ≤ (q : Int)) && decide ((q : Int) < (p : Int) + gs[i]?.getD 0))) := by
  rw [seatedM_succ]
  have e1 : (ints (pl ++ [p])).take i = ints pl := by
    subst hi
    unfold ints
    rw [List.map_append]
    have : pl.length = (List.map (fun x : Nat => (x : Int)) pl).length := by simp
    rw [this]
    exact List.take_left
  have e2 : (ints (pl ++ [p]))[i]?.getD 0 = (p : Int) := by
    subst hi
    unfold ints
    rw [List.map_append]
    simp
  rw [← seatedM_take (ps := ints (pl ++ [p])), e1]
  congr 1
  unfold grpAt
  rw [e2]
/-- steps for all seats -/
def foldN {α : Type} (n : Nat) (f : Nat → α → α) (x : α) : α := (List.range n).foldl (fun st p => f p st) x
theorem foldN_zero {α : Type} (f : Nat → α → α) (x : α) : foldN 0 f x = x := rfl
theorem foldN_succ {α : Type} (n : Nat) (f : Nat → α → α) (x : α) : foldN (n + 1) f x = f n (foldN n f x) := by
  unfold foldN
  rw [List.range_succ, List.foldl_append]
  rfl
theorem foldN_congr {α : Type} {n : Nat} {f g : Nat → α → α} (h : ∀ p, p < n → ∀ x, f p x = g p x) : ∀ x, foldN n f x = foldN n g x := by
  induction n with
  | zero => intro x; rfl
  | succ n ih =>
    intro x
    rw [foldN_succ, foldN_succ, ih (fun p hp => h p (by omega)), h n (by omega)]
/-- what the search has found -/
def plR (n : Nat) (d : Int) (once : Bool) : List Int → Fit → List Nat → List Nat × Nat → List Nat × Nat
  | [], _, pl, st => (if st.2 = 0 then pl else st.1, st.2 + 1)
  | g :: gs, φ, pl, st => foldN n (fun p st => if once = true ∧ 0 < st.2 then st else if φ g p = true then plR n d once gs (addF d φ g p) (pl ++ [p]) st else st) st
theorem plR_congr {n : Nat} {d : Int} {once : Bool} : ∀ {gs : List Int} {φ ψ : Fit} {pl : List Nat} {st : List Nat × Nat}, (∀ g ∈ gs, 1 ≤ g) → (∀ s : Int, 1 ≤ s → ∀ q, q < n → φ s q = ψ s q) → plR n d once gs φ pl st = plR n d once gs ψ pl st := by
  intro gs
  induction gs with
  | nil => intro φ ψ pl st _ _; rfl
  | cons g gs ih =>
    intro φ ψ pl st hg h
    unfold plR
    apply foldN_congr
    intro p hp x
    rw [h g (hg g (by simp)) p hp]
    rw [ih (ψ := addF d ψ g p) (fun y hy => hg y (by simp [hy])) (fun s hs q hq => by unfold addF; rw [h s hs q hq])]
/-- how many -/
theorem plR_le {n : Nat} {d : Int} {once : Bool} : ∀ {gs : List Int} {φ : Fit} {pl : List Nat} {st : List Nat × Nat}, st.2 ≤ (plR n d once gs φ pl st).2 ∧ (plR n d once gs φ pl st).2 ≤ st.2 + cntW n d gs φ ∧ (once = false → (plR n d once gs φ pl st).2 = st.2 + cntW n d gs φ) := by
  intro gs
  induction gs with
  | nil =>
    intro φ pl st
    show st.2 ≤ st.2 + 1 ∧ st.2 + 1 ≤ st.2 + 1 ∧ _
    exact ⟨by omega, by omega, fun _ => rfl⟩
  | cons g gs ih =>
    intro φ pl st
    have key : ∀ k, st.2 ≤ (foldN k (fun p st => if once = true ∧ 0 < st.2 then st else if φ g p = true then plR n d once gs (addF d φ g p) (pl ++ [p]) st else st) st).2 ∧ (foldN k (fun p st => if once = true ∧ 0 < st.2 then st else if φ g p = true then plR n d once gs (addF d φ g p) (pl ++ [p]) st else st) st).2 ≤ st.2 + sumN k (fun p => if φ g p = true then cntW n d gs (addF d φ g p) else 0) ∧ (once = false → (foldN k (fun p st => if once = true ∧ 0 < st.2 then st else if φ g p = true then plR n d once gs (addF d φ g p) (pl ++ [p]) st else st) st).2 = st.2 + sumN k (fun p => if φ g p = true then cntW n d gs (addF d φ g p) else 0)) := by
      intro k
      induction k with
      | zero => rw [foldN_zero, sumN_zero]; exact ⟨Nat.le_refl _, Nat.le_refl _, fun _ => rfl⟩
      | succ k ihk =>
        rw [foldN_succ, sumN_succ]
        obtain ⟨a1, a2, a3⟩ := ihk
        obtain ⟨X, hX⟩ : ∃ X, foldN k (fun p st => if once = true ∧ 0 < st.2 then st else if φ g p = true then plR n d once gs (addF d φ g p) (pl ++ [p]) st else st) st = X := ⟨_, rfl⟩
        rw [hX] at a1 a2 a3 ⊢
        by_cases hc : once = true ∧ 0 < X.2
        · rw [if_pos hc]
          refine ⟨a1, by omega, fun ho => ?_⟩
          rw [ho] at hc; cases hc.1
        · rw [if_neg hc]
          by_cases hf : φ g k = true
          · rw [if_pos hf, if_pos hf]
            obtain ⟨b1, b2, b3⟩ := ih (φ := addF d φ g k) (pl := pl ++ [k]) (st := X)
            refine ⟨by omega, by omega, fun ho => ?_⟩
            have := a3 ho
            have := b3 ho
            omega
          · rw [if_neg hf, if_neg hf]
            exact ⟨a1, by omega, fun ho => by have := a3 ho; omega⟩
    exact key n
/-- the first success -/
def firstN {α : Type} : Nat → (Nat → Option α) → Option α
  | 0, _ => none
  | n + 1, f => match firstN n f with
    | some y => some y
    | none => f n
theorem firstN_succ {α : Type} (n : Nat) (f : Nat → Option α) : firstN (n + 1) f = match firstN n f with
    | some y => some y
    | none => f n := rfl
theorem firstN_some {α : Type} {f : Nat → Option α} {y : α} : ∀ {n : Nat}, firstN n f = some y ↔ ∃ p, p < n ∧ f p = some y ∧ ∀ q, q < p → f q = none := by
  intro n
  induction n with
  | zero => constructor
            · intro h; cases h
            · rintro ⟨p, h, -⟩; omega
  | succ n ih =>
    unfold firstN
    cases e : firstN n f with
    | some z =>
      rw [e] at ih
      constructor
      · intro h
        obtain ⟨p, h1, h2, h3⟩ := ih.1 h
        exact ⟨p, by omega, h2, h3⟩
      · rintro ⟨p, h1, h2, h3⟩
        by_cases hp : p = n
        · subst hp
          exfalso
          have : ∀ k, (∀ q, q < k → f q = none) → firstN k f = none := by
            intro k
            induction k with
            | zero => intro _; rfl
            | succ k ihk =>
              intro h
              unfold firstN
              rw [ihk (fun q hq => h q (by omega))]
              exact h k (by omega)
          rw [this p h3] at e; cases e
        · exact ih.2 ⟨p, by omega, h2, h3⟩
    | none =>
      rw [e] at ih
      constructor
      · intro h
        refine ⟨n, by omega, h, fun q hq => ?_⟩
        cases e2 : f q with
        | none => rfl
        | some z =>
          exfalso
          have : ∀ k, q < k → firstN k f ≠ none := by
            intro k
            induction k with
            | zero => intro h; omega
            | succ k ihk =>
              intro h hn
              unfold firstN at hn
              cases e3 : firstN k f with
              | some w => rw [e3] at hn; cases hn
              | none =>
                rw [e3] at hn
                by_cases hk : q = k
                · subst hk; rw [e2] at hn; cases hn
                · exact ihk (by omega) e3
          exact this n hq e
      · rintro ⟨p, h1, h2, h3⟩
        by_cases hp : p = n
        · subst hp; exact h2
        · have := ih.2 ⟨p, by omega, h2, h3⟩
          cases this
theorem firstN_none {α : Type} {f : Nat → Option α} : ∀ {n : Nat}, firstN n f = none ↔ ∀ p, p < n → f p = none := by
  intro n
  induction n with
  | zero => exact ⟨fun _ p h => by omega, fun _ => rfl⟩
  | succ n ih =>
    unfold firstN
    cases e : firstN n f with
    | some z =>
      rw [e] at ih
      constructor
      · intro h; cases h
      · intro h
        have := ih.2 (fun p hp => h p (by omega))
        cases this
    | none =>
      rw [e] at ih
      constructor
      · intro h p hp
        by_cases e2 : p = n
        · subst e2; exact h
        · exact ih.1 rfl p (by omega)
      · intro h; exact h n (by omega)
theorem firstN_congr {α : Type} {n : Nat} {f g : Nat → Option α} (h : ∀ p, p < n → f p = g p) : firstN n f = firstN n g := by
  induction n with
  | zero => rfl
  | succ n ih => rw [firstN_succ, firstN_succ, ih (fun p hp => h p (by omega)), h n (by omega)]
/-- the first placing -/
def frsM (n : Nat) (d : Int) : List Int → Fit → Option (List Nat)
  | [], _ => some []
  | g :: gs, φ => firstN n fun p => if φ g p = true then (frsM n d gs (addF d φ g p)).map (p :: ·) else none
theorem frsM_congr {n : Nat} {d : Int} : ∀ {gs : List Int} {φ ψ : Fit}, (∀ g ∈ gs, 1 ≤ g) → (∀ s : Int, 1 ≤ s → ∀ q, q < n → φ s q = ψ s q) → frsM n d gs φ = frsM n d gs ψ := by
  intro gs
  induction gs with
  | nil => intro φ ψ _ _; rfl
  | cons g gs ih =>
    intro φ ψ hg h
    unfold frsM
    apply firstN_congr
    intro p hp
    rw [h g (hg g (by simp)) p hp]
    rw [ih (ψ := addF d ψ g p) (fun y hy => hg y (by simp [hy])) (fun s hs q hq => by unfold addF; rw [h s hs q hq])]
theorem frs_pos {n : Nat} {d : Int} : ∀ {gs : List Int} {φ : Fit}, 0 < cntW n d gs φ ↔ (frsM n d gs φ).isSome = true := by
  intro gs
  induction gs with
  | nil => intro φ; show 0 < 1 ↔ true = true; simp
  | cons g gs ih =>
    intro φ
    show 0 < sumN n _ ↔ _
    rw [sumN_pos]
    constructor
    · rintro ⟨p, h1, h2⟩
      cases e : frsM n d (g :: gs) φ with
      | some y => rfl
      | none =>
        have := firstN_none.1 e p h1
        by_cases hf : φ g p = true
        · rw [if_pos hf] at h2 this
          have h3 := ih.1 h2
          cases e2 : frsM n d gs (addF d φ g p) with
          | some y => rw [e2] at this; cases this
          | none => rw [e2] at h3; cases h3
        · rw [if_neg hf] at h2; omega
    · intro h
      cases e : frsM n d (g :: gs) φ with
      | none => rw [e] at h; cases h
      | some y =>
        obtain ⟨p, h1, h2, -⟩ := firstN_some.1 e
        by_cases hf : φ g p = true
        · rw [if_pos hf] at h2
          refine ⟨p, h1, ?_⟩
          rw [if_pos hf]
          apply ih.2
          cases e2 : frsM n d gs (addF d φ g p) with
          | some z => rfl
          | none => rw [e2] at h2; cases h2
        · rw [if_neg hf] at h2; cases h2
theorem plR_once {n : Nat} {d : Int} : ∀ {gs : List Int} {φ : Fit} {pl : List Nat} {st : List Nat × Nat}, st.2 = 0 → plR n d true gs φ pl st = match frsM n d gs φ with
    | some y => (pl ++ y, 1)
    | none => st := by
  intro gs
  induction gs with
  | nil =>
    intro φ pl st h
    show (if st.2 = 0 then pl else st.1, st.2 + 1) = (pl ++ [], 1)
    rw [if_pos h, h, List.append_nil]
  | cons g gs ih =>
    intro φ pl st h
    have key : ∀ k, foldN k (fun p st => if true = true ∧ 0 < st.2 then st else if φ g p = true then plR n d true gs (addF d φ g p) (pl ++ [p]) st else st) st = match firstN k (fun p => if φ g p = true then (frsM n d gs (addF d φ g p)).map (p :: ·) else none) with
        | some y => (pl ++ y, 1)
        | none => st := by
      intro k
      induction k with
      | zero => rfl
      | succ k ihk =>
        rw [foldN_succ, ihk, firstN_succ]
        cases e : firstN k (fun p => if φ g p = true then (frsM n d gs (addF d φ g p)).map (p :: ·) else none) with
        | some y => simp
        | none =>
          simp only []
          rw [if_neg (by omega)]
          by_cases hf : φ g k = true
          · rw [if_pos hf, if_pos hf, ih h]
            cases e2 : frsM n d gs (addF d φ g k) with
            | some y => simp
            | none => rfl
          · rw [if_neg hf, if_neg hf]
    exact key n
theorem sumN_mono {a b : Nat} (h : a ≤ b) (f : Nat → Nat) : sumN a f ≤ sumN b f := by
  induction b with
  | zero => have : a = 0 := by omega
            subst this; exact Nat.le_refl _
  | succ b ih =>
    by_cases e : a = b + 1
    · subst e; exact Nat.le_refl _
    · rw [sumN_succ]
      have := ih (by omega)
      omega
/-- one step of the search -/
abbrev plF (n : Nat) (d : Int) (once : Bool) (g : Int) (gs : List Int) (φ : Fit) (pl : List Nat) : Nat → List Nat × Nat → List Nat × Nat := fun p st => if once = true ∧ 0 < st.2 then st else if φ g p = true then plR n d once gs (addF d φ g p) (pl ++ [p]) st else st
theorem plF_def (n : Nat) (d : Int) (once : Bool) (g : Int) (gs : List Int) (φ : Fit) (pl : List Nat) (p : Nat) (st : List Nat × Nat) : plF n d once g gs φ pl p st = if once = true ∧ 0 < st.2 then st else if φ g p = true then plR n d once gs (addF d φ g p) (pl ++ [p]) st else st := rfl
theorem plR_part {n : Nat} {d : Int} {once : Bool} {g : Int} {gs : List Int} {φ : Fit} {pl : List Nat} {st : List Nat × Nat} : ∀ k, (foldN k (plF n d once g gs φ pl) st).2 ≤ st.2 + sumN k (fun p => if φ g p = true then cntW n d gs (addF d φ g p) else 0) := by
  intro k
  induction k with
  | zero => rw [foldN_zero, sumN_zero]; exact Nat.le_refl _
  | succ k ihk =>
    rw [foldN_succ, sumN_succ]
    obtain ⟨X, hX⟩ : ∃ X, foldN k (plF n d once g gs φ pl) st = X := ⟨_, rfl⟩
    rw [hX] at ihk ⊢
    rw [plF_def]
    by_cases hc : once = true ∧ 0 < X.2
    · rw [if_pos hc]; omega
    · rw [if_neg hc]
      by_cases hf : φ g k = true
      · rw [if_pos hf, if_pos hf]
        have := (plR_le (n := n) (d := d) (once := once) (gs := gs) (φ := addF d φ g k) (pl := pl ++ [k]) (st := X)).2.1
        omega
      · rw [if_neg hf, if_neg hf]; omega
/-- what may sit where when some groups sit -/
def phiP (n : Nat) (S : Nat → Bool) (d : Int) (gs : List Int) (pl : List Nat) : Fit := fun s q => fitG n (seatedM S gs (ints pl) pl.length) d s (q : Int)
/-- the search from some places on -/
def plS (n : Nat) (S : Nat → Bool) (d : Int) (gs : List Int) (once : Bool) (pl : List Nat) (st : List Nat × Nat) : List Nat × Nat := plR n d once (gs.drop pl.length) (phiP n S d gs pl) pl st
/-- how many placings there are from some places on -/
def cwS (n : Nat) (S : Nat → Bool) (d : Int) (gs : List Int) (pl : List Nat) : Nat := cntW n d (gs.drop pl.length) (phiP n S d gs pl)
theorem drop_cons {gs : List Int} {i : Nat} (h : i < gs.length) : gs.drop i = gs[i]?.getD 0 :: gs.drop (i + 1) := by
  rw [List.drop_eq_getElem_cons h, List.getElem?_eq_getElem h]; rfl
theorem phi_more {n : Nat} {S : Nat → Bool} {d : Int} {gs : List Int} {pl : List Nat} {p : Nat} (hd : 0 ≤ d) (hg : ∀ g ∈ gs, 1 ≤ g) (hl : pl.length < gs.length) (hf : phiP n S d gs pl (gs[pl.length]?.getD 0) p = true) {s : Int} (hs : 1 ≤ s) {q : Nat} : phiP n S d gs (pl ++ [p]) s q = addF d (phiP n S d gs pl) (gs[pl.length]?.getD 0) p s q := by
  have hm : gs[pl.length]?.getD 0 ∈ gs := by
    rw [List.getElem?_eq_getElem hl]; exact List.getElem_mem hl
  unfold phiP at hf
  obtain ⟨-, h2, -⟩ := fitG_true.1 hf
  have h3 := fit_more (n := n) (T := seatedM S gs (ints pl) pl.length) (T' := seatedM S gs (ints (pl ++ [p])) (pl.length + 1)) (d := d) (g := gs[pl.length]?.getD 0) (p := p) hd (hg _ hm) (by omega) (fun q hq => seat_more rfl q hq) hs (q := q)
  unfold phiP
  rw [List.length_append]
  exact h3
theorem plS_leaf {n : Nat} {S : Nat → Bool} {d : Int} {gs : List Int} {once : Bool} {pl : List Nat} {st : List Nat × Nat} (h : pl.length = gs.length) : plS n S d gs once pl st = (if st.2 = 0 then pl else st.1, st.2 + 1) := by
  unfold plS
  rw [h, List.drop_of_length_le (Nat.le_refl _)]
  rfl
theorem plS_step {n : Nat} {S : Nat → Bool} {d : Int} {gs : List Int} {once : Bool} {pl : List Nat} {st : List Nat × Nat} (hd : 0 ≤ d) (hg : ∀ g ∈ gs, 1 ≤ g) (hl : pl.length < gs.length) :
    plS n S d gs once pl st = foldN n (fun p st => if once = true ∧ 0 < st.2 then st else if phiP n S d gs pl (gs[pl.length]?.getD 0) p = true then plS n S d gs once (pl ++ [p]) st else st) st := by
  show plR n d once (gs.drop pl.length) (phiP n S d gs pl) pl st = _
  rw [drop_cons hl]
  show foldN n _ st = _
  apply foldN_congr
  intro p hp x
  by_cases hc : once = true ∧ 0 < x.2
  · rw [if_pos hc, if_pos hc]
  · rw [if_neg hc, if_neg hc]
    by_cases hf : phiP n S d gs pl (gs[pl.length]?.getD 0) p = true
    · rw [if_pos hf, if_pos hf]
      unfold plS
      rw [show (pl ++ [p]).length = pl.length + 1 by simp]
      exact (plR_congr (fun g h => hg g (List.mem_of_mem_drop h)) (fun s hs q hq => phi_more hd hg hl hf hs)).symm
    · rw [if_neg hf, if_neg hf]
theorem cwS_part {n : Nat} {S : Nat → Bool} {d : Int} {gs : List Int} {once : Bool} {pl : List Nat} {st : List Nat × Nat} {x : Nat} (hd : 0 ≤ d) (hg : ∀ g ∈ gs, 1 ≤ g) (hl : pl.length < gs.length) (hx : x < n) (hf : phiP n S d gs pl (gs[pl.length]?.getD 0) x = true) :
    (foldN x (fun p st => if once = true ∧ 0 < st.2 then st else if phiP n S d gs pl (gs[pl.length]?.getD 0) p = true then plS n S d gs once (pl ++ [p]) st else st) st).2 + cwS n S d gs (pl ++ [x]) ≤ st.2 + cwS n S d gs pl := by
  have e1 : foldN x (fun p st => if once = true ∧ 0 < st.2 then st else if phiP n S d gs pl (gs[pl.length]?.getD 0) p = true then plS n S d gs once (pl ++ [p]) st else st) st = foldN x (plF n d once (gs[pl.length]?.getD 0) (gs.drop (pl.length + 1)) (phiP n S d gs pl) pl) st := by
    apply foldN_congr
    intro p hp y
    rw [plF_def]
    by_cases hc : once = true ∧ 0 < y.2
    · rw [if_pos hc, if_pos hc]
    · rw [if_neg hc, if_neg hc]
      by_cases hf : phiP n S d gs pl (gs[pl.length]?.getD 0) p = true
      · rw [if_pos hf, if_pos hf]
        unfold plS
        rw [show (pl ++ [p]).length = pl.length + 1 by simp]
        exact plR_congr (fun g h => hg g (List.mem_of_mem_drop h)) (fun s hs q hq => phi_more hd hg hl hf hs)
      · rw [if_neg hf, if_neg hf]
  have e2 : cwS n S d gs (pl ++ [x]) = cntW n d (gs.drop (pl.length + 1)) (addF d (phiP n S d gs pl) (gs[pl.length]?.getD 0) x) := by
    unfold cwS
    rw [show (pl ++ [x]).length = pl.length + 1 by simp]
    exact cntW_congr (fun g h => hg g (List.mem_of_mem_drop h)) (fun s hs q hq => phi_more hd hg hl hf hs)
  have e3 : cwS n S d gs pl = sumN n fun p => if phiP n S d gs pl (gs[pl.length]?.getD 0) p = true then cntW n d (gs.drop (pl.length + 1)) (addF d (phiP n S d gs pl) (gs[pl.length]?.getD 0) p) else 0 := by
    unfold cwS
    rw [drop_cons hl]
    rfl
  have h1 := plR_part (n := n) (d := d) (once := once) (g := gs[pl.length]?.getD 0) (gs := gs.drop (pl.length + 1)) (φ := phiP n S d gs pl) (pl := pl) (st := st) x
  have h2 := sumN_mono (show x + 1 ≤ n from hx) (fun p => if phiP n S d gs pl (gs[pl.length]?.getD 0) p = true then cntW n d (gs.drop (pl.length + 1)) (addF d (phiP n S d gs pl) (gs[pl.length]?.getD 0) p) else 0)
  rw [sumN_succ] at h2
  rw [if_pos hf] at h2
  rw [e1, e2, e3]
  omega
/-- which groups can sit where on a line -/
def phiL (n : Nat) (S : Nat → Bool) (d : Int) : Fit := fun s q => fitG n S d s (q : Int)
theorem phiP_nil (n : Nat) (S : Nat → Bool) (d : Int) (gs : List Int) : phiP n S d gs [] = phiL n S d := by
  unfold phiP phiL
  funext s q
  rw [show ([] : List Nat).length = 0 from rfl, seatedM_zero]
/-- how many placings there are -/
def cntP (n : Nat) (S : Nat → Bool) (d : Int) (gs : List Int) : Nat := cntW n d gs (phiL n S d)
/-- the first placing, if there is one -/
def frsP (n : Nat) (S : Nat → Bool) (d : Int) (gs : List Int) : Option (List Nat) := frsM n d gs (phiL n S d)
theorem frsP_pos {n : Nat} {S : Nat → Bool} {d : Int} {gs : List Int} : decide (0 < cntP n S d gs) = (frsP n S d gs).isSome := by
  unfold cntP frsP
  have := frs_pos (n := n) (d := d) (gs := gs) (φ := phiL n S d)
  by_cases h : 0 < cntW n d gs (phiL n S d)
  · rw [decide_eq_true h, this.1 h]
  · rw [decide_eq_false h]
    cases e : (frsM n d gs (phiL n S d)).isSome with
    | false => rfl
    | true => exact absurd (this.2 e) h
theorem plS_all (n : Nat) (S : Nat → Bool) (d : Int) (gs : List Int) : (plS n S d gs false [] ([], 0)).2 = cntP n S d gs := by
  unfold plS cntP
  rw [phiP_nil, List.length_nil, List.drop_zero]
  have := (plR_le (n := n) (d := d) (once := false) (gs := gs) (φ := phiL n S d) (pl := []) (st := ([], 0))).2.2 rfl
  rw [this]
  exact Nat.zero_add _
theorem plS_first (n : Nat) (S : Nat → Bool) (d : Int) (gs : List Int) : (plS n S d gs true [] ([], 0)).1 = (frsP n S d gs).getD [] ∧ decide (0 < (plS n S d gs true [] ([], 0)).2) = (frsP n S d gs).isSome := by
  unfold plS frsP
  rw [phiP_nil, List.length_nil, List.drop_zero, plR_once rfl]
  cases frsM n d gs (phiL n S d) with
  | none => exact ⟨rfl, rfl⟩
  | some y => exact ⟨rfl, rfl⟩
theorem cwS_nil {n : Nat} {S : Nat → Bool} {d : Int} {gs : List Int} (hn : n ≤ 24) (hl : gs.length ≤ 5) (hn1 : 1 ≤ n) : 0 + cwS n S d gs [] ≤ 1000000000 := by
  unfold cwS
  rw [List.length_nil, List.drop_zero, Nat.zero_add]
  refine Nat.le_trans (cntW_le n d _ _) (Nat.le_trans (Nat.pow_le_pow_right (by omega) hl) ?_)
  exact Nat.le_trans (Nat.pow_le_pow_left hn 5) (by decide)
theorem frsM_len {n : Nat} {d : Int} : ∀ {gs : List Int} {φ : Fit} {y : List Nat}, frsM n d gs φ = some y → y.length = gs.length := by
  intro gs
  induction gs with
  | nil => intro φ y h; cases h; rfl
  | cons g gs ih =>
    intro φ y h
    obtain ⟨p, -, h2, -⟩ := firstN_some.1 h
    by_cases hf : φ g p = true
    · rw [if_pos hf] at h2
      cases e : frsM n d gs (addF d φ g p) with
      | none => rw [e] at h2; cases h2
      | some z =>
        rw [e] at h2
        cases h2
        rw [List.length_cons, List.length_cons, ih e]
    · rw [if_neg hf] at h2; cases h2
theorem frsP_len {n : Nat} {S : Nat → Bool} {d : Int} {gs : List Int} : ((frsP n S d gs).getD []).length ≤ gs.length := by
  cases e : frsP n S d gs with
  | none => exact Nat.zero_le _
  | some y => exact Nat.le_of_eq (frsM_len e)
/-- the first seat of the first group of the first placing -/
theorem frsP_step {n : Nat} {S : Nat → Bool} {d g : Int} {gs : List Int} {y : List Nat} (hd : 0 ≤ d) (hg : ∀ x ∈ g :: gs, 1 ≤ x) (h : frsP n S d (g :: gs) = some y) :
    ∃ p y', p < n ∧ y = p :: y' ∧ fitG n S d g (p : Int) = true ∧ frsP n (fun q => S q || (decide ((p : Int) ≤ (q : Int)) && decide ((q : Int) < (p : Int) + g))) d gs = some y' ∧
      ∀ q, q < p → fitG n S d g (q : Int) = true → cntP n (fun t => S t || (decide ((q : Int) ≤ (t : Int)) && decide ((t : Int) < (q : Int) + g))) d gs = 0 := by
  have hmore : ∀ p : Nat, fitG n S d g (p : Int) = true → ∀ s : Int, 1 ≤ s → ∀ q, q < n → phiL n (fun q => S q || (decide ((p : Int) ≤ (q : Int)) && decide ((q : Int) < (p : Int) + g))) d s q = addF d (phiL n S d) g p s q := by
    intro p hp s hs q _
    obtain ⟨-, h2, -⟩ := fitG_true.1 hp
    exact fit_more hd (hg g (by simp)) (by omega) (fun _ _ => rfl) hs
  have hg2 : ∀ x ∈ gs, 1 ≤ x := fun x hx => hg x (by simp [hx])
  obtain ⟨p, h1, h2, h3⟩ := firstN_some.1 h
  by_cases hf : phiL n S d g p = true
  · rw [if_pos hf] at h2
    cases e : frsM n d gs (addF d (phiL n S d) g p) with
    | none => rw [e] at h2; cases h2
    | some z =>
      rw [e] at h2
      cases h2
      refine ⟨p, z, h1, rfl, hf, ?_, fun q hq hfq => ?_⟩
      · unfold frsP
        rw [← e]
        exact frsM_congr hg2 (hmore p hf)
      · have h4 := h3 q hq
        rw [if_pos (show phiL n S d g q = true from hfq)] at h4
        have h5 : frsM n d gs (addF d (phiL n S d) g q) = none := by
          cases e2 : frsM n d gs (addF d (phiL n S d) g q) with
          | none => rfl
          | some z => rw [e2] at h4; cases h4
        unfold cntP
        rw [cntW_congr hg2 (hmore q hfq)]
        have h6 := frs_pos (n := n) (d := d) (gs := gs) (φ := addF d (phiL n S d) g q)
        rw [h5] at h6
        have h7 : ¬ 0 < cntW n d gs (addF d (phiL n S d) g q) := fun h => by have := h6.1 h; cases this
        omega
  · rw [if_neg hf] at h2; cases h2
end Go.Proofs.Ytogdiahojbonaaa
