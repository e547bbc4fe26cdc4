/- Chapter 7: boarding: mathematics. Plain lemmas. -/
import Derived.Test.YtlhnejjciondeaaRowMath
namespace Go.Proofs.Ytlhnejjciondeaa

def updI (F : Nat → Int) (k : Nat) (v : Int) : Nat → Int := fun i => if i = k then v else F i
theorem upd_at (F : Nat → Int) (k : Nat) (v : Int) : updI F k v k = v := if_pos rfl
theorem upd_ne {F : Nat → Int} {k i : Nat} {v : Int} (h : i ≠ k) : updI F k v i = F i := if_neg h
/-- what is known behind a unit: places; where, stowed, entered, sat, waited by rows -/
structure Cab where
  ai : Nat → Int
  at_ : Nat → Int
  st : Nat → Int
  en : Nat → Int
  sa : Nat → Int
  wa : Nat → Int
def act7 (s t : Int) (row : Nat) (c : Cab) : Cab :=
  if 0 < c.sa row then c
  else if c.at_ row < 0 then (if c.ai 0 < 0 then { c with ai := updI c.ai 0 row, at_ := updI c.at_ row 0, en := updI c.en row t } else c)
  else if c.at_ row = row then
    (if c.st row + 1 = s then { c with st := updI c.st row (c.st row + 1), sa := updI c.sa row t, ai := updI c.ai (c.at_ row).toNat (-1) } else { c with st := updI c.st row (c.st row + 1) })
  else if c.ai ((c.at_ row).toNat + 1) < 0 then { c with ai := updI (updI c.ai (c.at_ row).toNat (-1)) ((c.at_ row).toNat + 1) row, at_ := updI c.at_ row (c.at_ row + 1) }
  else { c with wa := updI c.wa row (c.wa row + 1) }
def start7 : Cab := ⟨fun _ => -1, fun _ => -1, fun _ => 0, fun _ => 0, fun _ => 0, fun _ => 0⟩
/-- one unit: the first i travelers -/
def unit7 (s t : Int) (l : List Nat) (c : Cab) : Cab := l.foldl (fun c row => act7 s t row c) c
/-- behind u units -/
def cabU (s : Int) (l : List Nat) : Nat → Cab
  | 0 => start7
  | u + 1 => unit7 s ((u + 1 : Nat) : Int) l (cabU s l u)
theorem unit_take {s t : Int} {l : List Nat} {c : Cab} {i : Nat} (h : i < l.length) : unit7 s t (l.take (i + 1)) c = act7 s t (l[i]?.getD 0) (unit7 s t (l.take i) c) := by
  unfold unit7
  rw [List.take_succ_eq_append_getElem h, List.foldl_append, List.getElem?_eq_getElem h]
  rfl

structure Inv7 (n : Nat) (s : Int) (c : Cab) : Prop where
  at1 : ∀ r, r < n → -1 ≤ c.at_ r ∧ c.at_ r ≤ r
  st1 : ∀ r, r < n → 0 ≤ c.st r ∧ c.st r ≤ s ∧ (c.sa r = 0 → c.st r < s)
  sa1 : ∀ r, r < n → 0 ≤ c.sa r
  ai0 : ∀ p, p < n → -1 ≤ c.ai p
  ai1 : ∀ p, p < n → 0 ≤ c.ai p → ∃ r, r < n ∧ c.ai p = r ∧ c.at_ r = p ∧ c.sa r = 0
  ai2 : ∀ r, r < n → 0 ≤ c.at_ r → c.sa r = 0 → c.ai (c.at_ r).toNat = r
theorem inv_start (n : Nat) {s : Int} (hs : 1 ≤ s) : Inv7 n s start7 := by
  refine ⟨fun r _ => ⟨Int.le_refl _, by show (-1 : Int) ≤ _; omega⟩, fun r _ => ⟨Int.le_refl _, by show (0 : Int) ≤ s; omega, fun _ => by show (0 : Int) < s; omega⟩, fun r _ => Int.le_refl _, fun p _ => Int.le_refl _, fun p _ h => ?_, fun r _ h => ?_⟩
  · have : (0 : Int) ≤ -1 := h; omega
  · have : (0 : Int) ≤ -1 := h; omega

/-- who cannot act, but wait -/
def stuck7 (c : Cab) (row : Nat) : Prop := 0 < c.sa row ∨ c.sa row ≤ 0 ∧ (c.at_ row < 0 ∧ 0 ≤ c.ai 0 ∨ 0 ≤ c.at_ row ∧ c.at_ row ≠ row ∧ 0 ≤ c.ai ((c.at_ row).toNat + 1))
/-- the same but for waiting -/
def same7 (c d : Cab) : Prop := d.ai = c.ai ∧ d.at_ = c.at_ ∧ d.st = c.st ∧ d.sa = c.sa
theorem act_stuck {s t : Int} {row : Nat} {c : Cab} (h : stuck7 c row) : same7 c (act7 s t row c) := by
  unfold act7
  rcases h with h | ⟨h0, h | h⟩
  · rw [if_pos h]; exact ⟨rfl, rfl, rfl, rfl⟩
  · rw [if_neg (by omega), if_pos h.1, if_neg (by omega)]; exact ⟨rfl, rfl, rfl, rfl⟩
  · rw [if_neg (by omega), if_neg (by omega), if_neg h.2.1, if_neg (by omega)]; exact ⟨rfl, rfl, rfl, rfl⟩

theorem act_inv {n : Nat} {s t : Int} {row : Nat} {c : Cab} (hc : Inv7 n s c) (hr : row < n) (ht : 1 ≤ t) : Inv7 n s (act7 s t row c) := by
  have h1 := hc.at1 row hr
  have h2 := hc.st1 row hr
  have h3 := hc.sa1 row hr
  unfold act7
  by_cases e1 : 0 < c.sa row
  · rw [if_pos e1]; exact hc
  rw [if_neg e1]
  have hs0 : c.sa row = 0 := by omega
  by_cases e2 : c.at_ row < 0
  · rw [if_pos e2]
    by_cases e3 : c.ai 0 < 0
    · rw [if_pos e3]
      refine ⟨fun r hr' => ?_, hc.st1, hc.sa1, fun p hp => ?_, fun p hp h => ?_, fun r hr' ha hz => ?_⟩
      · show -1 ≤ updI c.at_ row 0 r ∧ updI c.at_ row 0 r ≤ r
        by_cases e : r = row
        · rw [e, upd_at]; omega
        · rw [upd_ne e]; exact hc.at1 r hr'
      · show -1 ≤ updI c.ai 0 row p
        by_cases e : p = 0
        · rw [e, upd_at]; omega
        · rw [upd_ne e]; exact hc.ai0 p hp
      · change 0 ≤ updI c.ai 0 row p at h
        show ∃ r, r < n ∧ updI c.ai 0 row p = r ∧ updI c.at_ row 0 r = p ∧ c.sa r = 0
        by_cases e : p = 0
        · exact ⟨row, hr, by rw [e, upd_at], by rw [upd_at, e]; rfl, hs0⟩
        · rw [upd_ne e] at h ⊢
          obtain ⟨r, q1, q2, q3, q4⟩ := hc.ai1 p hp h
          refine ⟨r, q1, q2, ?_, q4⟩
          rw [upd_ne (by intro e5; rw [e5] at q3; omega)]; exact q3
      · change 0 ≤ updI c.at_ row 0 r at ha
        show updI c.ai 0 row (updI c.at_ row 0 r).toNat = r
        by_cases e : r = row
        · rw [e, upd_at]; exact upd_at _ _ _
        · rw [upd_ne e] at ha ⊢
          have q := hc.ai2 r hr' ha hz
          rw [upd_ne (by
            intro e5
            rw [e5] at q
            omega)]
          exact q
    · rw [if_neg e3]; exact hc
  rw [if_neg e2]
  have hat := hc.ai2 row hr (by omega) hs0
  by_cases e3 : c.at_ row = row
  · rw [if_pos e3]
    by_cases e4 : c.st row + 1 = s
    · rw [if_pos e4]
      have htn : (c.at_ row).toNat = row := by omega
      rw [htn] at hat ⊢
      refine ⟨hc.at1, fun r hr' => ?_, fun r hr' => ?_, fun p hp => ?_, fun p hp h => ?_, fun r hr' ha hz => ?_⟩
      · show 0 ≤ updI c.st row (c.st row + 1) r ∧ updI c.st row (c.st row + 1) r ≤ s ∧ (updI c.sa row t r = 0 → updI c.st row (c.st row + 1) r < s)
        by_cases e : r = row
        · rw [e, upd_at, upd_at]
          exact ⟨by omega, by omega, fun h => by omega⟩
        · rw [upd_ne e, upd_ne e]; exact hc.st1 r hr'
      · show 0 ≤ updI c.sa row t r
        by_cases e : r = row
        · rw [e, upd_at]; omega
        · rw [upd_ne e]; exact hc.sa1 r hr'
      · show -1 ≤ updI c.ai row (-1) p
        by_cases e : p = row
        · rw [e, upd_at]; exact Int.le_refl _
        · rw [upd_ne e]; exact hc.ai0 p hp
      · change 0 ≤ updI c.ai row (-1) p at h
        show ∃ r, r < n ∧ updI c.ai row (-1) p = r ∧ c.at_ r = p ∧ updI c.sa row t r = 0
        by_cases e : p = row
        · rw [e, upd_at] at h; omega
        · rw [upd_ne e] at h ⊢
          obtain ⟨r, q1, q2, q3, q4⟩ := hc.ai1 p hp h
          refine ⟨r, q1, q2, q3, ?_⟩
          rw [upd_ne (by intro e5; rw [e5] at q3; omega)]; exact q4
      · change updI c.sa row t r = 0 at hz
        show updI c.ai row (-1) (c.at_ r).toNat = r
        have er : r ≠ row := by
          intro e5
          rw [e5, upd_at] at hz
          omega
        rw [upd_ne er] at hz
        have ha' : 0 ≤ c.at_ r := ha
        have q := hc.ai2 r hr' ha' hz
        rw [upd_ne (by intro e5; rw [e5, hat] at q; omega)]
        exact q
    · rw [if_neg e4]
      refine ⟨hc.at1, fun r hr' => ?_, hc.sa1, hc.ai0, hc.ai1, hc.ai2⟩
      show 0 ≤ updI c.st row (c.st row + 1) r ∧ updI c.st row (c.st row + 1) r ≤ s ∧ (c.sa r = 0 → updI c.st row (c.st row + 1) r < s)
      have h5 := h2.2.2 hs0
      by_cases e : r = row
      · rw [e, upd_at]
        exact ⟨by omega, by omega, fun _ => by omega⟩
      · rw [upd_ne e]; exact hc.st1 r hr'
  rw [if_neg e3]
  by_cases e4 : c.ai ((c.at_ row).toNat + 1) < 0
  · rw [if_pos e4]
    obtain ⟨a, ha⟩ : ∃ a : Nat, c.at_ row = a := ⟨(c.at_ row).toNat, by omega⟩
    have htn : (c.at_ row).toNat = a := by omega
    have har : a < row := by omega
    rw [htn] at hat e4 ⊢
    rw [ha]
    refine ⟨fun r hr' => ?_, hc.st1, hc.sa1, fun p hp => ?_, fun p hp h => ?_, fun r hr' hb hz => ?_⟩
    · show -1 ≤ updI c.at_ row ((a : Int) + 1) r ∧ updI c.at_ row ((a : Int) + 1) r ≤ r
      by_cases e : r = row
      · rw [e, upd_at]; omega
      · rw [upd_ne e]; exact hc.at1 r hr'
    · show -1 ≤ updI (updI c.ai a (-1)) (a + 1) row p
      by_cases e : p = a + 1
      · rw [e, upd_at]; omega
      · rw [upd_ne e]
        by_cases e' : p = a
        · rw [e', upd_at]; exact Int.le_refl _
        · rw [upd_ne e']; exact hc.ai0 p hp
    · change 0 ≤ updI (updI c.ai a (-1)) (a + 1) row p at h
      show ∃ r, r < n ∧ updI (updI c.ai a (-1)) (a + 1) row p = r ∧ updI c.at_ row ((a : Int) + 1) r = p ∧ c.sa r = 0
      by_cases e : p = a + 1
      · exact ⟨row, hr, by rw [e, upd_at], by rw [upd_at, e]; omega, hs0⟩
      · rw [upd_ne e] at h ⊢
        by_cases e' : p = a
        · rw [e', upd_at] at h; omega
        · rw [upd_ne e'] at h ⊢
          obtain ⟨r, q1, q2, q3, q4⟩ := hc.ai1 p hp h
          refine ⟨r, q1, q2, ?_, q4⟩
          rw [upd_ne (by intro e5; rw [e5, ha] at q3; omega)]; exact q3
    · change 0 ≤ updI c.at_ row ((a : Int) + 1) r at hb
      show updI (updI c.ai a (-1)) (a + 1) row (updI c.at_ row ((a : Int) + 1) r).toNat = r
      by_cases e : r = row
      · rw [e, upd_at, show ((a : Int) + 1).toNat = a + 1 by omega, upd_at]
      · rw [upd_ne e] at hb ⊢
        have hz' : c.sa r = 0 := hz
        have q := hc.ai2 r hr' hb hz'
        rw [upd_ne (by intro e5; rw [e5] at q; omega), upd_ne (by intro e5; rw [e5, hat] at q; omega)]
        exact q
  · rw [if_neg e4]; exact ⟨hc.at1, hc.st1, hc.sa1, hc.ai0, hc.ai1, hc.ai2⟩

/-- what is left to do -/
def rem7 (s : Int) (c : Cab) (r : Nat) : Int := if 0 < c.sa r then 0 else (r : Int) - c.at_ r + (s - c.st r)
def sumI (F : Nat → Int) : Nat → Int
  | 0 => 0
  | k + 1 => sumI F k + F k
theorem sumI_congr {F G : Nat → Int} : ∀ {k : Nat}, (∀ j, j < k → F j = G j) → sumI F k = sumI G k
  | 0, _ => rfl
  | k + 1, h => by show sumI F k + F k = sumI G k + G k; rw [sumI_congr (fun j hj => h j (by omega)), h k (by omega)]
theorem sumI_one {F G : Nat → Int} {x : Nat} {d : Int} (hd : G x = F x + d) (h : ∀ j, j ≠ x → G j = F j) : ∀ {k : Nat}, x < k → sumI G k = sumI F k + d
  | 0, hx => by omega
  | k + 1, hx => by
    show sumI G k + G k = sumI F k + F k + d
    by_cases e : x = k
    · rw [sumI_congr (G := F) (fun j hj => h j (by omega)), ← e, hd]; omega
    · rw [sumI_one hd h (by omega), h k (fun e' => e e'.symm)]; omega
theorem sumI_nonneg {F : Nat → Int} : ∀ {k : Nat}, (∀ j, j < k → 0 ≤ F j) → 0 ≤ sumI F k
  | 0, _ => Int.le_refl _
  | k + 1, h => by have := sumI_nonneg (F := F) (k := k) (fun j hj => h j (by omega)); have := h k (by omega); show 0 ≤ sumI F k + F k; omega
def left7 (n : Nat) (s : Int) (c : Cab) : Int := sumI (rem7 s c) n
theorem rem_nonneg {n : Nat} {s : Int} {c : Cab} (hc : Inv7 n s c) {r : Nat} (hr : r < n) : 0 ≤ rem7 s c r := by
  have h1 := hc.at1 r hr
  have h2 := hc.st1 r hr
  unfold rem7
  split <;> omega
theorem left_nonneg {n : Nat} {s : Int} {c : Cab} (hc : Inv7 n s c) : 0 ≤ left7 n s c := sumI_nonneg fun j hj => rem_nonneg hc hj
theorem left_same {n : Nat} {s : Int} {c d : Cab} (h : same7 c d) : left7 n s d = left7 n s c := by
  unfold left7
  refine sumI_congr fun j _ => ?_
  unfold rem7
  rw [h.2.1, h.2.2.1, h.2.2.2]
theorem act_moves {n : Nat} {s t : Int} {row : Nat} {c : Cab} (hc : Inv7 n s c) (hr : row < n) (ht : 1 ≤ t) (h : ¬ stuck7 c row) : left7 n s (act7 s t row c) = left7 n s c + (-1) := by
  have h1 := hc.at1 row hr
  have h2 := hc.st1 row hr
  have h3 := hc.sa1 row hr
  have e1 : ¬ 0 < c.sa row := fun e => h (.inl e)
  have hs0 : c.sa row = 0 := by omega
  have h5 := h2.2.2 hs0
  unfold left7
  refine sumI_one (x := row) ?_ ?_ hr
  · unfold act7
    rw [if_neg e1]
    by_cases e2 : c.at_ row < 0
    · rw [if_pos e2]
      have e3 : c.ai 0 < 0 := by
        refine Classical.byContradiction fun e => h (.inr ⟨by omega, .inl ⟨e2, by omega⟩⟩)
      rw [if_pos e3]
      unfold rem7
      show (if 0 < c.sa row then (0 : Int) else (row : Int) - updI c.at_ row 0 row + (s - c.st row)) = (if 0 < c.sa row then 0 else _) + (-1)
      rw [if_neg e1, if_neg e1, upd_at]
      omega
    · rw [if_neg e2]
      by_cases e3 : c.at_ row = row
      · rw [if_pos e3]
        by_cases e4 : c.st row + 1 = s
        · rw [if_pos e4]
          unfold rem7
          show (if 0 < updI c.sa row t row then (0 : Int) else _) = (if 0 < c.sa row then 0 else _) + (-1)
          rw [upd_at, if_pos (by omega), if_neg e1]
          omega
        · rw [if_neg e4]
          unfold rem7
          show (if 0 < c.sa row then (0 : Int) else (row : Int) - c.at_ row + (s - updI c.st row (c.st row + 1) row)) = (if 0 < c.sa row then 0 else _) + (-1)
          rw [if_neg e1, if_neg e1, upd_at]
          omega
      · rw [if_neg e3]
        have e4 : c.ai ((c.at_ row).toNat + 1) < 0 := by
          refine Classical.byContradiction fun e => h (.inr ⟨by omega, .inr ⟨by omega, e3, by omega⟩⟩)
        rw [if_pos e4]
        unfold rem7
        show (if 0 < c.sa row then (0 : Int) else (row : Int) - updI c.at_ row (c.at_ row + 1) row + (s - c.st row)) = (if 0 < c.sa row then 0 else _) + (-1)
        rw [if_neg e1, if_neg e1, upd_at]
        omega
  · intro j hj
    unfold act7 rem7
    repeat' split
    all_goals simp_all [updI]

theorem not_all_stuck {n : Nat} {s : Int} {c : Cab} (hc : Inv7 n s c) (hu : ∃ r, r < n ∧ c.sa r = 0) : ∃ r, r < n ∧ ¬ stuck7 c r := by
  refine Classical.byContradiction fun hno => ?_
  have hall : ∀ r, r < n → stuck7 c r := fun r hr => Classical.byContradiction fun h => hno ⟨r, hr, h⟩
  have key : ∀ k : Nat, ∃ r, r < n ∧ c.sa r = 0 ∧ (k : Int) ≤ c.at_ r := by
    intro k
    induction k with
    | zero =>
      obtain ⟨r, hr, hz⟩ := hu
      by_cases e : 0 ≤ c.at_ r
      · exact ⟨r, hr, hz, e⟩
      · rcases hall r hr with h | ⟨-, h | h⟩
        · omega
        · obtain ⟨q, q1, q2, q3, q4⟩ := hc.ai1 0 (by omega) h.2
          exact ⟨q, q1, q4, by rw [q3]; exact Int.le_refl _⟩
        · omega
    | succ k ih =>
      obtain ⟨r, hr, hz, ha⟩ := ih
      have h1 := hc.at1 r hr
      rcases hall r hr with h | ⟨-, h | h⟩
      · omega
      · omega
      · obtain ⟨q, q1, q2, q3, q4⟩ := hc.ai1 ((c.at_ r).toNat + 1) (by omega) h.2.2
        exact ⟨q, q1, q4, by rw [q3]; push_cast; omega⟩
  obtain ⟨r, hr, -, ha⟩ := key n
  have := hc.at1 r hr
  omega

theorem unit_ok {n : Nat} {s t : Int} (ht : 1 ≤ t) : ∀ {l : List Nat} {c : Cab}, Inv7 n s c → (∀ x ∈ l, x < n) → Inv7 n s (unit7 s t l c) ∧ (left7 n s (unit7 s t l c) < left7 n s c ∨ same7 c (unit7 s t l c) ∧ ∀ x ∈ l, stuck7 c x)
  | [], c, hc, _ => ⟨hc, .inr ⟨⟨rfl, rfl, rfl, rfl⟩, fun x hx => by simp at hx⟩⟩
  | x :: l, c, hc, hl => by
    have hx := hl x (List.mem_cons_self ..)
    have hi := act_inv (t := t) hc hx ht
    obtain ⟨h1, h2⟩ := unit_ok (s := s) ht hi (fun y hy => hl y (List.mem_cons_of_mem _ hy))
    have e : unit7 s t (x :: l) c = unit7 s t l (act7 s t x c) := rfl
    rw [e]
    refine ⟨h1, ?_⟩
    by_cases hst : stuck7 c x
    · have hs := act_stuck (s := s) (t := t) hst
      rw [left_same hs] at h2
      rcases h2 with h2 | ⟨h2, h3⟩
      · exact .inl h2
      · refine .inr ⟨⟨h2.1.trans hs.1, h2.2.1.trans hs.2.1, h2.2.2.1.trans hs.2.2.1, h2.2.2.2.trans hs.2.2.2⟩, fun y hy => ?_⟩
        rcases List.mem_cons.1 hy with e | hy
        · rw [e]; exact hst
        · have h4 := h3 y hy
          unfold stuck7 at h4 ⊢
          rw [hs.1, hs.2.1, hs.2.2.2] at h4
          exact h4
    · have hm := act_moves (t := t) hc hx ht hst
      refine .inl ?_
      rcases h2 with h2 | ⟨h2, -⟩
      · omega
      · rw [left_same h2]; omega

theorem cab_inv {n : Nat} {s : Int} {l : List Nat} (hs : 1 ≤ s) (hl : ∀ x ∈ l, x < n) : ∀ u, Inv7 n s (cabU s l u)
  | 0 => inv_start n hs
  | u + 1 => (unit_ok (t := ((u + 1 : Nat) : Int)) (by omega) (cab_inv hs hl u) hl).1
def allSat (n : Nat) (c : Cab) : Bool := (List.range n).all (fun r => decide (c.sa r ≠ 0))
theorem all_not {n : Nat} {c : Cab} (h : allSat n c = false) : ∃ r, r < n ∧ c.sa r = 0 := by
  unfold allSat at h
  rw [List.all_eq_false] at h
  obtain ⟨r, hr, h⟩ := h
  exact ⟨r, List.mem_range.1 hr, by simpa using h⟩
theorem cab_left {n : Nat} {s : Int} {l : List Nat} (hs : 1 ≤ s) (hl : ∀ x ∈ l, x < n) (ha : ∀ r, r < n → r ∈ l) : ∀ u, (∀ v, v < u → allSat n (cabU s l v) = false) → left7 n s (cabU s l u) + (u : Int) ≤ left7 n s start7
  | 0, _ => by show left7 n s start7 + 0 ≤ _; omega
  | u + 1, h => by
    have ih := cab_left hs hl ha u (fun v hv => h v (by omega))
    have hi := cab_inv hs hl u
    obtain ⟨r, hr, hns⟩ := not_all_stuck hi (all_not (h u (by omega)))
    rcases (unit_ok (t := ((u + 1 : Nat) : Int)) (by omega) hi hl).2 with h1 | ⟨-, h1⟩
    · show left7 n s (unit7 s _ l (cabU s l u)) + ((u + 1 : Nat) : Int) ≤ _
      push_cast at h1 ⊢
      omega
    · exact absurd (h1 r (ha r hr)) hns
theorem left_start {n : Nat} {s : Int} (hn : n ≤ 10) (hs1 : 1 ≤ s) (hs : s ≤ 5) : left7 n s start7 ≤ 150 := by
  have key : ∀ k : Nat, k ≤ 10 → sumI (rem7 s start7) k ≤ 15 * (k : Int) := by
    intro k
    induction k with
    | zero => intro _; exact Int.le_refl _
    | succ k ih =>
      intro hk
      have := ih (by omega)
      show sumI (rem7 s start7) k + rem7 s start7 k ≤ _
      have e : rem7 s start7 k = (k : Int) - (-1) + (s - 0) := rfl
      rw [e]
      push_cast
      omega
  have := key n hn
  unfold left7
  omega
/-- the last unit -/
theorem fin_exists {n : Nat} {s : Int} {l : List Nat} (hn : n ≤ 10) (hs1 : 1 ≤ s) (hs : s ≤ 5) (hl : ∀ x ∈ l, x < n) (ha : ∀ r, r < n → r ∈ l) : ∃ u, u ≤ 151 ∧ allSat n (cabU s l u) = true ∧ ∀ v, v < u → allSat n (cabU s l v) = false := by
  have hex : ∃ u, u ≤ 151 ∧ allSat n (cabU s l u) = true := by
    refine Classical.byContradiction fun hno => ?_
    have hall : ∀ v, v < 151 → allSat n (cabU s l v) = false := fun v hv => by
      cases h : allSat n (cabU s l v) with
      | false => rfl
      | true => exact absurd ⟨v, by omega, h⟩ hno
    have h1 := cab_left hs1 hl ha 151 hall
    have h2 := left_start (n := n) hn hs1 hs
    have h3 := left_nonneg (cab_inv hs1 hl 151)
    omega
  have hfirst : ∀ k, (∃ u, u ≤ k ∧ allSat n (cabU s l u) = true) → ∃ u, u ≤ k ∧ allSat n (cabU s l u) = true ∧ ∀ v, v < u → allSat n (cabU s l v) = false := by
    intro k
    induction k with
    | zero =>
      rintro ⟨u, hu, h⟩
      exact ⟨u, hu, h, fun v hv => by omega⟩
    | succ k ih =>
      rintro ⟨u, hu, h⟩
      by_cases e : ∃ u, u ≤ k ∧ allSat n (cabU s l u) = true
      · obtain ⟨v, h1, h2, h3⟩ := ih e
        exact ⟨v, by omega, h2, h3⟩
      · refine ⟨u, hu, h, fun v hv => ?_⟩
        cases h' : allSat n (cabU s l v) with
        | false => rfl
        | true => exact absurd ⟨v, by omega, h'⟩ e
  exact hfirst 151 hex
end Go.Proofs.Ytlhnejjciondeaa
