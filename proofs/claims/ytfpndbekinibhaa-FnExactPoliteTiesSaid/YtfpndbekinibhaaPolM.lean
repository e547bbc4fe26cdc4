/- Polite seats as mathematics: the farthest of a list, one after the other, and all at once. Plain lemmas. -/
import Derived.Test.YtfpndbekinibhaaFar
namespace Go.Proofs.Ytfpndbekinibhaa

/-- the greatest number, at least b -/
def mostM (f : Nat → Nat) (l : List Nat) (b : Nat) : Nat := l.foldl (fun b p => max b (f p)) b
theorem mostM_snoc (f : Nat → Nat) (l : List Nat) (p b : Nat) : mostM f (l ++ [p]) b = max (mostM f l b) (f p) := by simp [mostM, List.foldl_append]
theorem mostM_ge (f : Nat → Nat) : ∀ (l : List Nat) (b : Nat), b ≤ mostM f l b ∧ ∀ p ∈ l, f p ≤ mostM f l b := by
  intro l
  induction l with
  | nil => intro b; exact ⟨Nat.le_refl _, fun p hp => by cases hp⟩
  | cons y l ih =>
    intro b
    obtain ⟨h1, h2⟩ := ih (max b (f y))
    show b ≤ mostM f l (max b (f y)) ∧ ∀ p ∈ y :: l, f p ≤ mostM f l (max b (f y))
    refine ⟨by omega, fun p hp => ?_⟩
    rcases List.mem_cons.1 hp with e | e
    · subst e; omega
    · exact h2 p e
theorem mostM_is (f : Nat → Nat) : ∀ (l : List Nat) (b : Nat), mostM f l b = b ∨ ∃ p ∈ l, mostM f l b = f p := by
  intro l
  induction l with
  | nil => intro b; exact .inl rfl
  | cons y l ih =>
    intro b
    show mostM f l (max b (f y)) = b ∨ ∃ p ∈ y :: l, mostM f l (max b (f y)) = f p
    rcases ih (max b (f y)) with h | ⟨p, hp, h⟩
    · rcases Nat.le_total (f y) b with h' | h'
      · left; rw [h]; omega
      · right; exact ⟨y, by simp, by rw [h]; omega⟩
    · right; exact ⟨p, by simp [hp], h⟩
theorem mostM_le (f : Nat → Nat) (l : List Nat) (b c : Nat) (hb : b ≤ c) (h : ∀ p ∈ l, f p ≤ c) : mostM f l b ≤ c := by
  rcases mostM_is f l b with e | ⟨p, hp, e⟩
  · rw [e]; exact hb
  · rw [e]; exact h p hp
/-- those for which it is so much -/
def atM (f : Nat → Nat) (l : List Nat) (m : Nat) : List Nat := l.filter fun p => decide (f p = m)
theorem atM_more {f : Nat → Nat} {l : List Nat} {p b : Nat} (h : mostM f l b < f p) : atM f (l ++ [p]) (f p) = [p] := by
  unfold atM
  rw [List.filter_append]
  have e : l.filter (fun q => decide (f q = f p)) = [] := by
    rw [List.filter_eq_nil_iff]
    intro q hq
    have := (mostM_ge f l b).2 q hq
    simp; omega
  rw [e]; simp
theorem atM_same {f : Nat → Nat} {l : List Nat} {p m : Nat} (h : f p = m) : atM f (l ++ [p]) m = atM f l m ++ [p] := by
  unfold atM
  rw [List.filter_append]
  simp [h]
theorem atM_less {f : Nat → Nat} {l : List Nat} {p m : Nat} (h : ¬ f p = m) : atM f (l ++ [p]) m = atM f l m := by
  unfold atM
  rw [List.filter_append]
  simp [h]

/-- the polite seats of a Row, if their farness is at least so much -/
def polM (n : Nat) (ring : Bool) (S : Nat → Bool) (least : Nat) : List Nat :=
  atM (farM n ring (tk n S)) (tk n fun q => !S q) (mostM (farM n ring (tk n S)) (tk n fun q => !S q) least)
theorem far_taken {n : Nat} {ring : Bool} {S : Nat → Bool} {p : Nat} (hp : p < n) (h : S p = true) : farM n ring (tk n S) p = 0 := by
  have := (farL_le (gapM n ring p) (tk n S) n).2 p (mem_tk.2 ⟨hp, h⟩)
  have e : gapM n ring p p = 0 := by unfold gapM; cases ring <;> simp
  unfold farM
  omega
theorem far_free {n : Nat} {ring : Bool} {S : Nat → Bool} {p : Nat} (hp : p < n) (h : S p = false) : 1 ≤ farM n ring (tk n S) p := by
  unfold farM
  rcases farL_is (gapM n ring p) (tk n S) n with e | ⟨q, hq, e⟩
  · rw [e]; omega
  · rw [e]
    obtain ⟨h1, h2⟩ := mem_tk.1 hq
    have hne : p ≠ q := fun e => by rw [e, h2] at h; cases h
    unfold gapM
    cases ring <;> simp <;> omega
/-- what the specification says: the seats whose farness is the greatest of all, if that is not 0 -/
def polS (n : Nat) (ring : Bool) (S : Nat → Bool) : List Nat :=
  if 0 < mostM (farM n ring (tk n S)) (List.range n) 0 then tk n fun p => decide (farM n ring (tk n S) p = mostM (farM n ring (tk n S)) (List.range n) 0) else []
theorem most_same {n : Nat} {ring : Bool} {S : Nat → Bool} : mostM (farM n ring (tk n S)) (tk n fun q => !S q) 0 = mostM (farM n ring (tk n S)) (List.range n) 0 := by
  apply Nat.le_antisymm
  · exact mostM_le _ _ _ _ (Nat.zero_le _) fun p hp => (mostM_ge _ (List.range n) 0).2 p (by simpa using (mem_tk.1 hp).1)
  · refine mostM_le _ _ _ _ (Nat.zero_le _) fun p hp => ?_
    have hpn : p < n := by simpa using hp
    cases h : S p with
    | true => rw [far_taken hpn h]; exact Nat.zero_le _
    | false => exact (mostM_ge _ _ _).2 p (mem_tk.2 ⟨hpn, by simp [h]⟩)
theorem pol_same (n : Nat) (ring : Bool) (S : Nat → Bool) : polM n ring S 0 = polS n ring S := by
  unfold polM polS
  rw [most_same]
  obtain ⟨m, hm⟩ : ∃ m, mostM (farM n ring (tk n S)) (List.range n) 0 = m := ⟨_, rfl⟩
  rw [hm]
  by_cases h0 : 0 < m
  · rw [if_pos h0]
    unfold atM
    show (tk n fun q => !S q).filter _ = _
    unfold tk
    rw [List.filter_filter]
    apply List.filter_congr
    intro p hp
    have hpn : p < n := by simpa using hp
    cases h : S p with
    | true =>
      have := far_taken (ring := ring) hpn h
      unfold tk at this
      simp [this]; omega
    | false => simp
  · rw [if_neg h0]
    have hm0 : m = 0 := by omega
    unfold atM
    rw [List.filter_eq_nil_iff]
    intro p hp
    obtain ⟨h1, h2⟩ := mem_tk.1 hp
    have := far_free (ring := ring) h1 (by simpa using h2)
    simp; omega
theorem polM_len (n : Nat) (ring : Bool) (S : Nat → Bool) (least : Nat) : (polM n ring S least).length ≤ n := by
  unfold polM atM
  have h1 := List.length_filter_le (fun p => decide (farM n ring (tk n S) p = mostM (farM n ring (tk n S)) (tk n fun q => !S q) least)) (tk n fun q => !S q)
  have h2 := tk_length_le n (fun q => !S q)
  omega
end Go.Proofs.Ytfpndbekinibhaa
