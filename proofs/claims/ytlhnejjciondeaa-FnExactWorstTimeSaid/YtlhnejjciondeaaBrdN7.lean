/- Chapter 7: boarding: what the developers' travelers go by: mathematics. Plain lemmas. -/
import Derived.Test.YtlhnejjciondeaaBrdM7
namespace Go.Proofs.Ytlhnejjciondeaa

/-- who sits has come to the row and stowed all -/
def fin7 (n : Nat) (s : Int) (c : Cab) : Prop := ∀ r, r < n → 0 < c.sa r → c.at_ r = r ∧ c.st r = s
theorem fin_start (n : Nat) (s : Int) : fin7 n s start7 := fun r _ h => by
  have : (0 : Int) < 0 := h; omega
theorem act_other {s t : Int} {row r : Nat} {c : Cab} (h : r ≠ row) : (act7 s t row c).at_ r = c.at_ r ∧ (act7 s t row c).st r = c.st r ∧ (act7 s t row c).sa r = c.sa r := by
  unfold act7
  repeat' split
  all_goals exact ⟨by first | rfl | exact upd_ne h, by first | rfl | exact upd_ne h, by first | rfl | exact upd_ne h⟩
theorem act_sits {s t : Int} {row : Nat} {c : Cab} (h : 0 < c.sa row) : act7 s t row c = c := by
  unfold act7; rw [if_pos h]
theorem act_fin {n : Nat} {s t : Int} {row : Nat} {c : Cab} (hf : fin7 n s c) : fin7 n s (act7 s t row c) := by
  intro r hr h
  by_cases e : r = row
  · subst e
    by_cases hs : 0 < c.sa r
    · rw [act_sits hs]; exact hf r hr hs
    · unfold act7 at h ⊢
      rw [if_neg hs] at h ⊢
      by_cases e2 : c.at_ r < 0
      · rw [if_pos e2] at h
        split at h <;> exact absurd h hs
      · rw [if_neg e2] at h ⊢
        by_cases e3 : c.at_ r = r
        · rw [if_pos e3] at h ⊢
          by_cases e4 : c.st r + 1 = s
          · rw [if_pos e4]
            exact ⟨e3, (upd_at _ _ _).trans e4⟩
          · rw [if_neg e4] at h; exact absurd h hs
        · rw [if_neg e3] at h
          split at h <;> exact absurd h hs
  · obtain ⟨h1, h2, h3⟩ := act_other (s := s) (t := t) (c := c) e
    rw [h1, h2]
    rw [h3] at h
    exact hf r hr h
theorem unit_fin {n : Nat} {s t : Int} : ∀ {l : List Nat} {c : Cab}, fin7 n s c → fin7 n s (unit7 s t l c)
  | [], _, h => h
  | x :: l, c, h => unit_fin (l := l) (c := act7 s t x c) (act_fin h)
theorem cab_fin {n : Nat} {s : Int} {l : List Nat} : ∀ u, fin7 n s (cabU s l u)
  | 0 => fin_start n s
  | u + 1 => unit_fin (cab_fin u)
theorem act_sa {s t : Int} {row r : Nat} {c : Cab} : (act7 s t row c).sa r = c.sa r ∨ c.sa r ≤ 0 ∧ (act7 s t row c).sa r = t := by
  by_cases e : r = row
  · subst e
    by_cases hs : 0 < c.sa r
    · rw [act_sits hs]; exact .inl rfl
    · unfold act7
      rw [if_neg hs]
      repeat' split
      all_goals first | exact .inl rfl | exact .inr ⟨by omega, upd_at _ _ _⟩
  · exact .inl (act_other e).2.2
theorem unit_sa {s t : Int} (ht : 1 ≤ t) {r : Nat} : ∀ {l : List Nat} {c : Cab}, (unit7 s t l c).sa r = c.sa r ∨ c.sa r ≤ 0 ∧ (unit7 s t l c).sa r = t
  | [], _ => .inl rfl
  | x :: l, c => by
    have h := unit_sa (s := s) ht (r := r) (l := l) (c := act7 s t x c)
    change (unit7 s t l (act7 s t x c)).sa r = c.sa r ∨ c.sa r ≤ 0 ∧ (unit7 s t l (act7 s t x c)).sa r = t
    rcases act_sa (s := s) (t := t) (row := x) (r := r) (c := c) with h1 | ⟨h1, h2⟩
    · rw [h1] at h; exact h
    · rw [h2] at h
      rcases h with h | ⟨h, -⟩
      · exact .inr ⟨h1, h⟩
      · omega
theorem cab_sa {s : Int} {l : List Nat} {r : Nat} : ∀ u, (cabU s l u).sa r ≤ (u : Int)
  | 0 => Int.le_refl _
  | u + 1 => by
    have ih := cab_sa (s := s) (l := l) (r := r) u
    show (unit7 s ((u + 1 : Nat) : Int) l (cabU s l u)).sa r ≤ _
    rcases unit_sa (s := s) (t := ((u + 1 : Nat) : Int)) (by omega) (r := r) (l := l) (c := cabU s l u) with h | ⟨-, h⟩ <;> rw [h] <;> push_cast <;> omega
/-- who sits down last does so in the last unit -/
theorem last_sits {n : Nat} {s : Int} {l : List Nat} (hs : 1 ≤ s) (hl : ∀ x ∈ l, x < n) {U : Nat} (h1 : allSat n (cabU s l (U + 1)) = true) (h0 : allSat n (cabU s l U) = false) : ∃ r, r < n ∧ (cabU s l (U + 1)).sa r = ((U + 1 : Nat) : Int) := by
  obtain ⟨r, hr, hz⟩ := all_not h0
  refine ⟨r, hr, ?_⟩
  have hi := cab_inv hs hl (n := n) (U + 1)
  have h2 : (cabU s l (U + 1)).sa r ≠ 0 := by
    unfold allSat at h1
    rw [List.all_eq_true] at h1
    simpa using h1 r (List.mem_range.2 hr)
  rcases unit_sa (s := s) (t := ((U + 1 : Nat) : Int)) (by omega) (r := r) (l := l) (c := cabU s l U) with h | ⟨-, h⟩
  · exact absurd (show (cabU s l (U + 1)).sa r = 0 from h.trans hz) h2
  · exact h

/-- so many units go by until a last one, or until all sit -/
structure runsI (n : Nat) (s last : Int) (l : List Nat) (U : Nat) : Prop where
  few : U ≤ 151
  go : ∀ u, u < U → (u : Int) ≠ last ∧ allSat n (cabU s l u) = false
  stop : (U : Int) = last ∨ (U : Int) ≠ last ∧ allSat n (cabU s l U) = true
/-- the travelers' units go on from one to the next -/
theorem seat_iff {n : Nat} {s : Int} {c : Cab} (hi : Inv7 n s c) (hf : fin7 n s c) {r : Nat} (hr : r < n) : (c.at_ r = r ∧ c.st r = s) ↔ 0 < c.sa r := by
  constructor
  · rintro ⟨-, h⟩
    have h2 := hi.st1 r hr
    have h3 := hi.sa1 r hr
    by_cases e : c.sa r = 0
    · have := h2.2.2 e; omega
    · omega
  · exact hf r hr
end Go.Proofs.Ytlhnejjciondeaa
