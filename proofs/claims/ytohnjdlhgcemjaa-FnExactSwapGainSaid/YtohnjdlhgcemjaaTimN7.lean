/- Chapter 7: how many units go by: mathematics. Plain lemmas. -/
import Derived.Test.YtohnjdlhgcemjaaTim7
import Derived.Test.YtohnjdlhgcemjaaBrdN7
namespace Go.Proofs.Ytohnjdlhgcemjaa

theorem mx_le {F : Nat → Int} {U : Int} (hU : 0 ≤ U) : ∀ {n : Nat}, (∀ k, k < n → F k ≤ U) → mxM F n ≤ U
  | 0, _ => hU
  | n + 1, h => by
    show (if F n < mxM F n then mxM F n else F n) ≤ U
    have h1 := mx_le hU (n := n) (fun k hk => h k (by omega))
    have h2 := h n (by omega)
    split <;> omega
theorem mx_ge {F : Nat → Int} : ∀ {n k : Nat}, k < n → F k ≤ mxM F n
  | 0, _, h => absurd h (Nat.not_lt_zero _)
  | n + 1, k, h => by
    show F k ≤ (if F n < mxM F n then mxM F n else F n)
    by_cases e : k = n
    · subst e; split <;> omega
    · have := mx_ge (F := F) (n := n) (k := k) (by omega)
      split <;> omega
theorem time_is {n : Nat} {s : Int} {l : List Nat} {U : Nat} (hn : 1 ≤ n) (hs : 1 ≤ s) (hl : ∀ x ∈ l, x < n) (hU : runs7 n s (-1) l U) : mxM (cabU s l U).sa n = (U : Int) := by
  have hall : allSat n (cabU s l U) = true := by
    rcases hU.stop with h | h
    · exact absurd (Or.inl (by omega)) h
    · exact h
  cases U with
  | zero =>
    unfold allSat at hall
    rw [List.all_eq_true] at hall
    have := hall 0 (List.mem_range.2 hn)
    simp [cabU, start7] at this
  | succ V =>
    obtain ⟨r, hr, h⟩ := last_sits hs hl hall (hU.go V (by omega)).2
    have h1 := mx_le (F := (cabU s l (V + 1)).sa) (U := ((V + 1 : Nat) : Int)) (by omega) (n := n) (fun k _ => cab_sa (V + 1))
    have h2 := mx_ge (F := (cabU s l (V + 1)).sa) hr
    omega
theorem runsI_all {n : Nat} {s : Int} {l : List Nat} {U : Nat} (hU : runs7 n s (-1) l U) : runsI n s 9223372036854775807 l U := by
  have hf := hU.few
  refine ⟨hf, fun u hu => ⟨by omega, (hU.go u hu).2⟩, .inr ⟨by omega, ?_⟩⟩
  rcases hU.stop with h | h
  · exact absurd (Or.inl (by omega)) h
  · exact h
theorem runsI_at {n : Nat} {s t : Int} {l : List Nat} {U : Nat} (ht : 0 ≤ t) (hU : runs7 n s t l U) : runsI n s t l U := by
  have hle : (U : Int) ≤ t := by
    cases U with
    | zero => exact ht
    | succ V =>
      have := (hU.go V (by omega)).1
      push_cast
      omega
  refine ⟨hU.few, fun u hu => ?_, ?_⟩
  · obtain ⟨h1, h2⟩ := hU.go u hu
    exact ⟨by omega, h2⟩
  · by_cases e : (U : Int) = t
    · exact .inl e
    · rcases hU.stop with h | h
      · exact absurd (Or.inr (by omega)) h
      · exact .inr ⟨e, h⟩
theorem runs_at {n : Nat} {s t : Int} {l : List Nat} (hn : n ≤ 10) (hs1 : 1 ≤ s) (hs : s ≤ 5) (hl : ∀ x ∈ l, x < n) (ha : ∀ r, r < n → r ∈ l) (ht : 0 ≤ t) : ∃ U, runs7 n s t l U := by
  obtain ⟨F, h1, h2, h3⟩ := fin_exists hn hs1 hs hl ha
  by_cases e : (F : Int) ≤ t
  · exact ⟨F, h1, fun u hu => ⟨.inr (by omega), h3 u hu⟩, .inr h2⟩
  · exact ⟨t.toNat, by omega, fun u hu => ⟨.inr (by omega), h3 u (by omega)⟩, .inl (by omega)⟩
end Go.Proofs.Ytohnjdlhgcemjaa
