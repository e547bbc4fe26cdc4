/- Chapter 7: both sides of BoardTime, AisleAt. -/
import Derived.Test.YtohnjdlhgcemjaaAisI7
import Derived.Test.YtohnjdlhgcemjaaBrd7
namespace Go.Proofs.Ytohnjdlhgcemjaa
open Go.RowKit

theorem boardTime_both (a0 : Int) (a1 : Int) (xs2 : List Int) : ∃ (x0 : Int) (y1 : Bool), (∀ (q2 : Option Addr) (c2 : Nat) (w : World) (lo2 hi2 : Nat), Ri lo2 hi2 w q2 xs2 → xs2.length ≤ 1048576 → xs2.length ≤ c2 → c2 ≤ maxLen → Calls Try.prog 9 #[.int .i64 a0, .int .i64 a1, .slice q2 xs2.length c2] w fun e w' => e = .returned (.tuple #[.int .i64 x0, .bool y1]) ∧ Below w.heap.size w w') ∧ (∀ (q2 : Option Addr) (c2 : Nat) (w : World) (lo2 hi2 : Nat), Ri lo2 hi2 w q2 xs2 → xs2.length ≤ 1048576 → xs2.length ≤ c2 → c2 ≤ maxLen → Calls Try.prog 11 #[.int .i64 a0, .int .i64 a1, .slice q2 xs2.length c2] w fun e w' => e = .returned (.tuple #[.int .i64 x0, .bool y1]) ∧ Below w.heap.size w w') := by
  cases h : ask7 a0 a1 xs2 with
  | false =>
    exact ⟨0, false, fun q c w lo hi hin hlen hcap hcm => boardS_bad a0 a1 q c xs2 w lo hi hin hcap hcm hlen h, fun q c w lo hi hin hlen _ _ => boardI_bad a0 a1 q c xs2 w lo hi hin hlen h⟩
  | true =>
    obtain ⟨n, l, rfl, h1, h2, h3, h4, rfl, h5, h6, h7⟩ := ask7_is h
    obtain ⟨U, hU⟩ := runs_all h2 h3 h4 h6 h7
    have ho : orderB (n : Int) (ints l) = true := by unfold ask7 at h; rw [Bool.and_eq_true] at h; exact h.2
    have hnd := rows_apart ho
    refine ⟨(U : Int), true, fun q c w lo hi hin hlen hcap hcm => ?_, fun q c w lo hi hin hlen _ _ => ?_⟩
    · rw [ints_length] at hcap
      rw [ints_length, h5, ← time_is h1 h3 h6 hU]
      exact boardS_any start7_ok n a1 q c l U w lo hi hin (by omega) hcm h1 h2 h3 h4 h6 h5 h hU
    · rw [ints_length, h5]
      exact boardI_any n a1 q c l U w lo hi hin h1 h2 h3 h4 h5 h6 h7 h hnd hU

theorem aisleAt_both (a0 : Int) (a1 : Int) (xs2 : List Int) (a3 : Int) : ∃ (L0 : List Int) (y1 : Bool), L0.length ≤ 1000 ∧ (∀ (q2 : Option Addr) (c2 : Nat) (w : World) (lo2 hi2 : Nat), Ri lo2 hi2 w q2 xs2 → xs2.length ≤ 1048576 → xs2.length ≤ c2 → c2 ≤ maxLen → Calls Try.prog 21 #[.int .i64 a0, .int .i64 a1, .slice q2 xs2.length c2, .int .i64 a3] w fun e w' => ∃ v0, e = .returned (.tuple #[v0, .bool y1]) ∧ Out w.heap.size w' v0 L0 ∧ Below w.heap.size w w') ∧ (∀ (q2 : Option Addr) (c2 : Nat) (w : World) (lo2 hi2 : Nat), Ri lo2 hi2 w q2 xs2 → xs2.length ≤ 1048576 → xs2.length ≤ c2 → c2 ≤ maxLen → Calls Try.prog 22 #[.int .i64 a0, .int .i64 a1, .slice q2 xs2.length c2, .int .i64 a3] w fun e w' => ∃ v0, e = .returned (.tuple #[v0, .bool y1]) ∧ Out w.heap.size w' v0 L0 ∧ Below w.heap.size w w') := by
  cases h : (ask7 a0 a1 xs2 && decide (0 ≤ a3)) with
  | false =>
    exact ⟨[], false, by simp, fun q c w lo hi hin hlen hcap hcm => aisleS_bad a0 a1 q c xs2 a3 w lo hi hin hcap hcm hlen h, fun q c w lo hi hin hlen _ _ => aisleI_bad a0 a1 q c xs2 a3 w lo hi hin hlen h⟩
  | true =>
    rw [Bool.and_eq_true, decide_eq_true_eq] at h
    obtain ⟨h, ht⟩ := h
    obtain ⟨n, l, rfl, h1, h2, h3, h4, rfl, h5, h6, h7⟩ := ask7_is h
    obtain ⟨U, hU⟩ := runs_at h2 h3 h4 h6 h7 ht
    have ho : orderB (n : Int) (ints l) = true := by unfold ask7 at h; rw [Bool.and_eq_true] at h; exact h.2
    have hnd := rows_apart ho
    refine ⟨frM (cabU a1 l U).ai n, true, by rw [frM_len]; omega, fun q c w lo hi hin hlen hcap hcm => ?_, fun q c w lo hi hin hlen _ _ => ?_⟩
    · rw [ints_length] at hcap
      rw [ints_length, h5]
      exact aisleS_any start7_ok n a1 q c l a3 U w lo hi hin (by omega) hcm h1 h2 h3 h4 h6 h5 h ht hU
    · rw [ints_length, h5]
      exact aisleI_any n a1 q c l a3 U w lo hi hin h1 h2 h3 h4 h5 h6 h7 h hnd ht hU
end Go.Proofs.Ytohnjdlhgcemjaa
