/- Chapter 7: both sides of WaitTimes. -/
import Derived.Test.YtohnjdlhgcemjaaWaiI7
import Derived.Test.YtohnjdlhgcemjaaBrd7
namespace Go.Proofs.Ytohnjdlhgcemjaa
open Go.RowKit

theorem waitTimes_both (a0 : Int) (a1 : Int) (xs2 : List Int) : ∃ (L0 : List Int) (y1 : Bool), L0.length ≤ 1000 ∧ (∀ (q2 : Option Addr) (c2 : Nat) (w : World) (lo2 hi2 : Nat), Ri lo2 hi2 w q2 xs2 → xs2.length ≤ 1048576 → xs2.length ≤ c2 → c2 ≤ maxLen → Calls Try.prog 19 #[.int .i64 a0, .int .i64 a1, .slice q2 xs2.length c2] w fun e w' => ∃ v0, e = .returned (.tuple #[v0, .bool y1]) ∧ Out w.heap.size w' v0 L0 ∧ Below w.heap.size w w') ∧ (∀ (q2 : Option Addr) (c2 : Nat) (w : World) (lo2 hi2 : Nat), Ri lo2 hi2 w q2 xs2 → xs2.length ≤ 1048576 → xs2.length ≤ c2 → c2 ≤ maxLen → Calls Try.prog 20 #[.int .i64 a0, .int .i64 a1, .slice q2 xs2.length c2] w fun e w' => ∃ v0, e = .returned (.tuple #[v0, .bool y1]) ∧ Out w.heap.size w' v0 L0 ∧ Below w.heap.size w w') := by
  cases h : ask7 a0 a1 xs2 with
  | false =>
    exact ⟨[], false, by simp, fun q c w lo hi hin hlen hcap hcm => waitS_bad a0 a1 q c xs2 w lo hi hin hcap hcm hlen h, fun q c w lo hi hin hlen _ _ => waitRows_bad a0 a1 q c xs2 w lo hi hin hlen h⟩
  | true =>
    obtain ⟨n, l, rfl, h1, h2, h3, h4, rfl, h5, h6, h7⟩ := ask7_is h
    obtain ⟨U, hU⟩ := runs_all h2 h3 h4 h6 h7
    have ho : orderB (n : Int) (ints l) = true := by unfold ask7 at h; rw [Bool.and_eq_true] at h; exact h.2
    have hnd := rows_apart ho
    refine ⟨frM (cabU a1 l U).wa n, true, by rw [frM_len]; omega, fun q c w lo hi hin hlen hcap hcm => ?_, fun q c w lo hi hin hlen _ _ => ?_⟩
    · rw [ints_length] at hcap
      rw [ints_length, h5]
      exact waitS_any start7_ok n a1 q c l U w lo hi hin (by omega) hcm h1 h2 h3 h4 h6 h5 h hU
    · rw [ints_length, h5]
      exact waitRows_any n a1 q c l U w lo hi hin h1 h2 h3 h4 h5 h6 h7 h hnd hU
end Go.Proofs.Ytohnjdlhgcemjaa
