/- spec.l3Run and impl.settlers: how many newcomers settle a walled run; spec.SettleRun and impl.SettleRun, for all numbers. -/
import Derived.Test.YtgjfclkkobjfoaaIsRow
namespace Go.Proofs.Ytgjfclkkobjfoaa
open Go.RowKit

set_option maxRecDepth 4000 in
set_option maxHeartbeats 2000000 in
theorem settle_same : ∀ (n : Nat), n ≤ 24 → ∀ k : Int, (k = 0 ∨ k = 1 ∨ k = 2) → ∃ r : Nat, r ≤ n ∧
    (∀ w, Calls Try.prog 39 #[.int .i64 n, .int .i64 k] w fun e w' => e = .returned (.int .i64 r) ∧ w = w') ∧
    (∀ w, Calls Try.prog 40 #[.int .i64 n, .int .i64 k] w fun e w' => e = .returned (.int .i64 r) ∧ w = w') := by
  intro n
  induction n using Nat.strongRecOn with
  | _ n ih =>
    intro hn k hk
    have hn' : (n : Int) ≤ 24 := by omega
    rcases hk with rfl | rfl | rfl
    · by_cases h : n = 0
      · subst h
        refine ⟨0, Nat.le_refl _, ?_⟩
        refine ⟨?_, ?_⟩
        · intro w
          go_enter Try.func39, Try.ntmps39
          go_wp2_with fail
          go_ret
          exact ⟨rfl, rfl⟩
        · intro w
          go_enter Try.func40, Try.ntmps40
          go_wp2_with fail
          go_ret
          exact ⟨rfl, rfl⟩
      · obtain ⟨r, hr, h1, h2⟩ := ih (n - 1) (by omega) (by omega) 1 (.inr (.inl rfl))
        rw [show ((n - 1 : Nat) : Int) = (n : Int) - 1 by omega] at h1 h2
        have H1 := Lib.hid h1
        have H2 := Lib.hid h2
        have e1 : IntKind.i64.wrap ((n : Int) - 1) = (n : Int) - 1 := IntWalk.i64_in _ (by omega)
        have e2 : IntKind.i64.wrap (1 + (r : Int)) = 1 + (r : Int) := IntWalk.i64_in _ (by omega)
        have k1 : ¬ n = 0 := h
        have k2 : ¬ (n : Int) ≤ 0 := by omega
        clear ih h1 h2
        refine ⟨1 + r, by omega, ?_⟩
        refine ⟨?_, ?_⟩
        · intro w
          go_enter Try.func39, Try.ntmps39
          go_wp2_with fail
          refine (H1.out _).mono ?_
          rintro e w1 ⟨rfl, rfl⟩
          go_wp2_with fail
          go_ret
          exact ⟨ret_int (by omega), rfl⟩
        · intro w
          go_enter Try.func40, Try.ntmps40
          go_wp2_with fail
          refine (H2.out _).mono ?_
          rintro e w1 ⟨rfl, rfl⟩
          go_wp2_with fail
          go_ret
          exact ⟨ret_int (by omega), rfl⟩
    · by_cases h : n < 2
      · have k1 : (n : Int) < 2 := by omega
        have k2 : (n : Int) ≤ 1 := by omega
        clear ih
        refine ⟨0, Nat.zero_le _, ?_⟩
        refine ⟨?_, ?_⟩
        · intro w
          go_enter Try.func39, Try.ntmps39
          go_wp2_with fail
          go_ret
          exact ⟨rfl, rfl⟩
        · intro w
          go_enter Try.func40, Try.ntmps40
          go_wp2_with fail
          go_ret
          exact ⟨rfl, rfl⟩
      · obtain ⟨r, hr, h1, h2⟩ := ih (n - 1) (by omega) (by omega) 2 (.inr (.inr rfl))
        rw [show ((n - 1 : Nat) : Int) = (n : Int) - 1 by omega] at h1 h2
        have H1 := Lib.hid h1
        have H2 := Lib.hid h2
        have e1 : IntKind.i64.wrap ((n : Int) - 1) = (n : Int) - 1 := IntWalk.i64_in _ (by omega)
        have e2 : IntKind.i64.wrap (1 + (r : Int)) = 1 + (r : Int) := IntWalk.i64_in _ (by omega)
        have k1 : ¬ (n : Int) < 2 := by omega
        have k2 : ¬ (n : Int) ≤ 1 := by omega
        clear ih h1 h2
        refine ⟨1 + r, by omega, ?_⟩
        refine ⟨?_, ?_⟩
        · intro w
          go_enter Try.func39, Try.ntmps39
          go_wp2_with fail
          refine (H1.out _).mono ?_
          rintro e w1 ⟨rfl, rfl⟩
          go_wp2_with fail
          go_ret
          exact ⟨ret_int (by omega), rfl⟩
        · intro w
          go_enter Try.func40, Try.ntmps40
          go_wp2_with fail
          refine (H2.out _).mono ?_
          rintro e w1 ⟨rfl, rfl⟩
          go_wp2_with fail
          go_ret
          exact ⟨ret_int (by omega), rfl⟩
    · by_cases h : n < 3
      · have k1 : (n : Int) < 3 := by omega
        have k2 : (n : Int) ≤ 2 := by omega
        clear ih
        refine ⟨0, Nat.zero_le _, ?_⟩
        refine ⟨?_, ?_⟩
        · intro w
          go_enter Try.func39, Try.ntmps39
          go_wp2_with fail
          go_ret
          exact ⟨rfl, rfl⟩
        · intro w
          go_enter Try.func40, Try.ntmps40
          go_wp2_with fail
          go_ret
          exact ⟨rfl, rfl⟩
      · obtain ⟨a, ha⟩ : ∃ a, (n - 1) / 2 = a := ⟨_, rfl⟩
        obtain ⟨b, hb⟩ : ∃ b, n - 1 - a = b := ⟨_, rfl⟩
        obtain ⟨r, hr, h1, h2⟩ := ih a (by omega) (by omega) 2 (.inr (.inr rfl))
        obtain ⟨q, hq, h3, h4⟩ := ih b (by omega) (by omega) 2 (.inr (.inr rfl))
        have H1 := Lib.hid h1
        have H2 := Lib.hid h2
        have H3 := Lib.hid h3
        have H4 := Lib.hid h4
        have e1 : IntKind.i64.wrap ((n : Int) - 1) = (n : Int) - 1 := IntWalk.i64_in _ (by omega)
        have e2 : IntKind.i64.wrap (1 + (r : Int)) = 1 + (r : Int) := IntWalk.i64_in _ (by omega)
        have e3 : ((n : Int) - 1).tdiv 2 = (a : Int) := by rw [Int.tdiv_eq_ediv_of_nonneg (by omega)]; omega
        have e4 : IntKind.i64.wrap (a : Int) = (a : Int) := IntWalk.i64_in _ (by omega)
        have e5 : (n : Int) - 1 - (a : Int) = (b : Int) := by omega
        have e6 : IntKind.i64.wrap (b : Int) = (b : Int) := IntWalk.i64_in _ (by omega)
        have e7 : IntKind.i64.wrap (1 + (r : Int) + (q : Int)) = 1 + (r : Int) + (q : Int) := IntWalk.i64_in _ (by omega)
        have k1 : ¬ (n : Int) < 3 := by omega
        have k2 : ¬ (n : Int) ≤ 2 := by omega
        clear ih h1 h2 h3 h4
        refine ⟨1 + r + q, by omega, ?_⟩
        refine ⟨?_, ?_⟩
        · intro w
          go_enter Try.func39, Try.ntmps39
          go_wp2_with fail
          refine (H1.out _).mono ?_
          rintro e w1 ⟨rfl, rfl⟩
          go_wp2_with fail
          refine (H3.out _).mono ?_
          rintro e w1 ⟨rfl, rfl⟩
          go_wp2_with fail
          go_ret
          exact ⟨ret_int (by omega), rfl⟩
        · intro w
          go_enter Try.func40, Try.ntmps40
          go_wp2_with fail
          refine (H2.out _).mono ?_
          rintro e w1 ⟨rfl, rfl⟩
          go_wp2_with fail
          refine (H4.out _).mono ?_
          rintro e w1 ⟨rfl, rfl⟩
          go_wp2_with fail
          go_ret
          exact ⟨ret_int (by omega), rfl⟩
end Go.Proofs.Ytgjfclkkobjfoaa
