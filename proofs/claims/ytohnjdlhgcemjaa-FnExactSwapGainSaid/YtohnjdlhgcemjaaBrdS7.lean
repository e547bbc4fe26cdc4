/- Chapter 7, impl side: a traveler's row, isSeated, isUp; impl.canBoard. -/
import Derived.Test.YtohnjdlhgcemjaaBrdI7
import Derived.Test.YtohnjdlhgcemjaaPlnI7
import Derived.Test.YtohnjdlhgcemjaaAsk7
import Derived.BigQuiet
import Derived.IntWalk
import Derived.Laws.StructEq
namespace Go.Proofs.Ytohnjdlhgcemjaa
open Go.RowKit

set_option maxHeartbeats 1000000 in
theorem row_any (n : Nat) (T : Nat → Nat) (s : Int) (C : Cab) (w : World) (hT : Trs w n T s C) (r : Nat) (hr : r < n) :
    Calls Try.prog 36 #[.pointer (some ⟨T r, 0, none⟩)] w fun e w' => e = .returned (.int .i64 (r : Nat)) ∧ w = w' := by
  obtain ⟨⟨-, -, c2, -⟩, -⟩ := hT.cells hr
  clear hT
  go_enter Try.func36, Try.ntmps36
  go_wp2_with fail
  go_ret
  exact ⟨rfl, rfl⟩

set_option maxHeartbeats 1000000 in
theorem spot_eql (x y z s : Int) (w : World) : (binOp .eql 42 (.agg #[.int .i64 x, .int .i64 y]) (.agg #[.int .i64 z, .int .i64 s])).run Try.prog w = .ok (.bool (decide (x = z ∧ y = s))) w := by
  rw [run_eql_struct, run_equalIn_struct (d := 9999) (ht := by kernel_rfl) (hp := by kernel_rfl)]
  have hu : Try.prog.underlying 3 = some (.int .i64) := Try.underlying3
  have p0 : ∀ (a b : Value), (part 3 #[a, b] 0).run Try.prog w = .ok a w := fun a b => by kernel_rfl
  have p1 : ∀ (a b : Value), (part 3 #[a, b] 1).run Try.prog w = .ok b w := fun a b => by kernel_rfl
  simp only [Program.fieldsOf, Try.underlying42, Op.eqFields]
  simp [p0, p1, run_equalIn_int (d := 9998) (h := hu), Result.andThen]
  by_cases h1 : x = z <;> by_cases h2 : y = s <;> simp [h1, h2]

set_option maxHeartbeats 1000000 in
theorem isSeated_raw (n : Nat) (T : Nat → Nat) (s : Int) (C : Cab) (w : World) (hT : Trs w n T s C) (r : Nat) (hr : r < n) :
    Calls Try.prog 59 #[.pointer (some ⟨T r, 0, none⟩)] w fun e w' => e = .returned (.bool (decide (C.at_ r = r ∧ C.st r = s))) ∧ ∃ q, w' = w.drewN q := by
  obtain ⟨⟨c0, c1, c2, c3⟩, -⟩ := hT.cells hr
  obtain ⟨x, hx⟩ : ∃ x, C.at_ r = x := ⟨_, rfl⟩
  obtain ⟨y, hy⟩ : ∃ y, C.st r = y := ⟨_, rfl⟩
  rw [hx] at c0 ⊢
  rw [hy] at c1 ⊢
  have i4 := fun w' => spot_eql x y (r : Int) s w'
  obtain ⟨D, hD⟩ : ∃ D, decide (x = (r : Int) ∧ y = s) = D := ⟨_, rfl⟩
  simp only [hD] at i4
  rw [hD]
  clear hT hx hy hD
  go_enter Try.func59, Try.ntmps59
  go_wp2_with fail
  go_quiet (fail)
  go_wp2_with fail
  go_ret
  exact ⟨rfl, _, rfl⟩
theorem isSeated_any (n : Nat) (T : Nat → Nat) (s : Int) (C : Cab) (w : World) (hT : Trs w n T s C) (hi : Inv7 n s C) (hf : fin7 n s C) (r : Nat) (hr : r < n) :
    Calls Try.prog 59 #[.pointer (some ⟨T r, 0, none⟩)] w fun e w' => e = .returned (.bool (decide (0 < C.sa r))) ∧ ∃ q, w' = w.drewN q := by
  rw [show decide (0 < C.sa r) = decide (C.at_ r = r ∧ C.st r = s) from decide_eq_decide.2 (seat_iff hi hf hr).symm]
  exact isSeated_raw n T s C w hT r hr

set_option maxHeartbeats 1000000 in
theorem isUp_any (n : Nat) (T : Nat → Nat) (s : Int) (C : Cab) (w : World) (hT : Trs w n T s C) (hi : Inv7 n s C) (hf : fin7 n s C) (r : Nat) (hr : r < n) :
    Calls Try.prog 51 #[.pointer (some ⟨T r, 0, none⟩)] w fun e w' => e = .returned (.bool (!decide (0 < C.sa r))) ∧ ∃ q, w' = w.drewN q := by
  have S := isSeated_any n T s C w hT hi hf r hr
  obtain ⟨D, hD⟩ : ∃ D, decide (0 < C.sa r) = D := ⟨_, rfl⟩
  rw [hD] at S ⊢
  replace S := Lib.hid S
  clear hT hi hf hD
  go_enter Try.func51, Try.ntmps51
  go_wp2_with fail
  refine S.out.mono ?_
  rintro e w1 ⟨rfl, q, rfl⟩
  go_wp2_with fail
  go_ret
  exact ⟨rfl, q, rfl⟩

set_option maxRecDepth 4000 in
set_option maxHeartbeats 1000000 in
theorem canBoard_any (n s : Int) (w : World) :
    Calls Try.prog 43 #[.int .i64 n, .int .i64 s] w fun e w' => e = .returned (.bool (rows7 n s)) ∧ w = w' := by
  have IN := fun w' => hasPlane_any n w'
  unfold rows7
  cases hg : rowsB n with
  | false =>
    rw [hg] at IN
    replace IN := Lib.hid IN
    clear hg
    go_enter Try.func43, Try.ntmps43
    go_wp2_with fail
    refine (IN.out _).mono ?_
    rintro e w1 ⟨rfl, rfl⟩
    go_wp2_with fail
    go_ret
    exact ⟨rfl, rfl⟩
  | true =>
    rw [hg] at IN
    replace IN := Lib.hid IN
    clear hg
    rw [Bool.true_and]
    by_cases h1 : 1 ≤ s
    · by_cases h2 : s ≤ 5
      · go_enter Try.func43, Try.ntmps43
        go_wp2_with fail
        refine (IN.out _).mono ?_
        rintro e w1 ⟨rfl, rfl⟩
        go_wp2_with fail
        go_ret
        exact ⟨ret_bool (by simp; omega), rfl⟩
      · go_enter Try.func43, Try.ntmps43
        go_wp2_with fail
        refine (IN.out _).mono ?_
        rintro e w1 ⟨rfl, rfl⟩
        go_wp2_with fail
        go_ret
        exact ⟨ret_bool (by simp; omega), rfl⟩
    · go_enter Try.func43, Try.ntmps43
      go_wp2_with fail
      refine (IN.out _).mono ?_
      rintro e w1 ⟨rfl, rfl⟩
      go_wp2_with fail
      go_ret
      exact ⟨ret_bool (by simp; omega), rfl⟩
end Go.Proofs.Ytohnjdlhgcemjaa
