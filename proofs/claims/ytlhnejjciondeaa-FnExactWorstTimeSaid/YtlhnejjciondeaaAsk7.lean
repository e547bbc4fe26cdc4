/- Chapter 7, spec side: spec.l7Rows, l7Ask. -/
import Derived.Test.YtlhnejjciondeaaEnt7
import Derived.Test.YtlhnejjciondeaaFrtM7
namespace Go.Proofs.Ytlhnejjciondeaa
open Go.RowKit

def rows7 (n s : Int) : Bool := rowsB n && (decide (1 ≤ s) && decide (s ≤ 5))
def ask7 (n s : Int) (xs : List Int) : Bool := rows7 n s && orderB n xs
theorem ask7_is {n s : Int} {xs : List Int} (h : ask7 n s xs = true) : ∃ (m : Nat) (l : List Nat), n = m ∧ 1 ≤ m ∧ m ≤ 10 ∧ 1 ≤ s ∧ s ≤ 5 ∧ xs = ints l ∧ l.length = m ∧ (∀ x ∈ l, x < m) ∧ ∀ r, r < m → r ∈ l := by
  unfold ask7 rows7 at h
  rw [Bool.and_eq_true, Bool.and_eq_true, Bool.and_eq_true, decide_eq_true_eq, decide_eq_true_eq] at h
  obtain ⟨m, rfl, h1, h2⟩ := rowsB_is h.1.1
  obtain ⟨l, rfl, h3, h4⟩ := orderB_is h.2
  refine ⟨m, l, rfl, h1, h2, h.1.2.1, h.1.2.2, rfl, h3, h4, fun r hr => ?_⟩
  have h5 := h.2
  simp only [orderB, Bool.and_eq_true, decide_eq_true_eq, List.all_eq_true, List.mem_range] at h5
  have h6 := h5.2 r (by rw [ints_length]; omega)
  unfold ints at h6
  obtain ⟨x, hx, e⟩ := List.mem_map.1 h6
  have : x = r := by omega
  rwa [← this]

set_option maxRecDepth 4000 in
set_option maxHeartbeats 1000000 in
theorem l7Rows_any (n s : Int) (w : World) :
    Calls Try.prog 45 #[.int .i64 n, .int .i64 s] w fun e w' => e = .returned (.bool (rows7 n s)) ∧ w = w' := by
  have IN : ∀ w', Calls Try.prog 53 #[.int .i64 n, .int .i64 1, .int .i64 10] w' fun e w'' => e = .returned (.bool (rowsB n)) ∧ w' = w'' := fun w' => l1In_any n 1 10 w'
  have IS := Lib.hid (fun w' => l1In_any s 1 5 w')
  unfold rows7
  cases hg : rowsB n with
  | false =>
    rw [hg] at IN
    replace IN := Lib.hid IN
    clear hg
    go_enter Try.func45, Try.ntmps45
    go_wp2_with fail
    refine (IN.out _).mono ?_
    rintro e w1 ⟨rfl, rfl⟩
    go_wp2_with fail
    go_ret
    exact ⟨rfl, rfl⟩
  | true =>
    rw [hg] at IN
    replace IN := Lib.hid IN
    clear hg
    rw [Bool.true_and]
    obtain ⟨B, hB⟩ : ∃ B, (decide (1 ≤ s) && decide (s ≤ 5)) = B := ⟨_, rfl⟩
    rw [hB] at IS ⊢
    clear hB
    go_enter Try.func45, Try.ntmps45
    go_wp2_with fail
    refine (IN.out _).mono ?_
    rintro e w1 ⟨rfl, rfl⟩
    go_wp2_with fail
    refine (IS.out _).mono ?_
    rintro e w1 ⟨rfl, rfl⟩
    go_wp2_with fail
    go_ret
    exact ⟨rfl, rfl⟩

end Go.Proofs.Ytlhnejjciondeaa
