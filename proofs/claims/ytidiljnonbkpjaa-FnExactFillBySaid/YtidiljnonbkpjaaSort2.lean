/- slices.Sort of one number or two: the sorting function itself. -/
import Derived.Test.YtidiljnonbkpjaaSort
namespace Go.Proofs.Ytidiljnonbkpjaa
open Go.RowKit

set_option maxRecDepth 4000 in
set_option maxHeartbeats 1000000 in
theorem len64_two (w : World) : Calls Try.prog 116 #[.int .u64 2] w fun e w' => ∃ r : Int, e = .returned (.int .i64 r) ∧ w = w' := by
  go_enter Try.func116, Try.ntmps116
  go_wp2
  go_ret
  exact ⟨_, rfl, rfl⟩

set_option maxRecDepth 4000 in
set_option maxHeartbeats 1000000 in
theorem len_small (k : Int) (hk : k = 1 ∨ k = 2) (w : World) : Calls Try.prog 92 #[.int .u64 k] w fun e w' => ∃ r : Int, e = .returned (.int .i64 r) ∧ w = w' := by
  rcases hk with rfl | rfl
  · go_enter Try.func92, Try.ntmps92
    go_wp2_with (go_at_call 116; refine (len64_one _).mono ?_; rintro e w1 ⟨r, rfl, rfl⟩)
    go_ret
    exact ⟨_, rfl, rfl⟩
  · go_enter Try.func92, Try.ntmps92
    go_wp2_with (go_at_call 116; refine (len64_two _).mono ?_; rintro e w1 ⟨r, rfl, rfl⟩)
    go_ret
    exact ⟨_, rfl, rfl⟩

/-- slices.pdqsortOrdered hands a few numbers to slices.insertionSortOrdered -/
theorem pdq_few (p : Option Addr) (n cap : Nat) (lim : Int) (w : World) (hn : n ≤ 12) (R : World → Prop)
    (h : Calls Try.prog 132 #[.slice p n cap, .int .i64 0, .int .i64 n] w fun e w' => e = .returned (.tuple #[]) ∧ R w') :
    Calls Try.prog 123 #[.slice p n cap, .int .i64 0, .int .i64 n, .int .i64 lim] w fun e w' => e = .returned (.tuple #[]) ∧ R w' := by
  have H := Lib.hid h
  clear h
  have hn1 : (n : Int) ≤ 12 := by omega
  go_enter Try.func123, Try.ntmps123
  go_wp2_with fail
  refine wp_loop_rounds 1 ?_
  rw [rounds_succ]
  go_wp2_with fail
  refine H.out.mono ?_
  rintro e w1 ⟨rfl, hR⟩
  go_wp2_with fail
  exact bodyPost_ret (results_none rfl _ _ _) rfl ⟨rfl, hR⟩

theorem sort_few (p : Option Addr) (n cap : Nat) (w : World) (hn : n = 1 ∨ n = 2) (R : World → Prop)
    (h : Calls Try.prog 132 #[.slice p n cap, .int .i64 0, .int .i64 n] w fun e w' => e = .returned (.tuple #[]) ∧ R w') :
    Calls Try.prog 99 #[.slice p n cap] w fun e w' => e = .returned (.tuple #[]) ∧ R w' := by
  have H := Lib.hid (fun lim => pdq_few p n cap lim w (by omega) R h)
  have L := Lib.hid (len_small n (by omega) w)
  have hw : IntKind.u64.wrap (n : Int) = (n : Int) := by rcases hn with rfl | rfl <;> rfl
  clear h
  go_enter Try.func99, Try.ntmps99
  go_wp2_with fail
  refine L.out.mono ?_
  rintro e w1 ⟨r, rfl, rfl⟩
  go_wp2_with fail
  refine (H.out _).mono ?_
  rintro e w1 ⟨rfl, hR⟩
  go_wp2_with fail
  go_end0
  exact ⟨rfl, hR⟩

/-- one number -/
theorem sort_one (p : Option Addr) (cap : Nat) (w : World) : Calls Try.prog 99 #[.slice p 1 cap] w fun e w' => e = .returned (.tuple #[]) ∧ w = w' :=
  sort_few p 1 cap w (.inl rfl) (fun w' => w = w') (insert_one p cap w)
/-- two numbers in a block of the call's own -/
theorem sort_two (g : Nat) (cap : Nat) (x y : Int) (ys : List Value) (w : World) (ho : OwnArr w g 3 (.int .i64 x :: .int .i64 y :: ys)) :
    Calls Try.prog 99 #[.slice (some ⟨g, 0, none⟩) 2 cap] w fun e w' => e = .returned (.tuple #[]) ∧ OwnArr w' g 3 (.int .i64 (min x y) :: .int .i64 (max x y) :: ys) ∧ Keep g (g + 1) w w' := by
  refine sort_few (some ⟨g, 0, none⟩) 2 cap w (.inr rfl) (fun w' => OwnArr w' g 3 (.int .i64 (min x y) :: .int .i64 (max x y) :: ys) ∧ Keep g (g + 1) w w') ?_
  by_cases h : x ≤ y
  · refine (insert_sorted g 0 cap x y w (ho.cell 0) (ho.cell 1) h).mono ?_
    rintro e w' ⟨rfl, n, rfl⟩
    refine ⟨rfl, ?_, ⟨rfl, rfl, rfl, Nat.le_refl _, fun _ _ _ => rfl⟩⟩
    rw [Int.min_eq_left h, Int.max_eq_right h]
    exact ho.drewN n
  · have h' : y < x := by omega
    refine (insert_swap g 0 cap x y w (ho.cell 0) (ho.cell 1) (ho.free 0) (ho.free 1) h').mono ?_
    rintro e w' ⟨rfl, n, n2, rfl⟩
    refine ⟨rfl, ?_, ?_⟩
    · rw [Int.min_eq_right (by omega), Int.max_eq_left (by omega)]
      exact (((ho.drewN n).set 1 (.int .i64 x)).set 0 (.int .i64 y)).drewN n2
    · have k0 : Keep g (g + 1) w (w.drewN n) := ⟨rfl, rfl, rfl, Nat.le_refl _, fun _ _ _ => rfl⟩
      exact ((k0.setCell (b := g) ⟨Nat.le_refl _, Nat.lt_succ_self _⟩ 1 _).setCell (b := g) ⟨Nat.le_refl _, Nat.lt_succ_self _⟩ 0 _).trans ⟨rfl, rfl, rfl, Nat.le_refl _, fun _ _ _ => rfl⟩
end Go.Proofs.Ytidiljnonbkpjaa
