/- slices.Sort of at most twelve numbers in a block of the call's own; slices.Sorted over what a slice gives. -/
import Derived.Test.YtohnjdlhgcemjaaInsSort
namespace Go.Proofs.Ytohnjdlhgcemjaa
open Go.RowKit

set_option maxRecDepth 4000 in
set_option maxHeartbeats 2000000 in
theorem len64N (k : Int) (hk : k = 1 ∨ k = 2 ∨ k = 3 ∨ k = 4 ∨ k = 5 ∨ k = 6 ∨ k = 7 ∨ k = 8 ∨ k = 9 ∨ k = 10 ∨ k = 11 ∨ k = 12) (w : World) : Calls Try.prog 78 #[.int .u64 k] w fun e w' => ∃ r : Int, e = .returned (.int .i64 r) ∧ w = w' := by
  rcases hk with rfl | rfl | rfl | rfl | rfl | rfl | rfl | rfl | rfl | rfl | rfl | rfl
  all_goals
    go_enter Try.func78, Try.ntmps78
    go_wp2
    go_ret
    exact ⟨_, rfl, rfl⟩

set_option maxRecDepth 4000 in
set_option maxHeartbeats 2000000 in
theorem lenN (k : Int) (hk : 1 ≤ k ∧ k ≤ 12) (w : World) : Calls Try.prog 67 #[.int .u64 k] w fun e w' => ∃ r : Int, e = .returned (.int .i64 r) ∧ w = w' := by
  have hc : k = 1 ∨ k = 2 ∨ k = 3 ∨ k = 4 ∨ k = 5 ∨ k = 6 ∨ k = 7 ∨ k = 8 ∨ k = 9 ∨ k = 10 ∨ k = 11 ∨ k = 12 := by omega
  have H := Lib.hid (fun w' => len64N k hc w')
  have hw : IntKind.u64.wrap k = k := by rcases hc with rfl | rfl | rfl | rfl | rfl | rfl | rfl | rfl | rfl | rfl | rfl | rfl <;> rfl
  clear hc
  go_enter Try.func67, Try.ntmps67
  go_wp2_with (go_at_call 78; refine (H.out _).mono ?_; rintro e w1 ⟨r, rfl, rfl⟩)
  go_ret
  exact ⟨_, rfl, rfl⟩

/-- slices.pdqsortOrdered hands a few numbers to slices.insertionSortOrdered -/
theorem pdqN (p : Option Addr) (n cap : Nat) (lim : Int) (w : World) (hn : n ≤ 12) (R : World → Prop)
    (h : Calls Try.prog 68 #[.slice p n cap, .int .i64 0, .int .i64 n] w fun e w' => e = .returned (.tuple #[]) ∧ R w') :
    Calls Try.prog 66 #[.slice p n cap, .int .i64 0, .int .i64 n, .int .i64 lim] w fun e w' => e = .returned (.tuple #[]) ∧ R w' := by
  have H := Lib.hid h
  clear h
  have hn1 : (n : Int) ≤ 12 := by omega
  go_enter Try.func66, Try.ntmps66
  go_wp2_with fail
  refine wp_loop_rounds 1 ?_
  rw [rounds_succ]
  go_wp2_with fail
  refine H.out.mono ?_
  rintro e w1 ⟨rfl, hR⟩
  go_wp2_with fail
  exact bodyPost_ret (results_none rfl _ _ _) rfl ⟨rfl, hR⟩

theorem sortN_few (p : Option Addr) (n cap : Nat) (w : World) (hn1 : 1 ≤ n) (hn : n ≤ 12) (R : World → Prop)
    (h : Calls Try.prog 68 #[.slice p n cap, .int .i64 0, .int .i64 n] w fun e w' => e = .returned (.tuple #[]) ∧ R w') :
    Calls Try.prog 63 #[.slice p n cap] w fun e w' => e = .returned (.tuple #[]) ∧ R w' := by
  have H := Lib.hid (fun lim => pdqN p n cap lim w (by omega) R h)
  have L := Lib.hid (lenN n (by omega) w)
  have hw : IntKind.u64.wrap (n : Int) = (n : Int) := by
    rcases (by omega : n = 1 ∨ n = 2 ∨ n = 3 ∨ n = 4 ∨ n = 5 ∨ n = 6 ∨ n = 7 ∨ n = 8 ∨ n = 9 ∨ n = 10 ∨ n = 11 ∨ n = 12) with rfl | rfl | rfl | rfl | rfl | rfl | rfl | rfl | rfl | rfl | rfl | rfl <;> rfl
  clear h hn1
  go_enter Try.func63, Try.ntmps63
  go_wp2_with fail
  refine L.out.mono ?_
  rintro e w1 ⟨r, rfl, rfl⟩
  go_wp2_with fail
  refine (H.out _).mono ?_
  rintro e w1 ⟨rfl, hR⟩
  go_wp2_with fail
  go_end0
  exact ⟨rfl, hR⟩

/-- at most twelve numbers in a block of the call's own -/
theorem sortN_any (g cap n : Nat) (xs : List Int) (ys : List Value) (w : World) (h : OwnArr w g 3 (iv xs ++ ys)) (hn : xs.length = n) (h1 : 1 ≤ n) (hn2 : n ≤ 12) :
    Calls Try.prog 63 #[.slice (some ⟨g, 0, none⟩) n cap] w fun e w' => e = .returned (.tuple #[]) ∧ ∃ zs, zs.Perm xs ∧ zs.Pairwise (· ≤ ·) ∧ OwnArr w' g 3 (iv zs ++ ys) ∧ Keep g (g + 1) w w' :=
  sortN_few (some ⟨g, 0, none⟩) n cap w h1 hn2 (fun w' => ∃ zs, zs.Perm xs ∧ zs.Pairwise (· ≤ ·) ∧ OwnArr w' g 3 (iv zs ++ ys) ∧ Keep g (g + 1) w w') (insertion_any g cap n xs ys w h hn h1 (by omega))
end Go.Proofs.Ytohnjdlhgcemjaa
