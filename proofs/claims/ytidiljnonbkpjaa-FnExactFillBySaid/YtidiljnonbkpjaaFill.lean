/- impl.canBeFilled and spec.l4Row, for every Row; marks that a loop fills. -/
import Derived.Test.YtidiljnonbkpjaaRowI
import Derived.Test.YtidiljnonbkpjaaHasS
import Derived.Test.YtidiljnonbkpjaaIsRow
import Derived.Test.YtidiljnonbkpjaaMarks
import Derived.Deep.RegionWith
import Derived.StillTailTactics
namespace Go.Proofs.Ytidiljnonbkpjaa
open Go.RowKit

/-- a Row is valid and not too long to be filled -/
def fillB (s : Int) (ring : Bool) (xs : List Int) : Bool := rowB s ring xs && decide (s ≤ 12)
theorem fillB_is {s : Int} {ring : Bool} {xs : List Int} (h : fillB s ring xs = true) : ∃ (n : Nat) (S : Nat → Bool), s = n ∧ xs = ints (tk n S) ∧ 2 ≤ n ∧ n ≤ 12 ∧ (ring = true → 3 ≤ n) := by
  unfold fillB at h
  rw [Bool.and_eq_true] at h
  obtain ⟨n, S, h1, h2, h3, -, h5⟩ := rowB_is h.1
  refine ⟨n, S, h1, h2, h3, ?_, h5⟩
  have := of_decide_eq_true h.2
  omega
theorem fillB_of {n : Nat} {ring : Bool} {S : Nat → Bool} (h1 : 2 ≤ n) (h2 : n ≤ 12) (h3 : ring = true → 3 ≤ n) : fillB n ring (ints (tk n S)) = true := by
  unfold fillB
  rw [rowB_of h1 (by omega) h3]
  simp; omega
theorem filled_bl (n : Nat) (T : Nat → Bool) : filled (fun i => .bool (T i)) (.bool false) n n = bv (bl n T) := by
  apply List.ext_getElem?
  intro i
  rcases Nat.lt_or_ge i n with h | h
  · rw [filled_get _ _ _ _ _ h, if_pos h, bv_get (by rw [bl_length]; exact h), bl_getD h]
  · rw [List.getElem?_eq_none (by rw [filled_len]; exact h), List.getElem?_eq_none (by rw [bv_length, bl_length]; exact h)]

set_option maxHeartbeats 800000 in
theorem canFill_any (s : Int) (ring : Bool) (p : Option Addr) (cap : Nat) (xs : List Int) (w : World) (lo hi : Nat) (hin : Ri lo hi w p xs) (hlen : xs.length ≤ 1048576) :
    Calls Try.prog 51 #[rowV s ring p xs.length cap] w fun e w' => e = .returned (.bool (fillB s ring xs)) ∧ Below w.heap.size w w' := by
  have hb := box_below w s ring p xs.length cap 26
  have HBd := Lib.hid hb
  have I := Lib.hid (isRow_any s ring p cap xs _ lo hi (hin.bel hb) hlen)
  have HXd : Hid (OwnArr (w.alloc (.cells #[.int .i64 s, .bool ring, .slice p xs.length cap] 26)) w.heap.size 26 [.int .i64 s, .bool ring, .slice p xs.length cap]) := OwnArr.made w 26 [.int .i64 s, .bool ring, .slice p xs.length cap]
  obtain ⟨B, hB⟩ : ∃ B, rowB s ring xs = B := ⟨_, rfl⟩
  have hF : fillB s ring xs = (B && decide (s ≤ 12)) := by unfold fillB; rw [hB]
  rw [hB] at I
  rw [hF]
  obtain ⟨m, hm⟩ : ∃ m, xs.length = m := ⟨_, rfl⟩
  rw [hm] at I HXd HBd ⊢
  clear hb hin hF hB hm
  obtain ⟨c0, c1, c2, -⟩ := HXd.out.three
  cases B with
  | true =>
    obtain ⟨D, hD⟩ : ∃ D, decide (s ≤ 12) = D := ⟨_, rfl⟩
    go_enter Try.func51, Try.ntmps51
    go_wp2_with fail
    refine I.out.mono ?_
    rintro e w1 ⟨rfl, hb1⟩
    have HX1 := Lib.hid (HXd.out.below hb1 HXd.out.lt)
    have HB1 := Lib.hid (HBd.out.trans (hb1.mono HBd.out.size))
    clear hb1 c0 c1 c2
    obtain ⟨c0, c1, c2, -⟩ := HX1.out.three
    go_wp2_with fail
    go_ret
    exact ⟨by rw [Bool.true_and, ← hD]; rfl, HB1.out⟩
  | false =>
    go_enter Try.func51, Try.ntmps51
    go_wp2_with fail
    refine I.out.mono ?_
    rintro e w1 ⟨rfl, hb1⟩
    have HB1 := Lib.hid (HBd.out.trans (hb1.mono HBd.out.size))
    clear hb1 c0 c1 c2
    go_wp2_with fail
    go_ret
    exact ⟨rfl, HB1.out⟩

set_option maxHeartbeats 800000 in
theorem l4Row_any (s : Int) (ring : Bool) (p : Option Addr) (cap : Nat) (xs : List Int) (w : World) (lo hi : Nat) (hin : Ri lo hi w p xs) (hlen : xs.length ≤ 1048576) :
    Calls Try.prog 45 #[rowV s ring p xs.length cap] w fun e w' => e = .returned (.bool (fillB s ring xs)) ∧ Below w.heap.size w w' := by
  have hb := box_below w s ring p xs.length cap 26
  have HBd := Lib.hid hb
  have I := Lib.hid (l2Row_any s ring p cap xs _ lo hi (hin.bel hb) hlen)
  have HXd : Hid (OwnArr (w.alloc (.cells #[.int .i64 s, .bool ring, .slice p xs.length cap] 26)) w.heap.size 26 [.int .i64 s, .bool ring, .slice p xs.length cap]) := OwnArr.made w 26 [.int .i64 s, .bool ring, .slice p xs.length cap]
  obtain ⟨B, hB⟩ : ∃ B, rowB s ring xs = B := ⟨_, rfl⟩
  have hF : fillB s ring xs = (B && decide (s ≤ 12)) := by unfold fillB; rw [hB]
  rw [hB] at I
  rw [hF]
  obtain ⟨m, hm⟩ : ∃ m, xs.length = m := ⟨_, rfl⟩
  rw [hm] at I HXd HBd ⊢
  clear hb hin hF hB hm
  obtain ⟨c0, c1, c2, -⟩ := HXd.out.three
  cases B with
  | true =>
    obtain ⟨D, hD⟩ : ∃ D, decide (s ≤ 12) = D := ⟨_, rfl⟩
    go_enter Try.func45, Try.ntmps45
    go_wp2_with fail
    refine I.out.mono ?_
    rintro e w1 ⟨rfl, hb1⟩
    have HX1 := Lib.hid (HXd.out.below hb1 HXd.out.lt)
    have HB1 := Lib.hid (HBd.out.trans (hb1.mono HBd.out.size))
    clear hb1 c0 c1 c2
    obtain ⟨c0, c1, c2, -⟩ := HX1.out.three
    go_wp2_with fail
    go_ret
    exact ⟨by rw [Bool.true_and, ← hD]; rfl, HB1.out⟩
  | false =>
    go_enter Try.func45, Try.ntmps45
    go_wp2_with fail
    refine I.out.mono ?_
    rintro e w1 ⟨rfl, hb1⟩
    have HB1 := Lib.hid (HBd.out.trans (hb1.mono HBd.out.size))
    clear hb1 c0 c1 c2
    go_wp2_with fail
    go_ret
    exact ⟨rfl, HB1.out⟩
end Go.Proofs.Ytidiljnonbkpjaa
