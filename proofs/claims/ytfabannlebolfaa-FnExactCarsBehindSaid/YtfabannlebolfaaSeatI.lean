/- A seat of a valid Row: impl.isSeatOf, for every Row. -/
import Derived.Test.YtfabannlebolfaaRowI
namespace Go.Proofs.Ytfabannlebolfaa
open Go.RowKit

/-- a seat of a valid Row -/
def seatB (s : Int) (ring : Bool) (xs : List Int) (x : Int) : Bool := rowB s ring xs && (decide (0 ≤ x) && decide (x < s))

set_option maxHeartbeats 800000 in
theorem isSeatOf_any (s : Int) (ring : Bool) (p : Option Addr) (cap : Nat) (xs : List Int) (x : Int) (w : World) (lo hi : Nat) (hin : Ri lo hi w p xs) (hlen : xs.length ≤ 1048576) :
    Calls Try.prog 54 #[rowV s ring p xs.length cap, .int .i64 x] w fun e w' => e = .returned (.bool (seatB s ring xs x)) ∧ Below w.heap.size w w' := by
  have hb := box_below w s ring p xs.length cap 28
  have I := Lib.hid (isRow_any s ring p cap xs _ lo hi (hin.bel hb) hlen)
  have hbox : OwnArr (w.alloc (.cells #[Value.int .i64 s, Value.bool ring, Value.slice p xs.length cap] 28)) w.heap.size 28 [.int .i64 s, .bool ring, .slice p xs.length cap] := OwnArr.made w _ _
  have HX := Lib.hid hbox
  replace hb := Lib.hid hb
  clear hin hbox
  unfold seatB
  obtain ⟨B, hB⟩ : ∃ B, rowB s ring xs = B := ⟨_, rfl⟩
  rw [hB] at I ⊢
  clear hB
  cases B with
  | false =>
    go_enter Try.func54, Try.ntmps54
    go_wp2_with fail
    refine I.out.mono ?_
    rintro e w' ⟨rfl, hb2⟩
    go_wp2_with fail
    go_ret
    exact ⟨rfl, hb.out.trans (hb2.mono hb.out.size)⟩
  | true =>
    by_cases h1 : 0 ≤ x
    · go_enter Try.func54, Try.ntmps54
      go_wp2_with fail
      refine I.out.mono ?_
      rintro e w' ⟨rfl, hb2⟩
      have hc := (HX.out.below hb2 (by simp)).cell 0
      simp only [List.getElem?_cons_zero] at hc
      go_wp2_with fail
      go_ret
      exact ⟨ret_bool (by simp [h1]), hb.out.trans (hb2.mono hb.out.size)⟩
    · go_enter Try.func54, Try.ntmps54
      go_wp2_with fail
      refine I.out.mono ?_
      rintro e w' ⟨rfl, hb2⟩
      go_wp2_with fail
      go_ret
      exact ⟨ret_bool (by simp; omega), hb.out.trans (hb2.mono hb.out.size)⟩
end Go.Proofs.Ytfabannlebolfaa
