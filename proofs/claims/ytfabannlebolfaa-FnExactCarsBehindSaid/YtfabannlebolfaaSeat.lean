/- A seat of a valid Row: spec.l2Seat, for every Row. -/
import Derived.Test.YtfabannlebolfaaSeatI
namespace Go.Proofs.Ytfabannlebolfaa
open Go.RowKit

set_option maxHeartbeats 800000 in
theorem l2Seat_any (s : Int) (ring : Bool) (p : Option Addr) (cap : Nat) (xs : List Int) (x : Int) (w : World) (lo hi : Nat) (hin : Ri lo hi w p xs) (hlen : xs.length ≤ 1048576) :
    Calls Try.prog 62 #[rowV s ring p xs.length cap, .int .i64 x] w fun e w' => e = .returned (.bool (seatB s ring xs x)) ∧ Below w.heap.size w w' := by
  have hb := box_below w s ring p xs.length cap 28
  have I := Lib.hid (l2Row_any s ring p cap xs _ lo hi (hin.bel hb) hlen)
  have hbox : OwnArr (w.alloc (.cells #[Value.int .i64 s, Value.bool ring, Value.slice p xs.length cap] 28)) w.heap.size 28 [.int .i64 s, .bool ring, .slice p xs.length cap] := OwnArr.made w _ _
  have HX := Lib.hid hbox
  replace hb := Lib.hid hb
  clear hin hbox
  unfold seatB
  by_cases hB : rowB s ring xs = true
  · have hs : 2 ≤ s ∧ s ≤ 24 := by
      obtain ⟨n, S, rfl, _, h1, h2, _⟩ := rowB_is hB
      omega
    obtain ⟨hs1, hs2⟩ := hs
    rw [hB] at I ⊢
    have HL := fun w' => l1In_any x 0 (s - 1) w'
    obtain ⟨C, hC⟩ : ∃ C, (decide (0 ≤ x) && decide (x ≤ s - 1)) = C := ⟨_, rfl⟩
    have hD : (decide (0 ≤ x) && decide (x < s)) = C := by
      rw [← hC]
      have : decide (x < s) = decide (x ≤ s - 1) := decide_eq_decide.2 (by omega)
      rw [this]
    rw [hC] at HL
    rw [hD]
    replace HL := Lib.hid HL
    clear hC hD hB
    go_enter Try.func62, Try.ntmps62
    go_wp2_with fail
    refine I.out.mono ?_
    rintro e w' ⟨rfl, hb2⟩
    have hc := (HX.out.below hb2 (by simp)).cell 0
    simp only [List.getElem?_cons_zero] at hc
    go_wp2_with fail
    refine (HL.out _).mono ?_
    rintro e w3 ⟨rfl, rfl⟩
    go_wp2_with fail
    go_ret
    exact ⟨rfl, hb.out.trans (hb2.mono hb.out.size)⟩
  · have hB' : rowB s ring xs = false := by simpa using hB
    rw [hB'] at I ⊢
    clear hB hB'
    go_enter Try.func62, Try.ntmps62
    go_wp2_with fail
    refine I.out.mono ?_
    rintro e w' ⟨rfl, hb2⟩
    go_wp2_with fail
    go_ret
    exact ⟨rfl, hb.out.trans (hb2.mono hb.out.size)⟩
end Go.Proofs.Ytfabannlebolfaa
