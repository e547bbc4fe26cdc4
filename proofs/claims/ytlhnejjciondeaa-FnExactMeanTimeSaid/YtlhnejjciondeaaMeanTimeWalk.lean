/- FnExactMeanTime's walk: for all numbers both functions give the same fraction (chapter 7). -/
import Derived.Test.YtlhnejjciondeaaMenI7
import Derived.Test.YtlhnejjciondeaaFrLaw
namespace Go.Proofs.Ytlhnejjciondeaa
open Go.RowKit
theorem meanTime_both (n s : Int) : ∃ x y B, (∀ w, Calls Try.prog 13 #[.int .i64 n, .int .i64 s] w (MadeFr w x y B)) ∧ (∀ w, Calls Try.prog 14 #[.int .i64 n, .int .i64 s] w (MadeFr w x y B)) := by
  cases h : few7 n s with
  | false => exact ⟨0, 0, false, fun w => meanS_bad n s w h, fun w => meanI_bad n s w h⟩
  | true =>
    obtain ⟨m, rfl, h1, h2, h3, h4⟩ := few_is h
    exact ⟨(meanR m s).num, (((meanR m s).den : Nat) : Int), true, fun w => meanS_any m s w h1 h2 h3 h4 h, fun w => meanI_any m s w h1 h2 h3 h4 h⟩
end Go.Proofs.Ytlhnejjciondeaa
namespace Go.Proofs.Ytlhnejjciondeaa.meanTime
open Go.RowKit

set_option maxRecDepth 4000 in
set_option maxHeartbeats 1600000 in
theorem walk (a : Int) (b : Int) (w : World) (_ : -9223372036854775808 ≤ a ∧ a ≤ 9223372036854775807) (_ : -9223372036854775808 ≤ b ∧ b ≤ 9223372036854775807) :
    Calls Try.prog 4 #[.int .i64 a, .int .i64 b] w fun e w' => e = .returned (.bool true) ∧ Below w.heap.size w w' := by
  obtain ⟨x, y, B, S, I⟩ := meanTime_both a b
  unfold MadeFr at S I
  replace S := Lib.hid S
  replace I := Lib.hid I
  go_enter Try.func4, Try.ntmps4
  go_wp2_with fail
  refine (S.out _).mono ?_
  rintro e w1 ⟨rfl, hb1⟩
  have B1 := Lib.hid (hb1.alloc hb1.size (.cells #[.int .i64 x, .int .i64 y] 28))
  have W1 := Lib.hid (OwnArr.made w1 28 [.int .i64 x, .int .i64 y])
  clear hb1
  go_wp2_with fail
  refine (I.out _).mono ?_
  rintro e w2 ⟨rfl, hb2⟩
  have hb3 := hb2.alloc hb2.size (.cells #[.int .i64 x, .int .i64 y] 28)
  have B2 := Lib.hid (B1.out.trans (hb3.mono B1.out.size))
  have W2 := Lib.hid (W1.out.below hb3 W1.out.lt)
  have G2 := Lib.hid (OwnArr.made w2 28 [.int .i64 x, .int .i64 y])
  clear B1 W1 hb2 hb3
  obtain ⟨p0, p1, -⟩ := boxed_fr W2.out
  obtain ⟨q0, q1, -⟩ := boxed_fr G2.out
  go_wp2_with fail
  refine (eqA2_same x y _).mono ?_
  rintro e w3 ⟨rfl, hb3⟩
  have B3 := Lib.hid (B2.out.trans (hb3.mono B2.out.size))
  go_wp2_with fail
  go_ret
  exact ⟨rfl, B3.out⟩
end Go.Proofs.Ytlhnejjciondeaa.meanTime
