/- FnExactCountBest's walk: for all arguments both functions give the same, in memory of the call's own. -/
import Derived.Test.YtlhnejjciondeaaCntI7
import Derived.Deep.DeepCutAuto
import Derived.Deep.RegionWith
namespace Go.Proofs.Ytlhnejjciondeaa
open Go.RowKit
theorem countBest_both (a0 : Int) (a1 : Int) : ∃ (x0 : Int) (y1 : Bool), (∀  (w : World), Calls Try.prog 16 #[.int .i64 a0, .int .i64 a1] w fun e w' => e = .returned (.tuple #[.int .i64 x0, .bool y1]) ∧ Below w.heap.size w w') ∧ (∀  (w : World), Calls Try.prog 17 #[.int .i64 a0, .int .i64 a1] w fun e w' => e = .returned (.tuple #[.int .i64 x0, .bool y1]) ∧ Below w.heap.size w w') := by
  cases h : few7 a0 a1 with
  | false => exact ⟨0, false, fun w => countS_bad a0 a1 w h, fun w => countI_bad a0 a1 w h⟩
  | true =>
    obtain ⟨n, rfl, h1, h2, h3, h4⟩ := few_is h
    exact ⟨(cntM n a1 (entM n) : Nat), true, fun w => countS_any n a1 w h1 h2 h3 h4 h, fun w => countI_any n a1 w h1 h2 h3 h4 h⟩
end Go.Proofs.Ytlhnejjciondeaa
namespace Go.Proofs.Ytlhnejjciondeaa.countBest
open Go.RowKit

set_option maxRecDepth 4000 in
set_option maxHeartbeats 8000000 in
theorem walk (a0 : Int) (a1 : Int) (w : World) (_ : -9223372036854775808 ≤ a0 ∧ a0 ≤ 9223372036854775807) (_ : -9223372036854775808 ≤ a1 ∧ a1 ≤ 9223372036854775807) :
    Calls Try.prog 5 #[.int .i64 a0, .int .i64 a1] w fun e w' => e = .returned (.bool true) ∧ Below w.heap.size w w' := by
  have E_0 := Lib.hid (Below.refl w.heap.size w)
  obtain ⟨x0, y1, S, I⟩ := countBest_both a0 a1
  replace S := Lib.hid S
  replace I := Lib.hid I
  go_enter Try.func5, Try.ntmps5
  go_wp2_with fail
  refine (S.out  _  ).mono ?_
  rintro e w1 ⟨rfl, hb⟩
  have hsqs := hb.size
  have E_1 := Lib.hid (E_0.out.trans (hb.mono E_0.out.size))
  clear E_0 hb
  have hz0 := E_1.out.size
  go_wp2_with fail
  refine (I.out  _  ).mono ?_
  rintro e w2 ⟨rfl, hb⟩
  have hsqg := hb.size
  have E_2 := Lib.hid (E_1.out.trans (hb.mono E_1.out.size))
  clear E_1 hb
  have hzg := E_2.out.size
  go_wp2_with fail
  go_wp2_with fail
  go_ret
  exact ⟨rfl, E_2.out⟩
end Go.Proofs.Ytlhnejjciondeaa.countBest
