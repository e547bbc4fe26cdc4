/- FnExactMenageCount's walk: for all arguments both functions give the same, in memory of the call's own. -/
import Derived.Test.YteabodhkgkffiaaMenB8
import Derived.Deep.DeepCutAuto
import Derived.Deep.RegionWith
namespace Go.Proofs.Yteabodhkgkffiaa.menageCount
open Go.RowKit

set_option maxRecDepth 4000 in
set_option maxHeartbeats 8000000 in
theorem walk (a0 : Int) (w : World) (_ : -9223372036854775808 ≤ a0 ∧ a0 ≤ 9223372036854775807) :
    Calls Try.prog 8 #[.int .i64 a0] w fun e w' => e = .returned (.bool true) ∧ Below w.heap.size w w' := by
  have E_0 := Lib.hid (Below.refl w.heap.size w)
  obtain ⟨x0, y1, S, I⟩ := menageCount_both a0
  replace S := Lib.hid S
  replace I := Lib.hid I
  go_enter Try.func8, Try.ntmps8
  go_wp2_with fail
  refine (S.out  _  ).mono ?_
  rintro e w1 ⟨rfl, hb⟩
  have hsqs := hb.size
  have E_1 := Lib.hid (E_0.out.trans (hb.mono E_0.out.size))
  clear E_0 hb
  have hz0 := E_1.out.size
  go_wp2_with fail
  refine (I.out  _  ).mono ?_
  rintro e w2 ⟨rfl, hb⟩
  have hsqg := hb.size
  have E_2 := Lib.hid (E_1.out.trans (hb.mono E_1.out.size))
  clear E_1 hb
  have hzg := E_2.out.size
  go_wp2_with fail
  go_wp2_with fail
  go_ret
  exact ⟨rfl, E_2.out⟩
end Go.Proofs.Yteabodhkgkffiaa.menageCount
