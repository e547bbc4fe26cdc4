/- FnExactFamilyCount's walk: for all arguments both functions give the same, in memory of the call's own. -/
import Derived.Test.YteabodhkgkffiaaFamB8
import Derived.Test.YteabodhkgkffiaaLst
import Derived.Deep.DeepCutAuto
import Derived.Deep.RegionWith
namespace Go.Proofs.Yteabodhkgkffiaa.familyCount
open Go.RowKit

set_option maxRecDepth 4000 in
set_option maxHeartbeats 8000000 in
theorem walk (q0 : Option Addr) (c0 : Nat) (xs0 : List Int) (a1 : Bool) (w : World) (hin0 : Ri 0 w.heap.size w q0 xs0) (hlen0 : xs0.length ≤ 9223372036854775807) :
    Calls Try.prog 9 #[.slice q0 xs0.length c0, .bool a1] w fun e w' => e = .returned (.bool true) ∧ Below w.heap.size w w' := by
  have E_0 := Lib.hid (Below.refl w.heap.size w)
  have N0_0 := Lib.hid hin0
  clear hin0
  by_cases hl0 : xs0.length ≤ 1048576
  case neg =>
    have hg0 : (1048576 : Int) < (xs0.length : Int) := by omega
    go_enter Try.func9, Try.ntmps9
    go_wp2_with fail
    go_ret
    exact ⟨rfl, E_0.out⟩
  have hg0 : ¬ (1048576 : Int) < (xs0.length : Int) := by omega
  obtain ⟨x0, y1, S, I⟩ := familyCount_both xs0 a1
  replace S := Lib.hid S
  replace I := Lib.hid I
  go_enter Try.func9, Try.ntmps9
  go_wp2_with fail
  refine (toI_any q0 c0 xs0 _ _ _ N0_0.out hl0).mono ?_
  rintro e w1 ⟨bs0, hms0, hns0', rfl, hos0, hb⟩
  have E_1 := Lib.hid (E_0.out.trans (hb.mono E_0.out.size))
  have N0_1 := Lib.hid (N0_0.out.bel hb)
  clear E_0 N0_0 hb
  have Ks0 := Lib.hid (Rd.of_own hos0 hms0 hns0' (Nat.le_refl _) xs0.length)
  rw [List.take_of_length_le (by rw [iv_length]; exact Nat.le_refl _)] at Ks0
  clear hos0 hms0 hns0'
  go_wp2_with fail
  refine (S.out _ _ _ _ _ Ks0.out hl0 (Nat.le_refl _) (by unfold maxLen; omega)).mono ?_
  rintro e w2 ⟨rfl, hb⟩
  have hsqs := hb.size
  have E_2 := Lib.hid (E_1.out.trans (hb.mono E_1.out.size))
  have N0_2 := Lib.hid (N0_1.out.bel hb)
  have Ks0_2 := Lib.hid (Ks0.out.bel hb)
  clear E_1 N0_1 Ks0 hb
  clear Ks0_2
  have hz0 := E_2.out.size
  go_wp2_with fail
  refine (toI_any q0 c0 xs0 _ _ _ N0_2.out hl0).mono ?_
  rintro e w3 ⟨bx0, hmx, hnx, rfl, hox, hb⟩
  have D0 : Hid (Lcp _ w3.heap.size bx0 xs0 w3) := ⟨hox, hmx, hnx, Nat.le_refl _⟩
  have hsx0 := hb.size
  clear hox hmx hnx
  have E_3 := Lib.hid (E_2.out.trans (hb.mono E_2.out.size))
  have N0_3 := Lib.hid (N0_2.out.bel hb)
  clear E_2 N0_2 hb
  go_wp2_with fail
  refine (I.out _ _ _ _ _ D0.out.ri hl0 (Nat.le_refl _) (by unfold maxLen; omega)).mono ?_
  rintro e w4 ⟨rfl, hb⟩
  have hsqg := hb.size
  have E_4 := Lib.hid (E_3.out.trans (hb.mono E_3.out.size))
  have N0_4 := Lib.hid (N0_3.out.bel hb)
  have D0_4 := Lib.hid (D0.out.next hb)
  clear E_3 N0_3 D0 hb
  have hzg := E_4.out.size
  go_wp2_with fail
  refine (toI_any q0 c0 xs0 _ _ _ N0_4.out hl0).mono ?_
  rintro e w5 ⟨by0, hmy, hny, rfl, hoy, hb⟩
  have E_5 := Lib.hid (E_4.out.trans (hb.mono E_4.out.size))
  have N0_5 := Lib.hid (N0_4.out.bel hb)
  have D0_5 := Lib.hid (D0_4.out.next hb)
  clear E_4 N0_4 D0_4 hb
  have Y0 := Lib.hid (Rd.of_own hoy hmy hny (Nat.le_refl _) xs0.length)
  rw [List.take_of_length_le (by rw [iv_length]; exact Nat.le_refl _)] at Y0
  clear hoy hmy hny
  go_wp2_with fail
  refine (eqI_same _ _ _ _ xs0 _ _ _ _ _ D0_5.out.ri Y0.out (by omega)).mono ?_
  rintro e w6 ⟨rfl, hb⟩
  clear Y0
  have E_6 := Lib.hid (E_5.out.trans (hb.mono E_5.out.size))
  have N0_6 := Lib.hid (N0_5.out.bel hb)
  have D0_6 := Lib.hid (D0_5.out.next hb)
  clear E_5 N0_5 D0_5 hb
  go_wp2_with fail
  go_ret
  exact ⟨rfl, E_6.out⟩
end Go.Proofs.Yteabodhkgkffiaa.familyCount
