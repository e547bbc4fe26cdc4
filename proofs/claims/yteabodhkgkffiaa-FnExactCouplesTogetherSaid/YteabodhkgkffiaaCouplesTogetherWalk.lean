/- FnExactCouplesTogether's walk: for all arguments both functions give the same, in memory of the call's own. -/
import Derived.Test.YteabodhkgkffiaaTogB8
import Derived.Test.YteabodhkgkffiaaLst
import Derived.Deep.DeepCutAuto
import Derived.Deep.RegionWith
namespace Go.Proofs.Yteabodhkgkffiaa.couplesTogether
open Go.RowKit

set_option maxRecDepth 4000 in
set_option maxHeartbeats 8000000 in
theorem walk (a0 : Int) (a1 : Bool) (q2 : Option Addr) (c2 : Nat) (xs2 : List Int) (w : World) (_ : -9223372036854775808 ≤ a0 ∧ a0 ≤ 9223372036854775807) (hin2 : Ri 0 w.heap.size w q2 xs2) (hlen2 : xs2.length ≤ 9223372036854775807) :
    Calls Try.prog 4 #[.int .i64 a0, .bool a1, .slice q2 xs2.length c2] w fun e w' => e = .returned (.bool true) ∧ Below w.heap.size w w' := by
  have E_0 := Lib.hid (Below.refl w.heap.size w)
  have N2_0 := Lib.hid hin2
  clear hin2
  by_cases hl2 : xs2.length ≤ 1048576
  case neg =>
    have hg2 : (1048576 : Int) < (xs2.length : Int) := by omega
    go_enter Try.func4, Try.ntmps4
    go_wp2_with fail
    go_ret
    exact ⟨rfl, E_0.out⟩
  have hg2 : ¬ (1048576 : Int) < (xs2.length : Int) := by omega
  obtain ⟨x0, y1, S, I⟩ := couplesTogether_both a0 a1 xs2
  replace S := Lib.hid S
  replace I := Lib.hid I
  go_enter Try.func4, Try.ntmps4
  go_wp2_with fail
  refine (toI_any q2 c2 xs2 _ _ _ N2_0.out hl2).mono ?_
  rintro e w1 ⟨bs2, hms2, hns2', rfl, hos2, hb⟩
  have E_1 := Lib.hid (E_0.out.trans (hb.mono E_0.out.size))
  have N2_1 := Lib.hid (N2_0.out.bel hb)
  clear E_0 N2_0 hb
  have Ks2 := Lib.hid (Rd.of_own hos2 hms2 hns2' (Nat.le_refl _) xs2.length)
  rw [List.take_of_length_le (by rw [iv_length]; exact Nat.le_refl _)] at Ks2
  clear hos2 hms2 hns2'
  go_wp2_with fail
  refine (S.out _ _ _ _ _ Ks2.out hl2 (Nat.le_refl _) (by unfold maxLen; omega)).mono ?_
  rintro e w2 ⟨rfl, hb⟩
  have hsqs := hb.size
  have E_2 := Lib.hid (E_1.out.trans (hb.mono E_1.out.size))
  have N2_2 := Lib.hid (N2_1.out.bel hb)
  have Ks2_2 := Lib.hid (Ks2.out.bel hb)
  clear E_1 N2_1 Ks2 hb
  clear Ks2_2
  have hz0 := E_2.out.size
  go_wp2_with fail
  refine (toI_any q2 c2 xs2 _ _ _ N2_2.out hl2).mono ?_
  rintro e w3 ⟨bx2, hmx, hnx, rfl, hox, hb⟩
  have D2 : Hid (Lcp _ w3.heap.size bx2 xs2 w3) := ⟨hox, hmx, hnx, Nat.le_refl _⟩
  have hsx2 := hb.size
  clear hox hmx hnx
  have E_3 := Lib.hid (E_2.out.trans (hb.mono E_2.out.size))
  have N2_3 := Lib.hid (N2_2.out.bel hb)
  clear E_2 N2_2 hb
  go_wp2_with fail
  refine (I.out _ _ _ _ _ D2.out.ri hl2 (Nat.le_refl _) (by unfold maxLen; omega)).mono ?_
  rintro e w4 ⟨rfl, hb⟩
  have hsqg := hb.size
  have E_4 := Lib.hid (E_3.out.trans (hb.mono E_3.out.size))
  have N2_4 := Lib.hid (N2_3.out.bel hb)
  have D2_4 := Lib.hid (D2.out.next hb)
  clear E_3 N2_3 D2 hb
  have hzg := E_4.out.size
  go_wp2_with fail
  refine (toI_any q2 c2 xs2 _ _ _ N2_4.out hl2).mono ?_
  rintro e w5 ⟨by2, hmy, hny, rfl, hoy, hb⟩
  have E_5 := Lib.hid (E_4.out.trans (hb.mono E_4.out.size))
  have N2_5 := Lib.hid (N2_4.out.bel hb)
  have D2_5 := Lib.hid (D2_4.out.next hb)
  clear E_4 N2_4 D2_4 hb
  have Y2 := Lib.hid (Rd.of_own hoy hmy hny (Nat.le_refl _) xs2.length)
  rw [List.take_of_length_le (by rw [iv_length]; exact Nat.le_refl _)] at Y2
  clear hoy hmy hny
  go_wp2_with fail
  refine (eqI_same _ _ _ _ xs2 _ _ _ _ _ D2_5.out.ri Y2.out (by omega)).mono ?_
  rintro e w6 ⟨rfl, hb⟩
  clear Y2
  have E_6 := Lib.hid (E_5.out.trans (hb.mono E_5.out.size))
  have N2_6 := Lib.hid (N2_5.out.bel hb)
  have D2_6 := Lib.hid (D2_5.out.next hb)
  clear E_5 N2_5 D2_5 hb
  go_wp2_with fail
  go_ret
  exact ⟨rfl, E_6.out⟩
end Go.Proofs.Yteabodhkgkffiaa.couplesTogether
