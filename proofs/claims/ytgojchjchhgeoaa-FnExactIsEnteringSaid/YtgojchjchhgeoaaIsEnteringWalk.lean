/- FnExactIsEntering's walk: for all arguments both functions give the same, in memory of the call's own. -/
import Derived.Test.YtgojchjchhgeoaaEntB7
import Derived.Test.YtgojchjchhgeoaaLst
import Derived.Deep.DeepCutAuto
import Derived.Deep.RegionWith
namespace Go.Proofs.Ytgojchjchhgeoaa.isEntering
open Go.RowKit

set_option maxRecDepth 4000 in
set_option maxHeartbeats 8000000 in
theorem walk (a0 : Int) (q1 : Option Addr) (c1 : Nat) (xs1 : List Int) (w : World) (_ : -9223372036854775808 ≤ a0 ∧ a0 ≤ 9223372036854775807) (hin1 : Ri 0 w.heap.size w q1 xs1) (hlen1 : xs1.length ≤ 9223372036854775807) :
    Calls Try.prog 3 #[.int .i64 a0, .slice q1 xs1.length c1] w fun e w' => e = .returned (.bool true) ∧ Below w.heap.size w w' := by
  have E_0 := Lib.hid (Below.refl w.heap.size w)
  have N1_0 := Lib.hid hin1
  clear hin1
  by_cases hl1 : xs1.length ≤ 1048576
  case neg =>
    have hg1 : (1048576 : Int) < (xs1.length : Int) := by omega
    go_enter Try.func3, Try.ntmps3
    go_wp2_with fail
    go_ret
    exact ⟨rfl, E_0.out⟩
  have hg1 : ¬ (1048576 : Int) < (xs1.length : Int) := by omega
  obtain ⟨y0, y1, S, I⟩ := isEntering_both a0 xs1
  replace S := Lib.hid S
  replace I := Lib.hid I
  go_enter Try.func3, Try.ntmps3
  go_wp2_with fail
  refine (toI_any q1 c1 xs1 _ _ _ N1_0.out hl1).mono ?_
  rintro e w1 ⟨bs1, hms1, hns1', rfl, hos1, hb⟩
  have E_1 := Lib.hid (E_0.out.trans (hb.mono E_0.out.size))
  have N1_1 := Lib.hid (N1_0.out.bel hb)
  clear E_0 N1_0 hb
  have Ks1 := Lib.hid (Rd.of_own hos1 hms1 hns1' (Nat.le_refl _) xs1.length)
  rw [List.take_of_length_le (by rw [iv_length]; exact Nat.le_refl _)] at Ks1
  clear hos1 hms1 hns1'
  go_wp2_with fail
  refine (S.out _ _ _ _ _ Ks1.out hl1 (Nat.le_refl _) (by unfold maxLen; omega)).mono ?_
  rintro e w2 ⟨rfl, hb⟩
  have hsqs := hb.size
  have E_2 := Lib.hid (E_1.out.trans (hb.mono E_1.out.size))
  have N1_2 := Lib.hid (N1_1.out.bel hb)
  have Ks1_2 := Lib.hid (Ks1.out.bel hb)
  clear E_1 N1_1 Ks1 hb
  clear Ks1_2
  have hz0 := E_2.out.size
  go_wp2_with fail
  refine (toI_any q1 c1 xs1 _ _ _ N1_2.out hl1).mono ?_
  rintro e w3 ⟨bx1, hmx, hnx, rfl, hox, hb⟩
  have D1 : Hid (Lcp _ w3.heap.size bx1 xs1 w3) := ⟨hox, hmx, hnx, Nat.le_refl _⟩
  have hsx1 := hb.size
  clear hox hmx hnx
  have E_3 := Lib.hid (E_2.out.trans (hb.mono E_2.out.size))
  have N1_3 := Lib.hid (N1_2.out.bel hb)
  clear E_2 N1_2 hb
  go_wp2_with fail
  refine (I.out _ _ _ _ _ D1.out.ri hl1 (Nat.le_refl _) (by unfold maxLen; omega)).mono ?_
  rintro e w4 ⟨rfl, hb⟩
  have hsqg := hb.size
  have E_4 := Lib.hid (E_3.out.trans (hb.mono E_3.out.size))
  have N1_4 := Lib.hid (N1_3.out.bel hb)
  have D1_4 := Lib.hid (D1.out.next hb)
  clear E_3 N1_3 D1 hb
  have hzg := E_4.out.size
  go_wp2_with fail
  refine (toI_any q1 c1 xs1 _ _ _ N1_4.out hl1).mono ?_
  rintro e w5 ⟨by1, hmy, hny, rfl, hoy, hb⟩
  have E_5 := Lib.hid (E_4.out.trans (hb.mono E_4.out.size))
  have N1_5 := Lib.hid (N1_4.out.bel hb)
  have D1_5 := Lib.hid (D1_4.out.next hb)
  clear E_4 N1_4 D1_4 hb
  have Y1 := Lib.hid (Rd.of_own hoy hmy hny (Nat.le_refl _) xs1.length)
  rw [List.take_of_length_le (by rw [iv_length]; exact Nat.le_refl _)] at Y1
  clear hoy hmy hny
  go_wp2_with fail
  refine (eqI_same _ _ _ _ xs1 _ _ _ _ _ D1_5.out.ri Y1.out (by omega)).mono ?_
  rintro e w6 ⟨rfl, hb⟩
  clear Y1
  have E_6 := Lib.hid (E_5.out.trans (hb.mono E_5.out.size))
  have N1_6 := Lib.hid (N1_5.out.bel hb)
  have D1_6 := Lib.hid (D1_5.out.next hb)
  clear E_5 N1_5 D1_5 hb
  go_wp2_with fail
  go_ret
  exact ⟨rfl, E_6.out⟩
end Go.Proofs.Ytgojchjchhgeoaa.isEntering
