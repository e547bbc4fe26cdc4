/- FnExactSeatingChance's walk: for all arguments both functions give the same, in memory of the call's own. -/
import Derived.Test.YtadonbnnolfbdaaSeaI5
import Derived.Test.YtadonbnnolfbdaaLst
import Derived.Test.YtadonbnnolfbdaaPairs
import Derived.Test.YtadonbnnolfbdaaFrLaw
import Derived.Deep.DeepCutAuto
import Derived.Deep.RegionWith
namespace Go.Proofs.Ytadonbnnolfbdaa.seatingChance
open Go.RowKit

set_option maxRecDepth 4000 in
set_option maxHeartbeats 8000000 in
theorem walk (a0 : Int) (a1 : Int) (q2 : Option Addr) (c2 : Nat) (xs2 : List Int) (w : World) (_ : -9223372036854775808 ≤ a0 ∧ a0 ≤ 9223372036854775807) (_ : -9223372036854775808 ≤ a1 ∧ a1 ≤ 9223372036854775807) (hin2 : Ri 0 w.heap.size w q2 xs2) (hlen2 : xs2.length ≤ 9223372036854775807) :
    Calls Try.prog 8 #[.int .i64 a0, .int .i64 a1, .slice q2 xs2.length c2] w fun e w' => e = .returned (.bool true) ∧ Below w.heap.size w w' := by
  have E_0 := Lib.hid (Below.refl w.heap.size w)
  have N2_0 := Lib.hid hin2
  clear hin2
  by_cases hl2 : xs2.length ≤ 1048576
  case neg =>
    have hg2 : (1048576 : Int) < (xs2.length : Int) := by omega
    go_enter Try.func8, Try.ntmps8
    go_wp2_with fail
    go_ret
    exact ⟨rfl, E_0.out⟩
  have hg2 : ¬ (1048576 : Int) < (xs2.length : Int) := by omega
  obtain ⟨x0, z0, y1, S, I⟩ := seatingChance_both a0 a1 xs2
  replace S := Lib.hid S
  replace I := Lib.hid I
  go_enter Try.func8, Try.ntmps8
  go_wp2_with fail
  refine (toI_any q2 c2 xs2 _ _ _ N2_0.out hl2).mono ?_
  rintro e w1 ⟨bs2, hms2, hns2', rfl, hos2, hb⟩
  have E_1 := Lib.hid (E_0.out.trans (hb.mono E_0.out.size))
  have N2_1 := Lib.hid (N2_0.out.bel hb)
  clear E_0 N2_0 hb
  have Ks2 := Lib.hid (Rd.of_own hos2 hms2 hns2' (Nat.le_refl _) xs2.length)
  rw [List.take_of_length_le (by rw [iv_length]; exact Nat.le_refl _)] at Ks2
  clear hos2 hms2 hns2'
  go_wp2_with fail
  refine (S.out _ _ _ _ _ Ks2.out hl2 (Nat.le_refl _) (by unfold maxLen; omega)).mono ?_
  rintro e w2 ⟨rfl, hb⟩
  have hbA0 := (Below.refl _ w2).alloc (Nat.le_refl _) (.cells #[.int .i64 x0, .int .i64 z0] 22)
  have hsqs := hb.size
  have E_2 := Lib.hid (E_1.out.trans (hb.mono E_1.out.size))
  have N2_2 := Lib.hid (N2_1.out.bel hb)
  have Ks2_2 := Lib.hid (Ks2.out.bel hb)
  clear E_1 N2_1 Ks2 hb
  have hszs0 : w2.heap.size + 1 ≤ (w2.alloc (.cells #[.int .i64 x0, .int .i64 z0] 22)).heap.size := by simp
  have hsus0 : (w2.alloc (.cells #[.int .i64 x0, .int .i64 z0] 22)).heap.size ≤ w2.heap.size + 1 := by simp
  have hX := OwnArr.made w2 22 [.int .i64 x0, .int .i64 z0]
  have E_3 := Lib.hid (E_2.out.trans (hbA0.mono E_2.out.size))
  have N2_3 := Lib.hid (N2_2.out.bel hbA0)
  have Ks2_3 := Lib.hid (Ks2_2.out.bel hbA0)
  clear E_2 N2_2 Ks2_2 hbA0
  have Bs0 := Lib.hid hX
  clear hX
  clear Ks2_3
  have hz0 := E_3.out.size
  have hz2_0 := Bs0.out.lt
  go_wp2_with fail
  refine (toI_any q2 c2 xs2 _ _ _ N2_3.out hl2).mono ?_
  rintro e w4 ⟨bx2, hmx, hnx, rfl, hox, hb⟩
  have D2 : Hid (Lcp _ w4.heap.size bx2 xs2 w4) := ⟨hox, hmx, hnx, Nat.le_refl _⟩
  have hsx2 := hb.size
  clear hox hmx hnx
  have E_4 := Lib.hid (E_3.out.trans (hb.mono E_3.out.size))
  have N2_4 := Lib.hid (N2_3.out.bel hb)
  have Bs0_4 := Lib.hid (Bs0.out.below hb Bs0.out.lt)
  clear E_3 N2_3 Bs0 hb
  go_wp2_with fail
  refine (I.out _ _ _ _ _ D2.out.ri hl2 (Nat.le_refl _) (by unfold maxLen; omega)).mono ?_
  rintro e w5 ⟨rfl, hb⟩
  have hbA0 := (Below.refl _ w5).alloc (Nat.le_refl _) (.cells #[.int .i64 x0, .int .i64 z0] 22)
  have hsqg := hb.size
  have E_5 := Lib.hid (E_4.out.trans (hb.mono E_4.out.size))
  have N2_5 := Lib.hid (N2_4.out.bel hb)
  have Bs0_5 := Lib.hid (Bs0_4.out.below hb Bs0_4.out.lt)
  have D2_5 := Lib.hid (D2.out.next hb)
  clear E_4 N2_4 Bs0_4 D2 hb
  have hszg0 : w5.heap.size + 1 ≤ (w5.alloc (.cells #[.int .i64 x0, .int .i64 z0] 22)).heap.size := by simp
  have hsug0 : (w5.alloc (.cells #[.int .i64 x0, .int .i64 z0] 22)).heap.size ≤ w5.heap.size + 1 := by simp
  have hX := OwnArr.made w5 22 [.int .i64 x0, .int .i64 z0]
  have E_6 := Lib.hid (E_5.out.trans (hbA0.mono E_5.out.size))
  have N2_6 := Lib.hid (N2_5.out.bel hbA0)
  have Bs0_6 := Lib.hid (Bs0_5.out.below hbA0 Bs0_5.out.lt)
  have D2_6 := Lib.hid (D2_5.out.next hbA0)
  clear E_5 N2_5 Bs0_5 D2_5 hbA0
  have Bg0 := Lib.hid hX
  clear hX
  have hzg := E_6.out.size
  obtain ⟨fg00, fg01, -⟩ := boxed_fr Bg0.out
  obtain ⟨fs00, fs01, -⟩ := boxed_fr Bs0_6.out
  go_wp2_with fail
  refine (eqA2_same x0 z0 _).mono ?_
  rintro e w7 ⟨rfl, hb⟩
  clear fg00 fg01
  clear fs00 fs01
  have E_7 := Lib.hid (E_6.out.trans (hb.mono E_6.out.size))
  have N2_7 := Lib.hid (N2_6.out.bel hb)
  have Bs0_7 := Lib.hid (Bs0_6.out.below hb Bs0_6.out.lt)
  have D2_7 := Lib.hid (D2_6.out.next hb)
  have Bg0_7 := Lib.hid (Bg0.out.below hb Bg0.out.lt)
  clear E_6 N2_6 Bs0_6 D2_6 Bg0 hb
  go_wp2_with fail
  refine (toI_any q2 c2 xs2 _ _ _ N2_7.out hl2).mono ?_
  rintro e w8 ⟨by2, hmy, hny, rfl, hoy, hb⟩
  have E_8 := Lib.hid (E_7.out.trans (hb.mono E_7.out.size))
  have N2_8 := Lib.hid (N2_7.out.bel hb)
  have Bs0_8 := Lib.hid (Bs0_7.out.below hb Bs0_7.out.lt)
  have D2_8 := Lib.hid (D2_7.out.next hb)
  have Bg0_8 := Lib.hid (Bg0_7.out.below hb Bg0_7.out.lt)
  clear E_7 N2_7 Bs0_7 D2_7 Bg0_7 hb
  have Y2 := Lib.hid (Rd.of_own hoy hmy hny (Nat.le_refl _) xs2.length)
  rw [List.take_of_length_le (by rw [iv_length]; exact Nat.le_refl _)] at Y2
  clear hoy hmy hny
  go_wp2_with fail
  refine (eqI_same _ _ _ _ xs2 _ _ _ _ _ D2_8.out.ri Y2.out (by omega)).mono ?_
  rintro e w9 ⟨rfl, hb⟩
  clear Y2
  have E_9 := Lib.hid (E_8.out.trans (hb.mono E_8.out.size))
  have N2_9 := Lib.hid (N2_8.out.bel hb)
  have Bs0_9 := Lib.hid (Bs0_8.out.below hb Bs0_8.out.lt)
  have D2_9 := Lib.hid (D2_8.out.next hb)
  have Bg0_9 := Lib.hid (Bg0_8.out.below hb Bg0_8.out.lt)
  clear E_8 N2_8 Bs0_8 D2_8 Bg0_8 hb
  go_wp2_with fail
  go_ret
  exact ⟨rfl, E_9.out⟩
end Go.Proofs.Ytadonbnnolfbdaa.seatingChance
