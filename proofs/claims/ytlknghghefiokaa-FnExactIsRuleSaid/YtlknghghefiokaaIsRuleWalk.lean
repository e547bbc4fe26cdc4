/- FnExactIsRule's walk: for every Rule both functions give the same. -/
import Derived.Test.YtlknghghefiokaaRulI8
import Derived.Test.YtlknghghefiokaaRulLaw
import Derived.Deep.DeepCutAuto
import Derived.Deep.RegionWith
namespace Go.Proofs.Ytlknghghefiokaa.isRule
open Go.RowKit

set_option maxRecDepth 4000 in
set_option maxHeartbeats 2000000 in
theorem walk (s : Int) (p : Option Addr) (cap : Nat) (xs : List Int) (w : World) (hin : Ri 0 w.heap.size w p xs) (hlen : xs.length ≤ 9223372036854775807) (_ : -9223372036854775808 ≤ s ∧ s ≤ 9223372036854775807) (_ : ∀ x ∈ xs, -9223372036854775808 ≤ x ∧ x ≤ 9223372036854775807) :
    Calls Try.prog 3 #[ruleV s p xs.length cap] w fun e w' => e = .returned (.bool true) ∧ Below w.heap.size w w' := by
  have E0 := Lib.hid (EnvU.start (s := s) (cap := cap) hin)
  have SZ := fun w' => szRule_any s p xs.length cap 1048576 w' hlen (by omega)
  clear hin
  by_cases hl : xs.length ≤ 1048576
  · rw [if_pos (by omega)] at SZ
    have S := Lib.hid (fun w' p' c' lo hi (h : Ri lo hi w' p' xs) => isRuleS_any s p' c' xs w' lo hi h hl)
    have I := Lib.hid (fun w' p' c' lo hi (h : Ri lo hi w' p' xs) => isRuleI_any s p' c' xs w' lo hi h hl)
    obtain ⟨B, hB⟩ : ∃ B, ruleB s xs = B := ⟨_, rfl⟩
    rw [hB] at S I
    replace SZ := Lib.hid SZ
    have h0 : ¬ (1048576 - (xs.length : Int) < 0) := by omega
    clear hB
    go_enter Try.func3, Try.ntmps3
    go_wp2_with fail
    refine (SZ.out _).mono ?_
    rintro e w1 ⟨rfl, hb1⟩
    have E1 := Lib.hid (E0.out.next hb1)
    obtain ⟨a0, a1, -⟩ := E1.out.box.two
    clear E0 SZ hb1
    go_wp2_with fail
    refine (toRule_any s p cap xs _ _ _ E1.out.inn hl).mono ?_
    rintro e w2 ⟨b2, hm2, hn2, rfl, ho2, hb2⟩
    have E2 := Lib.hid (E1.out.next hb2)
    have C2 : Hid (Ri w1.heap.size w2.heap.size w2 (some ⟨b2, 0, none⟩) xs) := by
      show Ri _ _ _ _ _
      have := Rd.of_own ho2 hm2 hn2 (Nat.le_refl _) xs.length
      rwa [List.take_of_length_le (by rw [iv_length]; exact Nat.le_refl _)] at this
    clear E1 hb2 ho2 a0 a1
    go_wp2_with fail
    refine (S.out _ _ _ _ _ C2.out).mono ?_
    rintro e w3 ⟨rfl, hb3⟩
    have E3 := Lib.hid (E2.out.next hb3)
    obtain ⟨a0, a1, -⟩ := E3.out.box.two
    clear E2 C2 hb3 S
    go_wp2_with fail
    refine (toRule_any s p cap xs _ _ _ E3.out.inn hl).mono ?_
    rintro e w4 ⟨b4, hm4, hn4, rfl, ho4, hb4⟩
    have E4 := Lib.hid (E3.out.next hb4)
    have C4 := Lib.hid (CpyU.made (s := s) ho4 hm4)
    have hbx := (Below.refl _ w4).alloc (Nat.le_refl _) (.cells #[.int .i64 s, .slice (some ⟨b4, 0, none⟩) xs.length xs.length] 27)
    have E5 := Lib.hid (E4.out.next hbx)
    obtain ⟨x0, x1, -⟩ := C4.out.box.two
    clear E3 hb4 ho4 a0 a1 hbx E4
    go_wp2_with fail
    refine (I.out _ _ _ _ _ C4.out.ri).mono ?_
    rintro e w7 ⟨rfl, hb6⟩
    have E7 := Lib.hid (E5.out.next hb6)
    have C7 := Lib.hid (C4.out.next hb6)
    clear E5 C4 hb6 x0 x1
    obtain ⟨a0, a1, -⟩ := E7.out.box.two
    obtain ⟨x0, x1, -⟩ := C7.out.box.two
    go_upto_region 10 with fail
    go_cut [26] (fun v wx => v = .bool false ∧ Hid (Below w7.heap.size w7 wx))
    case first =>
      have hE := E7.out.next ((Below.refl _ w7).drew)
      have hC := C7.out.next ((Below.refl _ w7).drew)
      have T6 := Lib.hid (toRule_any s p cap xs w7.drew _ _ hE.inn hl)
      have HC := Lib.hid hC
      have HW := Lib.hid ((Below.refl w7.heap.size w7).drew)
      clear hE hC
      go_region_with (first
        | (go_at_call 10; refine T6.out.mono ?_; rintro e w8 ⟨b8, hm8, hn8, rfl, ho8, hb8⟩; have HW8 := Lib.hid (HW.out.trans hb8); have C8 := Lib.hid (HC.out.next hb8); have P8 := Lib.hid (Rd.of_own ho8 hm8 hn8 (Nat.le_refl _) xs.length); rw [List.take_of_length_le (by rw [iv_length]; exact Nat.le_refl _)] at P8; obtain ⟨d0, d1, -⟩ := C8.out.box.two; clear ho8 hb8)
        | (go_at_call 12; refine (eqRule_same s _ _ _ _ xs _ _ _ _ _ C8.out.ri P8.out hlen).mono ?_; rintro e w9 ⟨rfl, hb9⟩; have HW9 := Lib.hid (HW8.out.trans (hb9.mono HW8.out.size))))
      all_goals
        go_wp2_with fail
        go_meet
        exact ⟨rfl, HW9⟩
    case rest =>
      obtain ⟨rfl, HW⟩ := hcut
      have E9 := Lib.hid (E7.out.next HW.out)
      clear a0 a1 x0 x1 HW E7 C7
      go_wp2_with fail
      go_ret
      exact ⟨rfl, E9.out.bel⟩
  · rw [if_neg (by omega)] at SZ
    replace SZ := Lib.hid SZ
    go_enter Try.func3, Try.ntmps3
    go_wp2_with fail
    refine (SZ.out _).mono ?_
    rintro e w1 ⟨rfl, hb1⟩
    have E1 := Lib.hid (E0.out.next hb1)
    go_wp2_with fail
    go_ret
    exact ⟨rfl, E1.out.bel⟩
end Go.Proofs.Ytlknghghefiokaa.isRule
