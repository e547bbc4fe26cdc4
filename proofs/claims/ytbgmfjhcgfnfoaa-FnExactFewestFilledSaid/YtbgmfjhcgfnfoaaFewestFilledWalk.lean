/- FnExactFewestFilled's walk: for every Row both functions give the same result. -/
import Derived.Test.YtbgmfjhcgfnfoaaFew
import Derived.Test.YtbgmfjhcgfnfoaaRowLaw
namespace Go.Proofs.Ytbgmfjhcgfnfoaa.fewestFilled
open Go.RowKit

set_option maxHeartbeats 800000 in
theorem walk (s : Int) (ring : Bool) (p : Option Addr) (cap : Nat) (xs : List Int) (w : World) (hin : Ri 0 w.heap.size w p xs) (hlen : xs.length ≤ 9223372036854775807) (_ : -9223372036854775808 ≤ s ∧ s ≤ 9223372036854775807) (_ : ∀ x ∈ xs, -9223372036854775808 ≤ x ∧ x ≤ 9223372036854775807) :
    Calls Try.prog 6 #[rowV s ring p xs.length cap] w fun e w' => e = .returned (.bool true) ∧ Below w.heap.size w w' := by
  have E0 := Env.start (s := s) (ring := ring) (cap := cap) hin
  have SZ := fun w' => szRow_any s ring p xs.length cap w' hlen
  by_cases hl : xs.length ≤ 1048576
  · rw [if_pos hl] at SZ
    obtain ⟨X, Y, B, S, I⟩ := fewestFilled_both s ring xs
    replace S := Lib.hid S
    replace I := Lib.hid I
    replace E0 := Lib.hid E0
    replace SZ := Lib.hid SZ
    have h0 : ¬ (1048576 - (xs.length : Int) < 0) := by omega
    clear hin
    go_enter Try.func6, Try.ntmps6
    go_wp2_with fail
    refine (SZ.out _).mono ?_
    rintro e w1 ⟨rfl, hb1⟩
    have E1 := Lib.hid (E0.out.next hb1)
    obtain ⟨a0, a1, a2, -⟩ := E1.out.box.three
    clear E0 SZ hb1
    go_wp2_with fail
    refine (toRow_any s ring p cap xs _ _ _ E1.out.inn hl).mono ?_
    rintro e w2 ⟨b2, hm2, hn2, rfl, ho2, hb2⟩
    have E2 := Lib.hid (E1.out.next hb2)
    have C2 : Hid (Ri w1.heap.size w2.heap.size w2 (some ⟨b2, 0, none⟩) xs) := by
      show Ri _ _ _ _ _
      have := Rd.of_own ho2 hm2 hn2 (Nat.le_refl _) xs.length
      rwa [List.take_of_length_le (by rw [iv_length]; exact Nat.le_refl _)] at this
    clear E1 hb2 ho2 a0 a1 a2
    go_wp2_with fail
    refine (S.out _ _ _ _ _ C2.out hl).mono ?_
    rintro e w3 ⟨rfl, hb3⟩
    have E3 := Lib.hid (E2.out.next hb3)
    obtain ⟨a0, a1, a2, -⟩ := E3.out.box.three
    clear E2 C2 hb3 S
    go_wp2_with fail
    refine (toRow_any s ring p cap xs _ _ _ E3.out.inn hl).mono ?_
    rintro e w4 ⟨b4, hm4, hn4, rfl, ho4, hb4⟩
    have E4 := Lib.hid (E3.out.next hb4)
    have C4 := Lib.hid (Cpy.made (s := s) (ring := ring) ho4 hm4)
    have E5 := Lib.hid (E4.out.next ((Below.refl _ w4).alloc (Nat.le_refl _) (.cells #[.int .i64 s, .bool ring, .slice (some ⟨b4, 0, none⟩) xs.length xs.length] 28)))
    clear E3 hb4 ho4 a0 a1 a2
    go_wp2_with fail
    refine (I.out _ _ _ _ _ C4.out.ri hl).mono ?_
    rintro e w6 ⟨rfl, hb6⟩
    have E6 := Lib.hid (E5.out.next hb6)
    have C6 := Lib.hid (C4.out.next hb6)
    obtain ⟨a0, a1, a2, -⟩ := E6.out.box.three
    obtain ⟨c0, c1, c2, -⟩ := C6.out.box.three
    clear E4 E5 C4 hb6 I
    go_wp2_with fail
    have hE := E6.out.next ((Below.refl _ w6).drew)
    have hC := C6.out.next ((Below.refl _ w6).drew)
    have T6 := Lib.hid (toRow_any s ring p cap xs w6.drew _ _ hE.inn hl)
    have HE := Lib.hid hE
    have HC := Lib.hid hC
    clear hE hC E6 C6
    go_region_with (first
      | (go_at_call 11; refine T6.out.mono ?_; rintro e w7 ⟨b7, hm7, hn7, rfl, ho7, hb7⟩; have E7 := Lib.hid (HE.out.next hb7); have C7 := Lib.hid (HC.out.next hb7); have R7 := Lib.hid (Rd.of_own ho7 hm7 hn7 (Nat.le_refl _) xs.length); rw [List.take_of_length_le (by rw [iv_length]; exact Nat.le_refl _)] at R7; obtain ⟨d0, d1, d2, -⟩ := C7.out.box.three; clear ho7 hb7)
      | (go_at_call 14; refine (eqRow_same s ring _ _ _ _ xs _ _ _ _ _ C7.out.ri R7.out hlen).mono ?_; rintro e w8 ⟨rfl, hb8⟩; have E8 := Lib.hid (E7.out.next hb8)))
    all_goals
      go_wp2_with fail
      go_ret
      exact ⟨rfl, E8.out.bel⟩
  · rw [if_neg hl] at SZ
    replace E0 := Lib.hid E0
    replace SZ := Lib.hid SZ
    clear hin
    go_enter Try.func6, Try.ntmps6
    go_wp2_with fail
    refine (SZ.out _).mono ?_
    rintro e w1 ⟨rfl, hb1⟩
    have E1 := Lib.hid (E0.out.next hb1)
    go_wp2_with fail
    go_ret
    exact ⟨rfl, E1.out.bel⟩
end Go.Proofs.Ytbgmfjhcgfnfoaa.fewestFilled
