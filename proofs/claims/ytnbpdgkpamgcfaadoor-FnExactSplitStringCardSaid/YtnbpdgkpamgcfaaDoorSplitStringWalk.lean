/- FnExactSplitString's walk: for every text and separator both functions give the same pieces, in memory of the call's own. -/
import Derived.Test.YtnbpdgkpamgcfaaDoorSplitAll
import Derived.Test.YtnbpdgkpamgcfaaDoorMark
namespace Go.Proofs.YtnbpdgkpamgcfaaDoor.splitString
open Go.RowKit

theorem walk_in (s sep : ByteArray) (w : World) (hs : s.size ≤ 1048576) (hp : sep.size ≤ 1048576) :
    Calls Tryd.prog 7 #[.string s, .string sep] w fun e w' => e = .returned (.bool true) ∧ Below w.heap.size w w' := by
  have S := fun w' => splitS_all s sep w' hs hp
  have I := fun w' => splitI_all s sep w' hs hp
  have hlen := spOut_len s sep
  obtain ⟨ss, hss⟩ : ∃ ss, spOut s sep = ss := ⟨_, rfl⟩
  obtain ⟨b, hb⟩ : ∃ b, spFlag s sep = b := ⟨_, rfl⟩
  rw [hss, hb] at S
  rw [hss, hb] at I
  rw [hss] at hlen
  obtain ⟨n, hn⟩ : ∃ n, ss.length = n := ⟨_, rfl⟩
  rw [hn] at hlen
  replace S := Lib.hid S
  replace I := Lib.hid I
  replace hn := Lib.hid hn
  clear hss hb
  go_enter Tryd.func7, Tryd.ntmps7
  go_wp2_with fail
  refine (S.out w).mono ?_
  rintro e w1 ⟨v1, rfl, ⟨g1, c1, rfl, hc1, hg1, hin1⟩, hb1⟩
  replace hin1 := Lib.hid hin1
  go_wp2_with fail
  refine (I.out w1).mono ?_
  rintro e w2 ⟨v2, rfl, ⟨g2, c2, xs, rfl, hc2, hg2, ho2, hx2, hin2⟩, hb2⟩
  replace ho2 := Lib.hid ho2
  replace hin2 := Lib.hid hin2
  go_wp2_with fail
  refine (eqS_same _ _ c2 c1 ss w2 hin2.out (hin1.out.below hb2)).mono ?_
  rintro e w3 ⟨rfl, hb3⟩
  have ho3 := Lib.hid (ho2.out.below hb3 ho2.out.lt)
  have hB3 := (hb1.trans (hb2.mono hb1.size)).trans (hb3.mono (by have := hb2.size; have := hb1.size; omega))
  have hlt3 := ho3.out.lt
  rw [hn.out] at hx2 hc2 hc1 ⊢
  go_wp2_with fail
  refine (markS_any g2 n c2 1 xs w3 ho3.out hx2 (by omega) (by omega)).mono ?_
  rintro e w4 ⟨rfl, ho4, hb4⟩
  obtain ⟨m, hm⟩ : ∃ m, 1 + n = m := ⟨_, rfl⟩
  rw [hm]
  have hlt4 := ho4.lt
  replace ho4 := Lib.hid ho4
  have hB14 := (hb2.trans (hb3.mono hb2.size)).trans (hb4.below hg2 hlt3)
  have hB4 := hB3.trans (hb4.below (by have := hb1.size; omega) hlt3)
  clear ho2 hin2 ho3
  go_wp2_with fail
  refine (heldS_any g2 n c2 1 xs w4 ho4.out hx2 (by omega) (by omega)).mono ?_
  rintro e w5 ⟨rfl, hb5⟩
  rw [hm]
  have hm0 : ¬ (m : Int) < 0 := by omega
  go_wp2_with fail
  refine (I.out w5).mono ?_
  rintro e w6 ⟨v6, rfl, ⟨g6, c6, xs6, rfl, hc6, hg6, ho6, hx6, hin6⟩, hb6⟩
  have hB16 := (hB14.trans (hb5.mono hB14.size)).trans (hb6.mono (by have := hB14.size; have := hb5.size; omega))
  have hin16 := hin1.out.below hB16
  have ho46 := (ho4.out.below hb5 hlt4).below hb6 (by have := hb5.size; omega)
  have hlt6 := ho46.lt
  replace ho46 := Lib.hid ho46
  replace hin6 := Lib.hid hin6
  replace hin16 := Lib.hid hin16
  have hB6 := (hB4.trans (hb5.mono hB4.size)).trans (hb6.mono (by have := hB4.size; have := hb5.size; omega))
  clear ho6 hx6 ho4 hin1
  rw [hn.out] at hc6 ⊢
  have EQ := eqS_same _ _ c6 c1 ss w6 hin6.out hin16.out
  rw [hn.out] at EQ
  replace EQ := Lib.hid EQ
  go_wp2_with fail
  refine EQ.out.mono ?_
  rintro e w7 ⟨rfl, hb7⟩
  go_wp2_with fail
  refine (heldS_any g2 n c2 1 xs w7 (ho46.out.below hb7 hlt6) hx2 (by omega) (by omega)).mono ?_
  rintro e w8 ⟨rfl, hb8⟩
  rw [hm]
  go_wp2_with fail
  go_ret
  exact ⟨rfl, (hB6.trans (hb7.mono hB6.size)).trans (hb8.mono (by have := hB6.size; have := hb7.size; omega))⟩

theorem walk (s sep : ByteArray) (w : World) (hs : s.size ≤ maxLen) (hp : sep.size ≤ maxLen) :
    Calls Tryd.prog 7 #[.string s, .string sep] w fun e w' => e = .returned (.bool true) ∧ Below w.heap.size w w' := by
  unfold maxLen at hs hp
  by_cases h1 : 1048576 < s.size
  · go_enter Tryd.func7, Tryd.ntmps7
    go_wp2_with fail
    go_ret
    exact ⟨rfl, Below.refl _ _⟩
  · by_cases h2 : 1048576 < sep.size
    · go_enter Tryd.func7, Tryd.ntmps7
      go_wp2_with fail
      go_ret
      exact ⟨rfl, Below.refl _ _⟩
    · exact walk_in s sep w (by omega) (by omega)
end Go.Proofs.YtnbpdgkpamgcfaaDoor.splitString
