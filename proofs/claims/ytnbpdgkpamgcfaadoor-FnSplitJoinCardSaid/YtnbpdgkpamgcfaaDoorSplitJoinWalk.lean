/- FnSplitJoin's walk. -/
import Derived.Test.YtnbpdgkpamgcfaaDoorSplitJoinMath
import Derived.Test.YtnbpdgkpamgcfaaDoorDraw2
namespace Go.Proofs.YtnbpdgkpamgcfaaDoor.splitJoin
open Go.RowKit

set_option maxRecDepth 100000 in
set_option maxHeartbeats 4000000 in
theorem walk (p : Option Addr) (cap : Nat) (bs : List UInt8) (w : World) (hin : InBytes w p bs) :
    Calls Tryd.prog 4 #[.slice p bs.length cap] w fun e w' => e = .returned (.bool true) ∧ Below w.heap.size w w' := by
  have hlen := hin.len
  by_cases hbig : 65536 < bs.length
  · have hb : decide (65536 < (bs.length : Int)) = true := decide_eq_true (by omega)
    obtain ⟨n, hn⟩ : ∃ n, bs.length = n := ⟨_, rfl⟩
    rw [hn] at hlen hbig hb ⊢
    clear hin hn
    go_enter Tryd.func4, Tryd.ntmps4
    go_wp2_with fail
    refine (vBig_any p n cap w hlen).mono ?_
    rintro e w' ⟨rfl, rfl⟩
    rw [hb]
    go_wp2_with fail
    go_ret
    exact ⟨rfl, Below.refl _ _⟩
  · have hb : decide (65536 < (bs.length : Int)) = false := decide_eq_false (by omega)
    have D1 := fun w' (h : Below w.heap.size w w') => drawSplit_any p cap bs w' (hin.below h)
    have D2 := fun w' (h : Below w.heap.size w w') => drawJoin_any p cap bs w' (hin.below h)
    have D3 := fun w' (h : Below w.heap.size w w') => drawLess_any p cap bs w' (hin.below h)
    have D5 := vBig_any p bs.length cap w hlen
    obtain ⟨n, hn⟩ : ∃ n, bs.length = n := ⟨_, rfl⟩
    rw [hn] at hlen hbig hb D1 D2 D3 D5 ⊢
    replace D1 := Lib.hid D1
    replace D2 := Lib.hid D2
    replace D3 := Lib.hid D3
    replace D5 := Lib.hid D5
    clear hin hn
    go_enter Tryd.func4, Tryd.ntmps4
    go_wp2_with fail
    refine D5.out.mono ?_
    rintro e w' ⟨rfl, rfl⟩
    rw [hb]
    clear hb hlen D5
    go_wp2_with fail
    refine (D1.out _ (Below.refl _ _)).mono ?_
    rintro e w1 ⟨s, sep, hs, hsep, rfl, hb1⟩
    go_wp2_with fail
    refine (splitI_all s sep w1 (by omega) (by omega)).mono ?_
    rintro e w2 ⟨v2, rfl, ⟨g2, c2, xs2, rfl, hc2, hg2, ho2, hx2, hin2⟩, hb2⟩
    replace hb2 := hb1.trans (hb2.mono hb1.size)
    replace hin2 := Lib.hid hin2
    clear ho2 hx2
    go_wp2_with fail
    refine (D2.out _ hb2).mono ?_
    rintro e w3 ⟨v3, ks, mark, hkl, hkz, hml, rfl, ⟨g3, c3, rfl, hc3, hg3, hin3⟩, hb3⟩
    replace hin2 := Lib.hid (hin2.out.below hb3)
    replace hb3 := hb2.trans (hb3.mono hb2.size)
    replace hin3 := Lib.hid hin3
    have JI := joinI_all (some ⟨g3, 0, none⟩) c3 ks mark w3 hin3.out hc3 (by omega) (by omega)
    replace JI := Lib.hid JI
    go_wp2_with fail
    refine JI.out.mono ?_
    rintro e w4 ⟨rfl, hb4⟩
    have JS := joinS_all (some ⟨g3, 0, none⟩) c3 ks mark w4 (hin3.out.below hb4) (by omega) (by omega)
    replace JS := Lib.hid JS
    replace hin2 := Lib.hid (hin2.out.below hb4)
    replace hb4 := hb3.trans (hb4.mono hb3.size)
    go_wp2_with fail
    refine JS.out.mono ?_
    rintro e w5 ⟨rfl, hb5⟩
    replace hin2 := Lib.hid (hin2.out.below hb5)
    replace hb5 := hb4.trans (hb5.mono hb4.size)
    clear JI JS hin3 hb1 hb2 hb3 hb4
    obtain ⟨jo, hjo⟩ : ∃ x, joinOut mark ks = x := ⟨_, rfl⟩
    obtain ⟨jf, hjf⟩ : ∃ x, joinFlag mark ks = x := ⟨_, rfl⟩
    rw [hjo, hjf]
    clear hjo hjf
    go_wp2_with fail
    refine (D3.out _ hb5).mono ?_
    rintro e w6 ⟨a, b, rfl, hb6⟩
    replace hin2 := Lib.hid (hin2.out.below hb6)
    replace hb6 := hb5.trans (hb6.mono hb5.size)
    clear hb5 D1 D2 D3
    by_cases h1 : sep.size = 1
    · obtain ⟨c, rfl⟩ := sep_one' h1
      obtain ⟨e1, e2⟩ := sp_good s c (by omega)
      rw [e1] at hin2 hc2 ⊢
      rw [e2]
      have hbk := back_out c s (by omega)
      have JB := joinI_all (some ⟨g2, 0, none⟩) c2 (spTexts c s) ⟨#[c]⟩ w6 hin2.out hc2 (by omega) (by have := back_size c s; have := spTexts_len c s; omega)
      replace JB := Lib.hid JB
      replace hbk := Lib.hid hbk
      clear e1 e2 hin2 h1
      cases hab : Op.bytesLess a.toList b.toList
      · have LI := lessI_is a b _ hab
        have LS := lessS_is a b _ hab
        replace LI := Lib.hid LI
        replace LS := Lib.hid LS
        clear hab
        go_wp2_with fail
        refine (LI.out _).mono ?_
        rintro e w7 ⟨rfl, rfl⟩
        go_wp2_with fail
        refine (LS.out _).mono ?_
        rintro e w7 ⟨rfl, rfl⟩
        go_wp2_with fail
        refine (LI.out _).mono ?_
        rintro e w7 ⟨rfl, rfl⟩
        go_wp2_with fail
        refine JB.out.mono ?_
        rintro e w8 ⟨rfl, hb8⟩
        rw [hbk.out.1, hbk.out.2]
        go_wp2_with fail
        go_ret
        exact ⟨rfl, hb6.trans (hb8.mono hb6.size)⟩
      · have hba := less_asym _ _ hab
        have LI := lessI_is a b _ hab
        have LS := lessS_is a b _ hab
        have LB := lessI_is b a _ hba
        replace LI := Lib.hid LI
        replace LS := Lib.hid LS
        replace LB := Lib.hid LB
        clear hab hba
        go_wp2_with fail
        refine (LI.out _).mono ?_
        rintro e w7 ⟨rfl, rfl⟩
        go_wp2_with fail
        refine (LS.out _).mono ?_
        rintro e w7 ⟨rfl, rfl⟩
        go_wp2_with fail
        refine (LI.out _).mono ?_
        rintro e w7 ⟨rfl, rfl⟩
        go_wp2_with fail
        refine (LB.out _).mono ?_
        rintro e w7 ⟨rfl, rfl⟩
        go_wp2_with fail
        refine JB.out.mono ?_
        rintro e w8 ⟨rfl, hb8⟩
        rw [hbk.out.1, hbk.out.2]
        go_wp2_with fail
        go_ret
        exact ⟨rfl, hb6.trans (hb8.mono hb6.size)⟩
    · obtain ⟨e1, e2⟩ := sp_bad s sep (Or.inl h1)
      rw [e1, e2]
      have hb1' : ((sep.size : Int) != 1) = true := by simp; omega
      clear e1 e2 hin2 hc2
      cases hab : Op.bytesLess a.toList b.toList
      · have LI := lessI_is a b _ hab
        have LS := lessS_is a b _ hab
        replace LI := Lib.hid LI
        replace LS := Lib.hid LS
        clear hab
        go_wp2_with fail
        refine (LI.out _).mono ?_
        rintro e w7 ⟨rfl, rfl⟩
        go_wp2_with fail
        refine (LS.out _).mono ?_
        rintro e w7 ⟨rfl, rfl⟩
        go_wp2_with fail
        refine (LI.out _).mono ?_
        rintro e w7 ⟨rfl, rfl⟩
        go_wp2_with fail
        go_ret
        exact ⟨rfl, hb6⟩
      · have hba := less_asym _ _ hab
        have LI := lessI_is a b _ hab
        have LS := lessS_is a b _ hab
        have LB := lessI_is b a _ hba
        replace LI := Lib.hid LI
        replace LS := Lib.hid LS
        replace LB := Lib.hid LB
        clear hab hba
        go_wp2_with fail
        refine (LI.out _).mono ?_
        rintro e w7 ⟨rfl, rfl⟩
        go_wp2_with fail
        refine (LS.out _).mono ?_
        rintro e w7 ⟨rfl, rfl⟩
        go_wp2_with fail
        refine (LI.out _).mono ?_
        rintro e w7 ⟨rfl, rfl⟩
        go_wp2_with fail
        refine (LB.out _).mono ?_
        rintro e w7 ⟨rfl, rfl⟩
        go_wp2_with fail
        go_ret
        exact ⟨rfl, hb6⟩
end Go.Proofs.YtnbpdgkpamgcfaaDoor.splitJoin
