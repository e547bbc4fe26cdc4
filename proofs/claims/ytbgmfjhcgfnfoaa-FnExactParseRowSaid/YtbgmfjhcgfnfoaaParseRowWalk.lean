/- FnExactParseRow's walk: for every text both functions give the same Row, in memory of the call's own. -/
import Derived.Test.YtbgmfjhcgfnfoaaParse2
import Derived.Test.YtbgmfjhcgfnfoaaRowLaw
import Derived.Test.YtbgmfjhcgfnfoaaHeldRow
namespace Go.Proofs.Ytbgmfjhcgfnfoaa.parseRow
open Go.RowKit

theorem stay {w w' : World} {g lo hi : Nat} {e : TypeId} {xs : List Value} (h : OwnArr w g e xs) (hk : Keep lo hi w w') (hd : g < lo ∨ hi ≤ g) : OwnArr w' g e xs := by
  have hlt := h.lt
  unfold OwnArr at *
  rw [hk.block g hlt hd]; exact h

set_option maxRecDepth 4000 in
set_option maxHeartbeats 2000000 in
theorem walk (x : ByteArray) (w : World) (hx0 : x.size ≤ maxLen) :
    Calls Try.prog 8 #[.string x] w fun e w' => e = .returned (.bool true) ∧ Below w.heap.size w w' := by
  have hx : x.size ≤ 9223372036854775807 := by unfold maxLen at hx0; omega
  by_cases hs : x.size ≤ 1048576
  · have h0 : ¬ (1048576 : Int) < (x.size : Int) := by omega
    obtain ⟨s', ring', L, R, hL, S, I⟩ := parseRow_both x hs
    replace S := Lib.hid S
    replace I := Lib.hid I
    obtain ⟨n, hn⟩ : ∃ n, L.length = n := ⟨_, rfl⟩
    rw [hn] at hL
    replace hn := Lib.hid hn
    have EQ := Lib.hid (fun (qa qb : Option Addr) (ca cb : Nat) (w' : World) (l1 h1 l2 h2 : Nat) (x : Ri l1 h1 w' qa L) (y : Ri l2 h2 w' qb L) => eqRow_same s' ring' qa qb ca cb L w' l1 h1 l2 h2 x y (by rw [hn.out]; omega))
    rw [hn.out] at EQ
    go_enter Try.func8, Try.ntmps8
    go_wp2_with fail
    refine (S.out _).mono ?_
    rintro e w1 ⟨v1, rfl, hO1, hb1⟩
    obtain ⟨q1, c1, rfl, -, -, hR1, -⟩ := hO1.rd
    have hbA := (Below.refl w1.heap.size w1).alloc (Nat.le_refl _) (.cells #[.int .i64 s', .bool ring', .slice q1 L.length c1] 28)
    have R1 := Lib.hid (hR1.bel hbA)
    have W1 := Lib.hid (OwnArr.made w1 28 [.int .i64 s', .bool ring', .slice q1 L.length c1])
    have B1 := Lib.hid (hb1.alloc hb1.size (.cells #[.int .i64 s', .bool ring', .slice q1 L.length c1] 28))
    rw [hn.out] at R1 W1 B1 ⊢
    have h01 := hb1.size
    clear hO1 hR1 hbA hb1 S
    go_wp2_with fail
    refine (I.out _).mono ?_
    rintro e w2 ⟨v2, rfl, hO2, hb2⟩
    obtain ⟨q2, c2, rfl, -, -, hR2, hW2⟩ := hO2.rd
    have hbG := (Below.refl w2.heap.size w2).alloc (Nat.le_refl _) (.cells #[.int .i64 s', .bool ring', .slice q2 L.length c2] 28)
    have h12 : w1.heap.size + 1 ≤ w2.heap.size := by have := hb2.size; simp at this; omega
    have B2 := Lib.hid ((B1.out.trans (hb2.mono B1.out.size)).trans (hbG.mono (by have := B1.out.size; have := hb2.size; omega)))
    have R2 := Lib.hid ((R1.out.bel hb2).bel hbG)
    have W2 := Lib.hid ((W1.out.below hb2 W1.out.lt).below hbG (W1.out.below hb2 W1.out.lt).lt)
    have Q2 := Lib.hid (hR2.bel hbG)
    have O2 := Lib.hid (hW2.bel hbG)
    have G2 := Lib.hid (OwnArr.made w2 28 [.int .i64 s', .bool ring', .slice q2 L.length c2])
    rw [hn.out] at B2 R2 W2 Q2 O2 G2 ⊢
    clear hO2 hR2 hW2 hb2 hbG B1 R1 W1
    obtain ⟨g0, g1, g2, -⟩ := G2.out.three
    obtain ⟨k0, k1, k2, -⟩ := W2.out.three
    go_wp2_with fail
    refine (EQ.out _ _ _ _ _ _ _ _ _ Q2.out R2.out).mono ?_
    rintro e w3 ⟨rfl, hb3⟩
    have B3 := Lib.hid (B2.out.trans (hb3.mono B2.out.size))
    have R3 := Lib.hid (R2.out.bel hb3)
    have W3 := Lib.hid (W2.out.below hb3 W2.out.lt)
    have G3 := Lib.hid (G2.out.below hb3 G2.out.lt)
    have O3 := Lib.hid (O2.out.bel hb3)
    have h23 : w2.heap.size + 1 ≤ w3.heap.size := by have := hb3.size; simp at this; omega
    clear B2 R2 W2 Q2 O2 G2 hb3 g0 g1 g2 k0 k1 k2
    obtain ⟨g0, g1, g2, -⟩ := G3.out.three
    have MI := Lib.hid (markRow_any s' ring' q2 _ _ n c2 1 w3 O3.out (by omega))
    obtain ⟨M, hM⟩ : ∃ M, 1 + n = M := ⟨_, rfl⟩
    rw [hM] at MI
    have hM0 : ¬ (M : Int) < 0 := by omega
    go_wp2_with fail
    refine MI.out.mono ?_
    rintro e w4 ⟨rfl, hq4, -, hk4⟩
    have B4 := Lib.hid (B3.out.trans ((hk4.below (by simp; omega)).mono (by simp; omega)))
    have R4 := Lib.hid (R3.out.keep hk4 (.inl (by simp)))
    have W4 := Lib.hid (stay W3.out hk4 (.inl (by simp)))
    have G4 := Lib.hid (stay G3.out hk4 (.inr (Nat.le_refl _)))
    have Q4 := Lib.hid hq4
    clear B3 R3 W3 G3 O3 MI hq4 hk4 g0 g1 g2
    have HI := Lib.hid (fun w' (la ha : Nat) (h : Ri la ha w' q2 (mk 1 n)) => heldRow_any s' ring' q2 la ha n c2 1 w' h (by omega))
    rw [hM] at HI
    obtain ⟨g0, g1, g2, -⟩ := G4.out.three
    go_wp2_with fail
    refine (HI.out _ _ _ Q4.out).mono ?_
    rintro e w5 ⟨rfl, hb5⟩
    have B5 := Lib.hid (B4.out.trans (hb5.mono B4.out.size))
    have R5 := Lib.hid (R4.out.bel hb5)
    have W5 := Lib.hid (W4.out.below hb5 W4.out.lt)
    have G5 := Lib.hid (G4.out.below hb5 G4.out.lt)
    have Q5 := Lib.hid (Q4.out.bel hb5)
    clear B4 R4 W4 G4 Q4 hb5 g0 g1 g2
    go_wp2_with fail
    refine (I.out _).mono ?_
    rintro e w6 ⟨v3, rfl, hO3, hb6⟩
    obtain ⟨q3, c3, rfl, -, -, hR3, -⟩ := hO3.rd
    have hbH := (Below.refl w6.heap.size w6).alloc (Nat.le_refl _) (.cells #[.int .i64 s', .bool ring', .slice q3 L.length c3] 28)
    have B6 := Lib.hid ((B5.out.trans (hb6.mono B5.out.size)).trans (hbH.mono (by have := B5.out.size; have := hb6.size; omega)))
    have R6 := Lib.hid ((R5.out.bel hb6).bel hbH)
    have W6 := Lib.hid ((W5.out.below hb6 W5.out.lt).below hbH (W5.out.below hb6 W5.out.lt).lt)
    have G6 := Lib.hid ((G5.out.below hb6 G5.out.lt).below hbH (G5.out.below hb6 G5.out.lt).lt)
    have Q6 := Lib.hid ((Q5.out.bel hb6).bel hbH)
    have P6 := Lib.hid (hR3.bel hbH)
    rw [hn.out] at B6 R6 W6 G6 Q6 P6 ⊢
    clear B5 R5 W5 G5 Q5 hO3 hR3 hb6 hbH I
    obtain ⟨k0, k1, k2, -⟩ := W6.out.three
    go_wp2_with fail
    refine (EQ.out _ _ _ _ _ _ _ _ _ P6.out R6.out).mono ?_
    rintro e w7 ⟨rfl, hb7⟩
    have B7 := Lib.hid (B6.out.trans (hb7.mono B6.out.size))
    have G7 := Lib.hid (G6.out.below hb7 G6.out.lt)
    have Q7 := Lib.hid (Q6.out.bel hb7)
    clear B6 R6 W6 G6 Q6 P6 hb7 EQ k0 k1 k2
    obtain ⟨g0, g1, g2, -⟩ := G7.out.three
    go_wp2_with fail
    refine (HI.out _ _ _ Q7.out).mono ?_
    rintro e w8 ⟨rfl, hb8⟩
    have B8 := Lib.hid (B7.out.trans (hb8.mono B7.out.size))
    go_wp2_with fail
    go_ret
    exact ⟨rfl, B8.out⟩
  · have h0 : (1048576 : Int) < (x.size : Int) := by omega
    go_enter Try.func8, Try.ntmps8
    go_wp2_with fail
    go_ret
    exact ⟨rfl, Below.refl _ _⟩
end Go.Proofs.Ytbgmfjhcgfnfoaa.parseRow
