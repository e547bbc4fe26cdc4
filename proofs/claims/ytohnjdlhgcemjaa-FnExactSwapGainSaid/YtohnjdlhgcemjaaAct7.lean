/- Chapter 7, spec side: spec.l7Act. -/
import Derived.Test.YtohnjdlhgcemjaaCab7
namespace Go.Proofs.Ytohnjdlhgcemjaa
open Go.RowKit

/-- a cabin, as it is handed on -/
abbrev cabL (n : Nat) (K : Nat → Nat) (a b c d e f : Nat) : List Value := [.slice (some ⟨a, 0, none⟩) n (K a), .slice (some ⟨b, 0, none⟩) n (K b), .slice (some ⟨c, 0, none⟩) n (K c), .slice (some ⟨d, 0, none⟩) n (K d), .slice (some ⟨e, 0, none⟩) n (K e), .slice (some ⟨f, 0, none⟩) n (K f)]
/-- what lies in other blocks stays -/
def Kept7 (a b c d e f : Nat) (w w' : World) : Prop := ∀ g T xs, (a ≠ g ∧ b ≠ g ∧ c ≠ g ∧ d ≠ g ∧ e ≠ g ∧ f ≠ g) → OwnArr w g T xs → OwnArr w' g T xs
def from6 (B a b c d e f : Nat) : Prop := B ≤ a ∧ B ≤ b ∧ B ≤ c ∧ B ≤ d ∧ B ≤ e ∧ B ≤ f

set_option maxRecDepth 4000 in
set_option maxHeartbeats 8000000 in
theorem l7Act_any (n : Nat) (K : Nat → Nat) (a b c d e f row : Nat) (t s : Int) (C : Cab) (w : World) (B : Nat) (hW : Cabs w n K a b c d e f C) (hB : from6 B a b c d e f) (hBs : B ≤ w.heap.size) (hrow : row < n) (hn : n ≤ 10) (hI : Inv7 n s C) (hs : s ≤ 5) (hw : 0 ≤ C.wa row ∧ C.wa row ≤ 100000) :
    Calls Try.prog 47 #[.agg #[.slice (some ⟨a, 0, none⟩) n (K a), .slice (some ⟨b, 0, none⟩) n (K b), .slice (some ⟨c, 0, none⟩) n (K c), .slice (some ⟨d, 0, none⟩) n (K d), .slice (some ⟨e, 0, none⟩) n (K e), .slice (some ⟨f, 0, none⟩) n (K f)], .int .i64 (row : Nat), .int .i64 t, .int .i64 s] w fun E w' => E = .returned (.tuple #[]) ∧ Cabs w' n K a b c d e f (act7 s t row C) ∧ Below B w w' ∧ (Kept7 a b c d e f w w') := by
  obtain ⟨w1, hw1⟩ : ∃ w1, w.alloc (.cells #[.slice (some ⟨a, 0, none⟩) n (K a), .slice (some ⟨b, 0, none⟩) n (K b), .slice (some ⟨c, 0, none⟩) n (K c), .slice (some ⟨d, 0, none⟩) n (K d), .slice (some ⟨e, 0, none⟩) n (K e), .slice (some ⟨f, 0, none⟩) n (K f)] 37) = w1 := ⟨_, rfl⟩
  have hX : OwnArr w1 w.heap.size 37 (cabL n K a b c d e f) := by rw [← hw1]; exact OwnArr.made w _ (cabL n K a b c d e f)
  have hb1 : Below B w w1 := by rw [← hw1]; exact (Below.refl _ _).alloc hBs _
  have hC : Cabs w1 n K a b c d e f C := by rw [← hw1]; exact hW.alloc _
  have hdis := hC.dis
  have kp : Kept7 a b c d e f w w1 := by
    intro g T xs _ h
    rw [← hw1]; exact h.alloc _
  have hlt : a ≠ w.heap.size ∧ b ≠ w.heap.size ∧ c ≠ w.heap.size ∧ d ≠ w.heap.size ∧ e ≠ w.heap.size ∧ f ≠ w.heap.size := by
    have h1 := hW.ai.lt; have h2 := hW.at_.lt; have h3 := hW.st.lt; have h4 := hW.en.lt; have h5 := hW.sa.lt; have h6 := hW.wa.lt
    refine ⟨?_, ?_, ?_, ?_, ?_, ?_⟩ <;> omega
  obtain ⟨x0, hx0⟩ : ∃ x, w.heap.size = x := ⟨_, rfl⟩
  rw [hx0] at hX hlt
  have x1a : w1.cell? ⟨x0, 0, none⟩ = some (.slice (some ⟨a, 0, none⟩) n (K a)) := hX.cell 0
  have x1b : w1.cell? ⟨x0, 1, none⟩ = some (.slice (some ⟨b, 0, none⟩) n (K b)) := hX.cell 1
  have x1c : w1.cell? ⟨x0, 2, none⟩ = some (.slice (some ⟨c, 0, none⟩) n (K c)) := hX.cell 2
  have x1e : w1.cell? ⟨x0, 4, none⟩ = some (.slice (some ⟨e, 0, none⟩) n (K e)) := hX.cell 4
  have x1f : w1.cell? ⟨x0, 5, none⟩ = some (.slice (some ⟨f, 0, none⟩) n (K f)) := hX.cell 5
  have at1 := hI.at1 row hrow
  have st1 := hI.st1 row hrow
  have sa1 := hI.sa1 row hrow
  have y_at := hC.at_.cell hrow
  have y_sa := hC.sa.cell hrow
  have hr0 : (0 : Int) ≤ (row : Int) := by omega
  have hr1 : (row : Int) < (n : Int) := by omega
  have KP := Lib.hid kp
  have HX := Lib.hid hX
  have HC := Lib.hid hC
  have HB1 := Lib.hid hb1
  have HLT := Lib.hid hlt
  have HW1 := Lib.hid hw1
  have HX0 := Lib.hid hx0
  have HFR := Lib.hid hB
  by_cases e1 : 0 < C.sa row
  · have HA : Hid (act7 s t row C = C) := by show _ = _; unfold act7; rw [if_pos e1]
    rw [HA.out]
    clear kp hW hB hI hX hC hb1 hlt hw1 hx0 HA
    go_enter Try.func47, Try.ntmps47
    go_upto_region 1 with fail
    rw [HX0.out, HW1.out]
    go_wp2_with fail
    exact bodyPost_end (results_none rfl _ _ _) rfl ⟨rfl, HC.out, HB1.out, KP.out⟩
  have x1d : w1.cell? ⟨x0, 3, none⟩ = some (.slice (some ⟨d, 0, none⟩) n (K d)) := hX.cell 3
  by_cases e2 : C.at_ row < 0
  · have hn0 : 0 < n := by omega
    have y_ai := hC.ai.cell hn0
    have hn1 : (0 : Int) < (n : Int) := by omega
    by_cases e3 : C.ai 0 < 0
    · have HA : Hid (act7 s t row C = { C with ai := updI C.ai 0 row, at_ := updI C.at_ row 0, en := updI C.en row t }) := by show _ = _; unfold act7; rw [if_neg e1, if_pos e2, if_pos e3]
      rw [HA.out]
      have C2 := hC.setA 0 (row : Int)
      have C3 := C2.setB row 0
      have C4 := Lib.hid (C3.setD row t)
      have X2 := hX.other7 (i := 0) (Ne.symm hlt.1) (.int .i64 (row : Int))
      have X3 := X2.other7 (i := row) (Ne.symm hlt.2.1) (.int .i64 0)
      have K4 : Hid (Kept7 a b c d e f w (((w1.setCell ⟨a, 0, none⟩ (.int .i64 (row : Int))).setCell ⟨b, row, none⟩ (.int .i64 0)).setCell ⟨d, row, none⟩ (.int .i64 t))) := by show Kept7 _ _ _ _ _ _ _ _; intro g T xs hn h; exact (((kp g T xs hn h).other7 (Ne.symm hn.1) _).other7 (Ne.symm hn.2.1) _).other7 (Ne.symm hn.2.2.2.1) _
      have B4 : Hid (Below B w (((w1.setCell ⟨a, 0, none⟩ (.int .i64 (row : Int))).setCell ⟨b, row, none⟩ (.int .i64 0)).setCell ⟨d, row, none⟩ (.int .i64 t))) := ((hb1.setCell (p := ⟨a, 0, none⟩) hB.1 _).setCell (p := ⟨b, row, none⟩) hB.2.1 _).setCell (p := ⟨d, row, none⟩) hB.2.2.2.1 _
      have fa := hC.ai.free 0
      have fb := C2.at_.free row
      have fd := C3.en.free row
      have yb := C2.at_.cell hrow
      have yd := C3.en.cell hrow
      have x2b : (w1.setCell ⟨a, 0, none⟩ (.int .i64 (row : Int))).cell? ⟨x0, 1, none⟩ = some (.slice (some ⟨b, 0, none⟩) n (K b)) := X2.cell 1
      have x3d : ((w1.setCell ⟨a, 0, none⟩ (.int .i64 (row : Int))).setCell ⟨b, row, none⟩ (.int .i64 0)).cell? ⟨x0, 3, none⟩ = some (.slice (some ⟨d, 0, none⟩) n (K d)) := X3.cell 3
      clear kp hW hB hI hX hC hb1 hlt hw1 hx0 HA C2 C3 X2 X3
      go_enter Try.func47, Try.ntmps47
      go_upto_region 1 with fail
      rw [HX0.out, HW1.out]
      go_wp2_with fail
      exact bodyPost_end (results_none rfl _ _ _) rfl ⟨rfl, C4.out, B4.out, K4.out⟩
    · have HA : Hid (act7 s t row C = C) := by show _ = _; unfold act7; rw [if_neg e1, if_pos e2, if_neg e3]
      rw [HA.out]
      clear kp hW hB hI hX hC hb1 hlt hw1 hx0 HA
      go_enter Try.func47, Try.ntmps47
      go_upto_region 1 with fail
      rw [HX0.out, HW1.out]
      go_wp2_with fail
      exact bodyPost_end (results_none rfl _ _ _) rfl ⟨rfl, HC.out, HB1.out, KP.out⟩
  obtain ⟨k, hk⟩ : ∃ k : Nat, C.at_ row = k := ⟨(C.at_ row).toNat, by omega⟩
  have hkt : (C.at_ row).toNat = k := by omega
  have hkr : k ≤ row := by omega
  have hk0 : ¬ (k : Int) < 0 := by omega
  by_cases e3 : C.at_ row = row
  · have hkr : k = row := by omega
    subst hkr
    have y_st := hC.st.cell hrow
    have f_st := hC.st.free k
    have hst0 : C.sa k = 0 := by omega
    have hst1 := st1.2.2 hst0
    have hw2 : IntKind.i64.wrap (C.st k + 1) = C.st k + 1 := IntWalk.i64_in _ (by omega)
    have C2 := hC.setC k (C.st k + 1)
    have X2 := hX.other7 (i := k) (Ne.symm hlt.2.2.1) (.int .i64 (C.st k + 1))
    have y2 : (w1.setCell ⟨c, k, none⟩ (.int .i64 (C.st k + 1))).cell? ⟨c, k, none⟩ = some (.int .i64 (C.st k + 1)) := by
      rw [C2.st.cell hrow]
      show some (Value.int _ (updI C.st k (C.st k + 1) k)) = _
      rw [upd_at]
    have x2c : (w1.setCell ⟨c, k, none⟩ (.int .i64 (C.st k + 1))).cell? ⟨x0, 2, none⟩ = some (.slice (some ⟨c, 0, none⟩) n (K c)) := X2.cell 2
    by_cases e4 : C.st k + 1 = s
    · have HA : Hid (act7 s t k C = { C with st := updI C.st k s, sa := updI C.sa k t, ai := updI C.ai k (-1) }) := by show _ = _; unfold act7; rw [if_neg e1, if_neg e2, if_pos e3, if_pos e4, hkt, e4]
      rw [HA.out]
      rw [e4] at C2 X2 y2 x2c
      have C3 := C2.setE k t
      have C4 := Lib.hid (C3.setA k (-1))
      have X3 := X2.other7 (i := k) (Ne.symm hlt.2.2.2.2.1) (.int .i64 t)
      have K4 : Hid (Kept7 a b c d e f w (((w1.setCell ⟨c, k, none⟩ (.int .i64 s)).setCell ⟨e, k, none⟩ (.int .i64 t)).setCell ⟨a, k, none⟩ (.int .i64 (-1)))) := by show Kept7 _ _ _ _ _ _ _ _; intro g T xs hn h; exact (((kp g T xs hn h).other7 (Ne.symm hn.2.2.1) _).other7 (Ne.symm hn.2.2.2.2.1) _).other7 (Ne.symm hn.1) _
      have B4 : Hid (Below B w (((w1.setCell ⟨c, k, none⟩ (.int .i64 s)).setCell ⟨e, k, none⟩ (.int .i64 t)).setCell ⟨a, k, none⟩ (.int .i64 (-1)))) := ((hb1.setCell (p := ⟨c, k, none⟩) hB.2.2.1 _).setCell (p := ⟨e, k, none⟩) hB.2.2.2.2.1 _).setCell (p := ⟨a, k, none⟩) hB.1 _
      have fe := C2.sa.free k
      have fa := C3.ai.free k
      have ye := C2.sa.cell hrow
      have ya := C3.ai.cell hrow
      have x2e : (w1.setCell ⟨c, k, none⟩ (.int .i64 s)).cell? ⟨x0, 4, none⟩ = some (.slice (some ⟨e, 0, none⟩) n (K e)) := X2.cell 4
      have x3a : ((w1.setCell ⟨c, k, none⟩ (.int .i64 s)).setCell ⟨e, k, none⟩ (.int .i64 t)).cell? ⟨x0, 0, none⟩ = some (.slice (some ⟨a, 0, none⟩) n (K a)) := X3.cell 0
      rw [hk] at y_at
      clear kp hW hB hI hX hC hb1 hlt hw1 hx0 HA C2 C3 X2 X3 e2 e3 hk hkt
      go_enter Try.func47, Try.ntmps47
      go_upto_region 1 with fail
      rw [HX0.out, HW1.out]
      go_wp2_with fail
      exact bodyPost_end (results_none rfl _ _ _) rfl ⟨rfl, C4.out, B4.out, K4.out⟩
    · have HA : Hid (act7 s t k C = { C with st := updI C.st k (C.st k + 1) }) := by show _ = _; unfold act7; rw [if_neg e1, if_neg e2, if_pos e3, if_neg e4]
      rw [HA.out]
      have K4 : Hid (Kept7 a b c d e f w (w1.setCell ⟨c, k, none⟩ (.int .i64 (C.st k + 1)))) := by show Kept7 _ _ _ _ _ _ _ _; intro g T xs hn h; exact (kp g T xs hn h).other7 (Ne.symm hn.2.2.1) _
      have B4 : Hid (Below B w (w1.setCell ⟨c, k, none⟩ (.int .i64 (C.st k + 1)))) := hb1.setCell (p := ⟨c, k, none⟩) hB.2.2.1 _
      have C4 := Lib.hid C2
      rw [hk] at y_at
      clear kp hW hB hI hX hC hb1 hlt hw1 hx0 HA C2 X2 e2 e3 hk hkt
      go_enter Try.func47, Try.ntmps47
      go_upto_region 1 with fail
      rw [HX0.out, HW1.out]
      go_wp2_with fail
      exact bodyPost_end (results_none rfl _ _ _) rfl ⟨rfl, C4.out, B4.out, K4.out⟩
  have hkr2 : k < row := by omega
  have hkn : ¬ (k : Int) = (row : Int) := by omega
  have hk1 : (k : Int) + 1 < (n : Int) := by omega
  have y_a1 := hC.ai.cell (j := k + 1) (by omega)
  have hkp : (0 : Int) ≤ (k : Int) + 1 := by omega
  have hkp2 : (0 : Int) ≤ (k : Int) := by omega
  have hkn2 : (k : Int) < (n : Int) := by omega
  by_cases e4 : C.ai (k + 1) < 0
  · have HA : Hid (act7 s t row C = { C with ai := updI (updI C.ai k (-1)) (k + 1) row, at_ := updI C.at_ row ((k : Int) + 1) }) := by show _ = _; unfold act7; rw [if_neg e1, if_neg e2, if_neg e3, hkt, if_pos e4, hk]
    rw [HA.out]
    have y_a := hC.ai.cell (j := k) (by omega)
    have f_a := hC.ai.free k
    have C2 := hC.setA k (-1)
    have C3 := C2.setA (k + 1) (row : Int)
    have C4 := Lib.hid (C3.setB row ((k : Int) + 1))
    have X2 := hX.other7 (i := k) (Ne.symm hlt.1) (.int .i64 (-1))
    have X3 := X2.other7 (i := k + 1) (Ne.symm hlt.1) (.int .i64 (row : Int))
    have K4 : Hid (Kept7 a b c d e f w (((w1.setCell ⟨a, k, none⟩ (.int .i64 (-1))).setCell ⟨a, k + 1, none⟩ (.int .i64 (row : Int))).setCell ⟨b, row, none⟩ (.int .i64 ((k : Int) + 1)))) := by show Kept7 _ _ _ _ _ _ _ _; intro g T xs hn h; exact (((kp g T xs hn h).other7 (Ne.symm hn.1) _).other7 (Ne.symm hn.1) _).other7 (Ne.symm hn.2.1) _
    have B4 : Hid (Below B w (((w1.setCell ⟨a, k, none⟩ (.int .i64 (-1))).setCell ⟨a, k + 1, none⟩ (.int .i64 (row : Int))).setCell ⟨b, row, none⟩ (.int .i64 ((k : Int) + 1)))) := ((hb1.setCell (p := ⟨a, k, none⟩) hB.1 _).setCell (p := ⟨a, k + 1, none⟩) hB.1 _).setCell (p := ⟨b, row, none⟩) hB.2.1 _
    have f2 := C2.ai.free (k + 1)
    have y2 : (w1.setCell ⟨a, k, none⟩ (.int .i64 (-1))).cell? ⟨a, k + 1, none⟩ = some (.int .i64 (C.ai (k + 1))) := by
      rw [C2.ai.cell (j := k + 1) (by omega)]
      show some (Value.int _ (updI C.ai k (-1) (k + 1))) = _
      rw [upd_ne (by omega)]
    have f3 := C3.at_.free row
    have y3 := C3.at_.cell hrow
    have x2a : (w1.setCell ⟨a, k, none⟩ (.int .i64 (-1))).cell? ⟨x0, 0, none⟩ = some (.slice (some ⟨a, 0, none⟩) n (K a)) := X2.cell 0
    have x3b : ((w1.setCell ⟨a, k, none⟩ (.int .i64 (-1))).setCell ⟨a, k + 1, none⟩ (.int .i64 (row : Int))).cell? ⟨x0, 1, none⟩ = some (.slice (some ⟨b, 0, none⟩) n (K b)) := X3.cell 1
    rw [hk] at y_at
    clear kp hW hB hI hX hC hb1 hlt hw1 hx0 HA C2 C3 X2 X3 e2 e3 hk hkt
    go_enter Try.func47, Try.ntmps47
    go_upto_region 1 with fail
    rw [HX0.out, HW1.out]
    go_wp2_with fail
    exact bodyPost_end (results_none rfl _ _ _) rfl ⟨rfl, C4.out, B4.out, K4.out⟩
  · have HA : Hid (act7 s t row C = { C with wa := updI C.wa row (C.wa row + 1) }) := by show _ = _; unfold act7; rw [if_neg e1, if_neg e2, if_neg e3, hkt, if_neg e4]
    rw [HA.out]
    have y_w := hC.wa.cell hrow
    have f_w := hC.wa.free row
    have hw2 : IntKind.i64.wrap (C.wa row + 1) = C.wa row + 1 := IntWalk.i64_in _ (by omega)
    have C4 := Lib.hid (hC.setF row (C.wa row + 1))
    have K4 : Hid (Kept7 a b c d e f w (w1.setCell ⟨f, row, none⟩ (.int .i64 (C.wa row + 1)))) := by show Kept7 _ _ _ _ _ _ _ _; intro g T xs hn h; exact (kp g T xs hn h).other7 (Ne.symm hn.2.2.2.2.2) _
    have B4 : Hid (Below B w (w1.setCell ⟨f, row, none⟩ (.int .i64 (C.wa row + 1)))) := hb1.setCell (p := ⟨f, row, none⟩) hB.2.2.2.2.2 _
    rw [hk] at y_at
    clear kp hW hB hI hX hC hb1 hlt hw1 hx0 HA e2 e3 hk hkt
    go_enter Try.func47, Try.ntmps47
    go_upto_region 1 with fail
    rw [HX0.out, HW1.out]
    go_wp2_with fail
    exact bodyPost_end (results_none rfl _ _ _) rfl ⟨rfl, C4.out, B4.out, K4.out⟩
end Go.Proofs.Ytohnjdlhgcemjaa
