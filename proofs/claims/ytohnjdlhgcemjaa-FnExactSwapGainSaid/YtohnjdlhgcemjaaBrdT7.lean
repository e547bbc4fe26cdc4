/- Chapter 7, impl side: a boarding's act. -/
import Derived.Test.YtohnjdlhgcemjaaBrdA7
namespace Go.Proofs.Ytohnjdlhgcemjaa
open Go.RowKit

theorem act_is_stow {s t : Int} {row : Nat} {C : Cab} (h1 : ¬ 0 < C.sa row) (h2 : C.at_ row = row) : act7 s t row C = stow7 s t row C := by
  unfold act7 stow7
  rw [if_neg h1, if_neg (by omega), if_pos h2, show (C.at_ row).toNat = row by omega]
theorem act_is_step {s t : Int} {row : Nat} {C : Cab} (h1 : ¬ 0 < C.sa row) (h2 : -1 ≤ C.at_ row) (h3 : C.at_ row < row) (h4 : C.ai (C.at_ row + 1).toNat < 0) : act7 s t row C = step7 t row C := by
  unfold act7 step7
  rw [if_neg h1]
  by_cases e : C.at_ row < 0
  · rw [if_pos e, if_pos e, if_pos]
    rwa [show (C.at_ row + 1).toNat = 0 by omega] at h4
  · rw [if_neg e, if_neg e, if_neg (by omega), if_pos]
    rwa [show (C.at_ row + 1).toNat = (C.at_ row).toNat + 1 by omega] at h4
theorem act_is_wait {s t : Int} {row : Nat} {C : Cab} (h1 : ¬ 0 < C.sa row) (h2 : -1 ≤ C.at_ row) (h3 : C.at_ row < row) (h4 : ¬ C.ai (C.at_ row + 1).toNat < 0) : act7 s t row C = if C.at_ row = -1 then C else { C with wa := updI C.wa row (C.wa row + 1) } := by
  unfold act7
  rw [if_neg h1]
  by_cases e : C.at_ row < 0
  · rw [if_pos e, if_neg, if_pos (by omega)]
    rwa [show (C.at_ row + 1).toNat = 0 by omega] at h4
  · rw [if_neg e, if_neg (by omega), if_neg, if_neg (by omega)]
    rwa [show (C.at_ row + 1).toNat = (C.at_ row).toNat + 1 by omega] at h4

set_option maxRecDepth 4000 in
set_option maxHeartbeats 4000000 in
theorem act_any (lo n g tb ab kt ka : Nat) (T : Nat → Nat) (l : List Nat) (s u : Int) (C : Cab) (w : World) (hB : Brd w n g tb ab kt ka T l s u C) (hF : from7 lo n g tb ab T) (row : Nat) (hr : row < n) (hn : n ≤ 10) (hi : Inv7 n s C) (hf : fin7 n s C) (hs : s ≤ 5) (hwa : 0 ≤ C.wa row ∧ C.wa row ≤ 100000) :
    Calls Try.prog 52 #[.pointer (some ⟨g, 0, none⟩), .pointer (some ⟨T row, 0, none⟩)] w (Did7 lo n g tb ab kt ka T l s u w (act7 s u row C)) := by
  have S := isSeated_any n T s C w hB.tv hi hf row hr
  have at1 := hi.at1 row hr
  have st1 := hi.st1 row hr
  by_cases e1 : 0 < C.sa row
  · rw [act_sits e1]
    rw [decide_eq_true e1] at S
    unfold Did7
    replace S := Lib.hid S
    have HB := Lib.hid hB
    clear hB hF hi hf hs hwa at1 st1 e1
    go_enter Try.func52, Try.ntmps52
    go_wp2_with fail
    refine S.out.mono ?_
    rintro e w1 ⟨rfl, q, rfl⟩
    go_wp2_with fail
    exact bodyPost_end (results_none rfl _ _ _) rfl ⟨rfl, HB.out.drewN q, below_drewN7 (Below.refl _ _) q⟩
  have hz : C.sa row = 0 := by have := hi.sa1 row hr; omega
  rw [decide_eq_false e1] at S
  replace S := Lib.hid S
  have ROW := Lib.hid (fun (w' : World) (m : Nat) (h : Brd w' n g tb ab kt ka T l s u C) => row_any n T s C (w'.drewN m) (fun r hr => (h.tv r hr).drewN m) row hr)
  have HBQ := Lib.hid (fun (q : Nat) => hB.drewN q)
  have FR := Lib.hid hF
  have HR := Lib.hid hr
  by_cases e2 : C.at_ row = row
  · rw [act_is_stow e1 e2]
    have ST := Lib.hid (fun (w' : World) (m : Nat) (h : Brd w' n g tb ab kt ka T l s u C) => stow_any lo n g tb ab kt ka T l s u C (w'.drewN m) (h.drewN m) hF row hr e2 (by omega))
    have HE := Lib.hid e2
    unfold Did7 at ST ⊢
    clear hB hF hi hf hs hwa at1 st1 e1 e2 hz
    go_enter Try.func52, Try.ntmps52
    go_wp2_with fail
    refine S.out.mono ?_
    rintro e w1 ⟨rfl, q, hq⟩
    have HB1 := Lib.hid (show Brd w1 n g tb ab kt ka T l s u C by rw [hq]; exact HBQ.out q)
    have HL1 := Lib.hid (show Below lo w w1 by rw [hq]; exact below_drewN7 (Below.refl _ _) q)
    clear hq HBQ S
    obtain ⟨⟨c0, -, -, -⟩, -⟩ := HB1.out.tv.cells HR.out
    rw [HE.out] at c0
    go_wp2_with fail
    go_quiet ((go_at_call 36; exact quiet_same (ROW.out w1 _ HB1.out)))
    go_wp2_with fail
    refine (ST.out w1 _ HB1.out).mono ?_
    rintro e w2 ⟨rfl, hB2, hL2⟩
    have HL2 := Lib.hid ((below_drewN7 HL1.out _).trans hL2)
    clear hL2
    go_wp2_with fail
    exact bodyPost_end (results_none rfl _ _ _) rfl ⟨rfl, hB2, HL2.out⟩
  have e3 : C.at_ row < row := by omega
  obtain ⟨k, hk⟩ : ∃ k : Nat, C.at_ row = (k : Int) - 1 := ⟨(C.at_ row + 1).toNat, by omega⟩
  have hkt : (C.at_ row + 1).toNat = k := by omega
  have hkn : k < n := by omega
  have hki : ¬ (k : Int) - 1 = (row : Int) := by omega
  have hk0 : (0 : Int) ≤ (k : Int) := by omega
  have hk1 : (k : Int) < (n : Int) := by omega
  have hkp : (k : Int) - 1 + 1 = (k : Int) := by omega
  have hkw : IntKind.i64.wrap (k : Int) = (k : Int) := IntWalk.i64_in _ (by omega)
  have HK := Lib.hid hk
  have HKN := Lib.hid hkn
  by_cases e4 : C.ai k < 0
  · rw [act_is_step e1 at1.1 e3 (by rw [hkt]; exact e4)]
    have ST := Lib.hid (fun (w' : World) (m : Nat) (h : Brd w' n g tb ab kt ka T l s u C) => step_any lo n g tb ab kt ka T l s u C (w'.drewN m) (h.drewN m) hF row hr hn at1.1 e3)
    have HN := Lib.hid (ptrT_neg T e4)
    unfold Did7 at ST ⊢
    clear hB hF hi hf hs hwa at1 st1 e1 e2 e3 e4 hz hk hkt
    go_enter Try.func52, Try.ntmps52
    go_wp2_with fail
    refine S.out.mono ?_
    rintro e w1 ⟨rfl, q, hq⟩
    have HB1 := Lib.hid (show Brd w1 n g tb ab kt ka T l s u C by rw [hq]; exact HBQ.out q)
    have HL1 := Lib.hid (show Below lo w w1 by rw [hq]; exact below_drewN7 (Below.refl _ _) q)
    clear hq HBQ S
    obtain ⟨⟨c0, -, -, -⟩, -⟩ := HB1.out.tv.cells HR.out
    rw [HK.out] at c0
    go_wp2_with fail
    go_quiet ((go_at_call 36; exact quiet_same (ROW.out w1 _ HB1.out)))
    rename_i nq
    have HB2 := Lib.hid (HB1.out.drewN nq)
    have HL2 := Lib.hid (below_drewN7 HL1.out nq)
    obtain ⟨w2, hw2⟩ : ∃ w2, w1.drewN nq = w2 := ⟨_, rfl⟩
    rw [hw2] at HB2 HL2 ⊢
    clear hw2 HB1 HL1 c0 ROW
    obtain ⟨⟨c0, -, -, -⟩, -⟩ := HB2.out.tv.cells HR.out
    rw [HK.out] at c0
    obtain ⟨-, g1, -⟩ := HB2.out.cells
    have y := HB2.out.ai.cell HKN.out
    rw [HN.out] at y
    go_wp2_with fail
    go_quiet (fail)
    go_wp2_with fail
    refine (ST.out w2 _ HB2.out).mono ?_
    rintro e w3 ⟨rfl, hB3, hL3⟩
    have HL3 := Lib.hid ((below_drewN7 HL2.out _).trans hL3)
    clear hL3
    go_wp2_with fail
    exact bodyPost_end (results_none rfl _ _ _) rfl ⟨rfl, hB3, HL3.out⟩
  · rw [act_is_wait e1 at1.1 e3 (by rw [hkt]; exact e4)]
    have HN := Lib.hid (ptrT_pos T (x := C.ai k) (by omega))
    have hw : IntKind.i64.wrap (C.wa row + 1) = C.wa row + 1 := IntWalk.i64_in _ (by omega)
    unfold Did7
    by_cases e5 : k = 0
    · rw [if_pos (by omega)]
      subst e5
      clear hB hF hi hf hs hwa at1 st1 e1 e2 e3 e4 hz hk hkt
      go_enter Try.func52, Try.ntmps52
      go_wp2_with fail
      refine S.out.mono ?_
      rintro e w1 ⟨rfl, q, hq⟩
      have HB1 := Lib.hid (show Brd w1 n g tb ab kt ka T l s u C by rw [hq]; exact HBQ.out q)
      have HL1 := Lib.hid (show Below lo w w1 by rw [hq]; exact below_drewN7 (Below.refl _ _) q)
      clear hq HBQ S
      obtain ⟨⟨c0, -, -, -⟩, -⟩ := HB1.out.tv.cells HR.out
      rw [HK.out] at c0
      go_wp2_with fail
      go_quiet ((go_at_call 36; exact quiet_same (ROW.out w1 _ HB1.out)))
      rename_i nq
      have HB2 := Lib.hid (HB1.out.drewN nq)
      have HL2 := Lib.hid (below_drewN7 HL1.out nq)
      obtain ⟨w2, hw2⟩ : ∃ w2, w1.drewN nq = w2 := ⟨_, rfl⟩
      rw [hw2] at HB2 HL2 ⊢
      clear hw2 HB1 HL1 c0 ROW
      obtain ⟨⟨c0, -, -, -⟩, -⟩ := HB2.out.tv.cells HR.out
      rw [HK.out] at c0
      obtain ⟨-, g1, -⟩ := HB2.out.cells
      have y := HB2.out.ai.cell HKN.out
      rw [HN.out] at y
      go_wp2_with fail
      go_quiet (fail)
      have HB3 := Lib.hid (HB2.out.drewN nq)
      have HL3 := Lib.hid (below_drewN7 HL2.out nq)
      obtain ⟨w3, hw3⟩ : ∃ w3, w2.drewN nq = w3 := ⟨_, rfl⟩
      rw [hw3] at HB3 HL3 ⊢
      clear hw3 HB2 HL2 c0 g1 y
      obtain ⟨⟨c0, -, -, -⟩, -⟩ := HB3.out.tv.cells HR.out
      rw [HK.out] at c0
      go_wp2_with fail
      exact bodyPost_end (results_none rfl _ _ _) rfl ⟨rfl, HB3.out, HL3.out⟩
    · rw [if_neg (by omega)]
      have e6 : ¬ (k : Int) - 1 = -1 := by omega
      clear hB hF hi hf hs hwa at1 st1 e1 e2 e3 e4 hz hk hkt
      go_enter Try.func52, Try.ntmps52
      go_wp2_with fail
      refine S.out.mono ?_
      rintro e w1 ⟨rfl, q, hq⟩
      have HB1 := Lib.hid (show Brd w1 n g tb ab kt ka T l s u C by rw [hq]; exact HBQ.out q)
      have HL1 := Lib.hid (show Below lo w w1 by rw [hq]; exact below_drewN7 (Below.refl _ _) q)
      clear hq HBQ S
      obtain ⟨⟨c0, -, -, -⟩, -⟩ := HB1.out.tv.cells HR.out
      rw [HK.out] at c0
      go_wp2_with fail
      go_quiet ((go_at_call 36; exact quiet_same (ROW.out w1 _ HB1.out)))
      rename_i nq
      have HB2 := Lib.hid (HB1.out.drewN nq)
      have HL2 := Lib.hid (below_drewN7 HL1.out nq)
      obtain ⟨w2, hw2⟩ : ∃ w2, w1.drewN nq = w2 := ⟨_, rfl⟩
      rw [hw2] at HB2 HL2 ⊢
      clear hw2 HB1 HL1 c0 ROW
      obtain ⟨⟨c0, -, -, -⟩, -⟩ := HB2.out.tv.cells HR.out
      rw [HK.out] at c0
      obtain ⟨-, g1, -⟩ := HB2.out.cells
      have y := HB2.out.ai.cell HKN.out
      rw [HN.out] at y
      go_wp2_with fail
      go_quiet (fail)
      have HB3 := Lib.hid (HB2.out.drewN nq)
      have HL3 := Lib.hid (below_drewN7 HL2.out nq)
      obtain ⟨w3, hw3⟩ : ∃ w3, w2.drewN nq = w3 := ⟨_, rfl⟩
      rw [hw3] at HB3 HL3 ⊢
      clear hw3 HB2 HL2 c0 g1 y
      obtain ⟨⟨c0, -, -, -⟩, -, -, c6⟩ := HB3.out.tv.cells HR.out
      rw [HK.out] at c0
      have f6 := HB3.out.tv.free HR.out 6
      have HB4 := Lib.hid (HB3.out.setWa HR.out (C.wa row + 1))
      have HL4 := Lib.hid (HL3.out.setCell (p := ⟨T row, 6, none⟩) (FR.out.tr row HR.out) (.int .i64 (C.wa row + 1)))
      go_wp2_with fail
      exact bodyPost_end (results_none rfl _ _ _) rfl ⟨rfl, HB4.out, HL4.out⟩
end Go.Proofs.Ytohnjdlhgcemjaa
