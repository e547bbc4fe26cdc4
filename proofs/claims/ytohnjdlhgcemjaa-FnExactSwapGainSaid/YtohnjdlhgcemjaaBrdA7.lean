/- Chapter 7, impl side: a boarding's stow, step, act. -/
import Derived.Test.YtohnjdlhgcemjaaBrdS7
import Derived.StillTailTactics
namespace Go.Proofs.Ytohnjdlhgcemjaa
open Go.RowKit

/-- what a call leaves of a boarding -/
def Did7 (lo n g tb ab kt ka : Nat) (T : Nat → Nat) (l : List Nat) (s u : Int) (w : World) (C : Cab) : Ending → World → Prop := fun E w' => E = .returned (.tuple #[]) ∧ Brd w' n g tb ab kt ka T l s u C ∧ Below lo w w'
def stow7 (s u : Int) (row : Nat) (C : Cab) : Cab := if C.st row + 1 = s then { C with st := updI C.st row (C.st row + 1), sa := updI C.sa row u, ai := updI C.ai row (-1) } else { C with st := updI C.st row (C.st row + 1) }
theorem below_drewN7 {lo : Nat} {w w' : World} (h : Below lo w w') (q : Nat) : Below lo w (w'.drewN q) := h.trans ⟨rfl, rfl, rfl, Nat.le_refl _, fun _ _ => rfl⟩

set_option maxRecDepth 4000 in
set_option maxHeartbeats 4000000 in
theorem stow_any (lo n g tb ab kt ka : Nat) (T : Nat → Nat) (l : List Nat) (s u : Int) (C : Cab) (w : World) (hB : Brd w n g tb ab kt ka T l s u C) (hF : from7 lo n g tb ab T) (row : Nat) (hr : row < n) (hat : C.at_ row = row) (hst : 0 ≤ C.st row ∧ C.st row ≤ 1000) :
    Calls Try.prog 60 #[.pointer (some ⟨g, 0, none⟩), .pointer (some ⟨T row, 0, none⟩)] w (Did7 lo n g tb ab kt ka T l s u w (stow7 s u row C)) := by
  obtain ⟨⟨c0, c1, c2, c3⟩, c4, c5, c6⟩ := hB.tv.cells hr
  have f1 := hB.tv.free hr 1
  have hw : IntKind.i64.wrap (C.st row + 1) = C.st row + 1 := IntWalk.i64_in _ (by omega)
  have hB1 := hB.setSt hr (C.st row + 1)
  have hS := isSeated_raw n T s _ _ hB1.tv row hr
  have hE : Hid (decide (({ C with st := updI C.st row (C.st row + 1) } : Cab).at_ row = row ∧ ({ C with st := updI C.st row (C.st row + 1) } : Cab).st row = s) = decide (C.st row + 1 = s)) := by
    show _ = _
    show decide (C.at_ row = row ∧ updI C.st row (C.st row + 1) row = s) = _
    rw [upd_at]
    simp [hat]
  rw [hE.out] at hS
  have hb1 : Below lo w (w.setCell ⟨T row, 1, none⟩ (.int .i64 (C.st row + 1))) := (Below.refl _ _).setCell (p := ⟨T row, 1, none⟩) (hF.tr row hr) _
  unfold Did7 stow7
  obtain ⟨y, hy⟩ : ∃ y, C.st row = y := ⟨_, rfl⟩
  rw [hy] at c1 hw hB1 hS hb1 ⊢
  rw [hat] at c0
  by_cases he : y + 1 = s
  · rw [if_pos he, he]
    rw [he] at hw hB1 hS hb1
    rw [decide_eq_true rfl] at hS
    have FR := Lib.hid hF
    have HB1 := Lib.hid hB1
    have HB := Lib.hid hb1
    have HS := Lib.hid hS
    have hr0 : (0 : Int) ≤ (row : Int) := by omega
    have hr1 : (row : Int) < (n : Int) := by omega
    have HR := Lib.hid hr
    have HAT := Lib.hid hat
    clear hB hF hat hst hB1 hS hE hb1 hy
    go_enter Try.func60, Try.ntmps60
    go_wp2_with fail
    refine HS.out.mono ?_
    rintro e w1 ⟨rfl, q, rfl⟩
    have hB2 := HB1.out.drewN q
    have hBL := below_drewN7 HB.out q
    obtain ⟨wq, hwq⟩ : ∃ wq, (w.setCell ⟨T row, 1, none⟩ (.int .i64 s)).drewN q = wq := ⟨_, rfl⟩
    rw [hwq] at hB2 hBL ⊢
    obtain ⟨⟨z0, -, -, -⟩, -⟩ := hB2.tv.cells HR.out
    replace z0 : wq.cell? ⟨T row, 0, none⟩ = some (.int .i64 (row : Nat)) := by rw [z0, HAT.out]
    obtain ⟨-, g1, -⟩ := hB2.cells
    have hB3 := (hB2.setAi row (-1) (v := .pointer none) rfl).drew
    have hB4 := Lib.hid ((hB2.setAi row (-1) (v := .pointer none) rfl).setSa HR.out u).drew
    have HBL4 := Lib.hid ((hBL.setCell (p := ⟨ab, row, none⟩) FR.out.ab (.pointer none)).setCell (p := ⟨T row, 5, none⟩) (FR.out.tr row HR.out) (.int .i64 u)).drew
    have fa := hB2.drew.ai.free row
    have ya := hB2.drew.ai.cell HR.out
    have fs := hB3.tv.free HR.out 5
    obtain ⟨-, -, g2⟩ := hB3.cells
    obtain ⟨-, -, z5, -⟩ := hB3.tv.cells HR.out
    clear hB2 hBL hB3 HB1 HB HS FR HAT
    go_wp2_with fail
    go_still_tail 10, (by kernel_rfl)
    change wpList _ _ _ _ _ wq.drew
    go_wp2_with fail
    exact bodyPost_end (results_none rfl _ _ _) rfl ⟨rfl, hB4.out, HBL4.out⟩
  · rw [if_neg he]
    rw [decide_eq_false he] at hS
    have HB1 := Lib.hid hB1
    have HB := Lib.hid hb1
    have HS := Lib.hid hS
    clear hB hF hst hB1 hS hE hb1 hy
    go_enter Try.func60, Try.ntmps60
    go_wp2_with fail
    refine HS.out.mono ?_
    rintro e w1 ⟨rfl, q, rfl⟩
    go_wp2_with fail
    exact bodyPost_end (results_none rfl _ _ _) rfl ⟨rfl, HB1.out.drewN q, below_drewN7 HB.out q⟩

def step7 (u : Int) (row : Nat) (C : Cab) : Cab := if C.at_ row < 0 then { C with ai := updI C.ai 0 row, at_ := updI C.at_ row 0, en := updI C.en row u } else { C with ai := updI (updI C.ai (C.at_ row).toNat (-1)) ((C.at_ row).toNat + 1) row, at_ := updI C.at_ row (C.at_ row + 1) }

set_option maxRecDepth 4000 in
set_option maxHeartbeats 4000000 in
theorem step_any (lo n g tb ab kt ka : Nat) (T : Nat → Nat) (l : List Nat) (s u : Int) (C : Cab) (w : World) (hB : Brd w n g tb ab kt ka T l s u C) (hF : from7 lo n g tb ab T) (row : Nat) (hr : row < n) (hn : n ≤ 10) (h1 : -1 ≤ C.at_ row) (h2 : C.at_ row < row) :
    Calls Try.prog 61 #[.pointer (some ⟨g, 0, none⟩), .pointer (some ⟨T row, 0, none⟩)] w (Did7 lo n g tb ab kt ka T l s u w (step7 u row C)) := by
  obtain ⟨⟨c0, c1, c2, c3⟩, c4, c5, c6⟩ := hB.tv.cells hr
  obtain ⟨-, -, g2⟩ := hB.cells
  unfold Did7 step7
  by_cases he : C.at_ row < 0
  · rw [if_pos he]
    have hat : C.at_ row = -1 := by omega
    rw [hat] at c0
    have f4 := hB.tv.free hr 4
    have hB1 := hB.setEn hr u
    have hb1 : Below lo w (w.setCell ⟨T row, 4, none⟩ (.int .i64 u)) := (Below.refl _ _).setCell (p := ⟨T row, 4, none⟩) (hF.tr row hr) _
    have z0 : (w.setCell ⟨T row, 4, none⟩ (.int .i64 u)).cell? ⟨T row, 0, none⟩ = some (.int .i64 (-1)) := by rw [(hB1.tv.cells hr).1.1]; show some (Value.int _ (C.at_ row)) = _; rw [hat]
    have f0 := hB1.tv.free hr 0
    have hB2 := hB1.setAt hr 0
    have hb2 : Below lo w ((w.setCell ⟨T row, 4, none⟩ (.int .i64 u)).setCell ⟨T row, 0, none⟩ (.int .i64 0)) := hb1.setCell (p := ⟨T row, 0, none⟩) (hF.tr row hr) _
    have y0 : ((w.setCell ⟨T row, 4, none⟩ (.int .i64 u)).setCell ⟨T row, 0, none⟩ (.int .i64 0)).cell? ⟨T row, 0, none⟩ = some (.int .i64 0) := by rw [(hB2.tv.cells hr).1.1]; show some (Value.int _ (updI C.at_ row 0 row)) = _; rw [upd_at]
    obtain ⟨-, g1, -⟩ := hB2.cells
    have hn0 : 0 < n := by omega
    have hn1 : (0 : Int) < (n : Int) := by omega
    have fa := hB2.drew.ai.free 0
    have ya := hB2.drew.ai.cell hn0
    have HB3 := Lib.hid ((hB2.setAi 0 (row : Int) (v := .pointer (some ⟨T row, 0, none⟩)) rfl).drew)
    have HBL := Lib.hid ((hb2.setCell (p := ⟨ab, 0, none⟩) hF.ab (.pointer (some ⟨T row, 0, none⟩))).drew)
    obtain ⟨wq, hwq⟩ : ∃ wq, (w.setCell ⟨T row, 4, none⟩ (.int .i64 u)).setCell ⟨T row, 0, none⟩ (.int .i64 0) = wq := ⟨_, rfl⟩
    rw [hwq] at y0 g1 fa ya
    replace hwq := Lib.hid hwq
    clear hB hF hB1 hB2 hb1 hb2 h1 h2 hat
    go_enter Try.func61, Try.ntmps61
    go_wp2_with fail
    rw [hwq.out]
    go_still_tail 11, (by kernel_rfl)
    change wpList _ _ _ _ _ wq.drew
    go_wp2_with fail
    rw [← hwq.out]
    exact bodyPost_end (results_none rfl _ _ _) rfl ⟨rfl, HB3.out, HBL.out⟩
  · rw [if_neg he]
    obtain ⟨k, hk⟩ : ∃ k : Nat, C.at_ row = k := ⟨(C.at_ row).toNat, by omega⟩
    have hkt : (C.at_ row).toNat = k := by omega
    rw [hkt]
    rw [hk] at c0 h2 ⊢
    have hkn : k < n := by omega
    have hk0 : (0 : Int) ≤ (k : Int) := by omega
    have hk1 : (k : Int) < (n : Int) := by omega
    have hk2 : (k : Int) + 1 < (n : Int) := by omega
    have hk3 : (0 : Int) ≤ (k : Int) + 1 := by omega
    have hkm : ¬ (k : Int) = -1 := by omega
    have hw : IntKind.i64.wrap ((k : Int) + 1) = (k : Int) + 1 := IntWalk.i64_in _ (by omega)
    obtain ⟨-, g1, -⟩ := hB.cells
    have fa := hB.drew.ai.free k
    have ya := hB.drew.ai.cell hkn
    have hB1 := (hB.setAi k (-1) (v := .pointer none) rfl).drew
    have hb1 : Below lo w (w.setCell ⟨ab, k, none⟩ (.pointer none)).drew := ((Below.refl _ _).setCell (p := ⟨ab, k, none⟩) hF.ab _).drew
    have z0 : (w.setCell ⟨ab, k, none⟩ (.pointer none)).drew.cell? ⟨T row, 0, none⟩ = some (.int .i64 (k : Int)) := by rw [(hB1.tv.cells hr).1.1]; show some (Value.int _ (C.at_ row)) = _; rw [hk]
    have f0 := hB1.tv.free hr 0
    have hB2 := ((hB.setAi k (-1) (v := .pointer none) rfl).setAt hr ((k : Int) + 1)).drew
    have hb2 : Below lo w ((w.setCell ⟨ab, k, none⟩ (.pointer none)).setCell ⟨T row, 0, none⟩ (.int .i64 ((k : Int) + 1))).drew := (((Below.refl _ _).setCell (p := ⟨ab, k, none⟩) hF.ab _).setCell (p := ⟨T row, 0, none⟩) (hF.tr row hr) _).drew
    have y0 : ((w.setCell ⟨ab, k, none⟩ (.pointer none)).setCell ⟨T row, 0, none⟩ (.int .i64 ((k : Int) + 1))).drew.cell? ⟨T row, 0, none⟩ = some (.int .i64 ((k : Int) + 1)) := by rw [(hB2.tv.cells hr).1.1]; show some (Value.int _ (updI C.at_ row ((k : Int) + 1) row)) = _; rw [upd_at]
    obtain ⟨-, g1b, -⟩ := hB2.cells
    obtain ⟨W, hW⟩ : ∃ W, ((w.setCell ⟨ab, k, none⟩ (.pointer none)).setCell ⟨T row, 0, none⟩ (.int .i64 ((k : Int) + 1))) = W := ⟨_, rfl⟩
    have fb : ((w.setCell ⟨ab, k, none⟩ (.pointer none)).setCell ⟨T row, 0, none⟩ (.int .i64 ((k : Int) + 1))).drew.drew.frozen? ⟨ab, k + 1, none⟩ = false := hB2.drew.ai.free (k + 1)
    have yb := hB2.drew.ai.cell (j := k + 1) (by omega)
    have HB3 := Lib.hid ((((hB.setAi k (-1) (v := .pointer none) rfl).setAt hr ((k : Int) + 1)).setAi (k + 1) (row : Int) (v := .pointer (some ⟨T row, 0, none⟩)) rfl).drew.drew)
    have HBL := Lib.hid (((((Below.refl lo w).setCell (p := ⟨ab, k, none⟩) hF.ab (.pointer none)).setCell (p := ⟨T row, 0, none⟩) (hF.tr row hr) (.int .i64 ((k : Int) + 1))).setCell (p := ⟨ab, k + 1, none⟩) hF.ab (.pointer (some ⟨T row, 0, none⟩))).drew.drew)
    obtain ⟨wq, hwq⟩ : ∃ wq, ((w.setCell ⟨ab, k, none⟩ (.pointer none)).setCell ⟨T row, 0, none⟩ (.int .i64 ((k : Int) + 1))).drew = wq := ⟨_, rfl⟩
    rw [hwq] at y0 g1b fb yb
    replace hwq := Lib.hid hwq
    clear hB hF hB1 hB2 hb1 hb2 h1 h2 hk hkt he hW W
    go_enter Try.func61, Try.ntmps61
    go_wp2_with fail
    go_still_tail 10, (by kernel_rfl)
    change wpList _ _ _ _ _ w.drew
    go_wp2_with fail
    rw [hwq.out]
    go_still_tail 11, (by kernel_rfl)
    change wpList _ _ _ _ _ wq.drew
    go_wp2_with fail
    rw [← hwq.out]
    exact bodyPost_end (results_none rfl _ _ _) rfl ⟨rfl, HB3.out, HBL.out⟩
end Go.Proofs.Ytohnjdlhgcemjaa
