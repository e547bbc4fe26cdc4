/- Chapter 7, impl side: the memory of a boarding. Plain lemmas. Chapter 7, impl side: a traveler's row, isSeated, isUp; impl.canBoard. Chapter 7, impl side: a boarding's stow, step, act. Chapter 7, impl side: a boarding's act. Chapter 7, impl side: impl.waitingOutside. -/
import Derived.Test.YtlhnejjciondeaaBrdN7
import Derived.Test.YtlhnejjciondeaaOwnArr
import Derived.Test.YtlhnejjciondeaaOut
import Derived.Test.YtlhnejjciondeaaPlnI7
import Derived.Test.YtlhnejjciondeaaAsk7
import Derived.BigQuiet
import Derived.IntWalk
import Derived.Laws.StructEq
import Derived.StillTailTactics
import Derived.Test.YtlhnejjciondeaaStc7
section
namespace Go.Proofs.Ytlhnejjciondeaa
open Go.RowKit

theorem OwnArr.far7 {w : World} {g : Nat} {e : TypeId} {xs : List Value} (h : OwnArr w g e xs) {b i : Nat} (hb : g ≠ b) (v : Value) : OwnArr (w.setCell ⟨b, i, none⟩ v) g e xs := by
  unfold OwnArr at *
  rw [Below.heap_setCell w ⟨b, i, none⟩ v g hb]; exact h
/-- who stands at a place: a traveler's address, or nil -/
def ptrT (T : Nat → Nat) : Int → Value
  | .ofNat r => .pointer (some ⟨T r, 0, none⟩)
  | .negSucc _ => .pointer none
theorem ptrT_neg (T : Nat → Nat) {x : Int} (h : x < 0) : ptrT T x = .pointer none := by
  cases x with
  | ofNat r => exact absurd h (by simp)
  | negSucc r => rfl
theorem ptrT_pos (T : Nat → Nat) {x : Int} (h : 0 ≤ x) : ptrT T x = .pointer (some ⟨T x.toNat, 0, none⟩) := by
  cases x with
  | ofNat r => rfl
  | negSucc r => exact absurd h (by simp)
/-- block b holds who stands at n places -/
def PA (w : World) (b n : Nat) (T : Nat → Nat) (F : Nat → Int) : Prop := ∃ vs, OwnArr w b 82 vs ∧ n ≤ vs.length ∧ ∀ j, j < n → vs[j]? = some (ptrT T (F j))
section
variable {w : World} {b n : Nat} {T : Nat → Nat} {F : Nat → Int}
theorem PA.lt (h : PA w b n T F) : b < w.heap.size := by obtain ⟨_, h, -⟩ := h; exact h.lt
theorem PA.cell (h : PA w b n T F) {j : Nat} (hj : j < n) : w.cell? ⟨b, j, none⟩ = some (ptrT T (F j)) := by
  obtain ⟨vs, h, -, hc⟩ := h
  rw [h.cell]; exact hc j hj
theorem PA.free (h : PA w b n T F) (j : Nat) : w.frozen? ⟨b, j, none⟩ = false := by obtain ⟨vs, h, -⟩ := h; exact h.free j
theorem PA.set (h : PA w b n T F) (i : Nat) (x : Int) {v : Value} (hv : v = ptrT T x) : PA (w.setCell ⟨b, i, none⟩ v) b n T (updI F i x) := by
  subst hv
  obtain ⟨vs, h, hl, hc⟩ := h
  refine ⟨_, h.set i _, by rw [List.length_set]; exact hl, fun j hj => ?_⟩
  rw [List.getElem?_set]
  by_cases e : i = j
  · subst e; rw [if_pos rfl, if_pos (by omega), upd_at]
  · rw [if_neg e, upd_ne (fun e' => e e'.symm)]; exact hc j hj
theorem PA.other (h : PA w b n T F) {k i : Nat} (hb : b ≠ k) (v : Value) : PA (w.setCell ⟨k, i, none⟩ v) b n T F := by
  obtain ⟨vs, h, r⟩ := h
  exact ⟨vs, h.far7 hb v, r⟩
theorem PA.alloc (h : PA w b n T F) (o : Obj) : PA (w.alloc o) b n T F := by
  obtain ⟨vs, h, r⟩ := h
  exact ⟨vs, h.alloc o, r⟩
theorem PA.below {w' : World} {B : Nat} (h : PA w b n T F) (hb : Below B w w') (hg : b < B) : PA w' b n T F := by
  obtain ⟨vs, h, r⟩ := h
  exact ⟨vs, h.below hb hg, r⟩
theorem PA.drew (h : PA w b n T F) : PA w.drew b n T F := h
end
abbrev boardL (tb ab n kt ka : Nat) (u : Int) : List Value := [.slice (some ⟨tb, 0, none⟩) n kt, .slice (some ⟨ab, 0, none⟩) n ka, .int .i64 u]
abbrev travL (s : Int) (C : Cab) (r : Nat) : List Value := [.int .i64 (C.at_ r), .int .i64 (C.st r), .int .i64 (r : Nat), .int .i64 s, .int .i64 (C.en r), .int .i64 (C.sa r), .int .i64 (C.wa r)]
/-- the travelers, by rows -/
def Trs (w : World) (n : Nat) (T : Nat → Nat) (s : Int) (C : Cab) : Prop := ∀ r, r < n → OwnArr w (T r) 88 (travL s C r)
structure dis7 (n g tb ab : Nat) (T : Nat → Nat) : Prop where
  gt : g ≠ tb
  ga : g ≠ ab
  ta : tb ≠ ab
  tr : ∀ r, r < n → T r ≠ g ∧ T r ≠ tb ∧ T r ≠ ab
  inj : ∀ r q, r < n → q < n → r ≠ q → T r ≠ T q
/-- a boarding: its block, those of its slices, those of the travelers -/
structure Brd (w : World) (n g tb ab kt ka : Nat) (T : Nat → Nat) (l : List Nat) (s u : Int) (C : Cab) : Prop where
  dis : dis7 n g tb ab T
  own : OwnArr w g 70 (boardL tb ab n kt ka u)
  tr : PA w tb n T (fun i => ((l[i]?.getD 0 : Nat) : Int))
  ai : PA w ab n T C.ai
  tv : Trs w n T s C
/-- all from a block on -/
structure from7 (B n g tb ab : Nat) (T : Nat → Nat) : Prop where
  g : B ≤ g
  tb : B ≤ tb
  ab : B ≤ ab
  tr : ∀ r, r < n → B ≤ T r
section
variable {w : World} {n g tb ab kt ka : Nat} {T : Nat → Nat} {l : List Nat} {s u : Int} {C : Cab}
theorem Brd.drew (h : Brd w n g tb ab kt ka T l s u C) : Brd w.drew n g tb ab kt ka T l s u C := ⟨h.dis, h.own.drew, h.tr.drew, h.ai.drew, h.tv⟩
theorem Brd.drewN (h : Brd w n g tb ab kt ka T l s u C) (q : Nat) : Brd (w.drewN q) n g tb ab kt ka T l s u C := ⟨h.dis, h.own.drewN q, h.tr, h.ai, h.tv⟩
theorem Brd.below {w' : World} (h : Brd w n g tb ab kt ka T l s u C) (hb : Below w.heap.size w w') : Brd w' n g tb ab kt ka T l s u C :=
  ⟨h.dis, h.own.below hb h.own.lt, h.tr.below hb h.tr.lt, h.ai.below hb h.ai.lt, fun r hr => (h.tv r hr).below hb (h.tv r hr).lt⟩
theorem Brd.setU (h : Brd w n g tb ab kt ka T l s u C) (v : Int) : Brd (w.setCell ⟨g, 2, none⟩ (.int .i64 v)) n g tb ab kt ka T l s v C :=
  ⟨h.dis, h.own.set 2 _, h.tr.other h.dis.gt.symm _, h.ai.other h.dis.ga.symm _, fun r hr => (h.tv r hr).far7 (h.dis.tr r hr).1 _⟩
/-- a traveler's cell -/
theorem Brd.setT (h : Brd w n g tb ab kt ka T l s u C) {row : Nat} (hr : row < n) (j : Nat) (v : Value) {C' : Cab} (hai : C'.ai = C.ai) (hx : (travL s C row).set j v = travL s C' row) (ho : ∀ r, r ≠ row → travL s C' r = travL s C r) :
    Brd (w.setCell ⟨T row, j, none⟩ v) n g tb ab kt ka T l s u C' :=
  ⟨h.dis, h.own.far7 (h.dis.tr row hr).1.symm _, h.tr.other (h.dis.tr row hr).2.1.symm _, by rw [hai]; exact h.ai.other (h.dis.tr row hr).2.2.symm _, fun r hr' => by
    by_cases e : r = row
    · subst e; rw [← hx]; exact (h.tv r hr').set j v
    · rw [ho r e]; exact (h.tv r hr').far7 (h.dis.inj r row hr' hr e) _⟩
theorem travL_upd {F : Nat → Int} {row r : Nat} {x : Int} (h : r ≠ row) : updI F row x r = F r := upd_ne h
theorem Brd.setAt (h : Brd w n g tb ab kt ka T l s u C) {row : Nat} (hr : row < n) (x : Int) : Brd (w.setCell ⟨T row, 0, none⟩ (.int .i64 x)) n g tb ab kt ka T l s u { C with at_ := updI C.at_ row x } :=
  h.setT hr 0 _ rfl (by simp [travL, upd_at]) (fun r e => by simp [travL, travL_upd e])
theorem Brd.setSt (h : Brd w n g tb ab kt ka T l s u C) {row : Nat} (hr : row < n) (x : Int) : Brd (w.setCell ⟨T row, 1, none⟩ (.int .i64 x)) n g tb ab kt ka T l s u { C with st := updI C.st row x } :=
  h.setT hr 1 _ rfl (by simp [travL, upd_at]) (fun r e => by simp [travL, travL_upd e])
theorem Brd.setEn (h : Brd w n g tb ab kt ka T l s u C) {row : Nat} (hr : row < n) (x : Int) : Brd (w.setCell ⟨T row, 4, none⟩ (.int .i64 x)) n g tb ab kt ka T l s u { C with en := updI C.en row x } :=
  h.setT hr 4 _ rfl (by simp [travL, upd_at]) (fun r e => by simp [travL, travL_upd e])
theorem Brd.setSa (h : Brd w n g tb ab kt ka T l s u C) {row : Nat} (hr : row < n) (x : Int) : Brd (w.setCell ⟨T row, 5, none⟩ (.int .i64 x)) n g tb ab kt ka T l s u { C with sa := updI C.sa row x } :=
  h.setT hr 5 _ rfl (by simp [travL, upd_at]) (fun r e => by simp [travL, travL_upd e])
theorem Brd.setWa (h : Brd w n g tb ab kt ka T l s u C) {row : Nat} (hr : row < n) (x : Int) : Brd (w.setCell ⟨T row, 6, none⟩ (.int .i64 x)) n g tb ab kt ka T l s u { C with wa := updI C.wa row x } :=
  h.setT hr 6 _ rfl (by simp [travL, upd_at]) (fun r e => by simp [travL, travL_upd e])
theorem Brd.setAi (h : Brd w n g tb ab kt ka T l s u C) (i : Nat) (x : Int) {v : Value} (hv : v = ptrT T x) : Brd (w.setCell ⟨ab, i, none⟩ v) n g tb ab kt ka T l s u { C with ai := updI C.ai i x } :=
  ⟨h.dis, h.own.far7 h.dis.ga _, h.tr.other h.dis.ta _, h.ai.set i x hv, fun r hr => (h.tv r hr).far7 (h.dis.tr r hr).2.2 _⟩
theorem Brd.cells (h : Brd w n g tb ab kt ka T l s u C) : w.cell? ⟨g, 0, none⟩ = some (.slice (some ⟨tb, 0, none⟩) n kt) ∧ w.cell? ⟨g, 1, none⟩ = some (.slice (some ⟨ab, 0, none⟩) n ka) ∧ w.cell? ⟨g, 2, none⟩ = some (.int .i64 u) :=
  ⟨h.own.cell 0, h.own.cell 1, h.own.cell 2⟩
theorem Trs.cells (h : Trs w n T s C) {r : Nat} (hr : r < n) : (w.cell? ⟨T r, 0, none⟩ = some (.int .i64 (C.at_ r)) ∧ w.cell? ⟨T r, 1, none⟩ = some (.int .i64 (C.st r)) ∧ w.cell? ⟨T r, 2, none⟩ = some (.int .i64 (r : Nat)) ∧ w.cell? ⟨T r, 3, none⟩ = some (.int .i64 s)) ∧
    (w.cell? ⟨T r, 4, none⟩ = some (.int .i64 (C.en r)) ∧ w.cell? ⟨T r, 5, none⟩ = some (.int .i64 (C.sa r)) ∧ w.cell? ⟨T r, 6, none⟩ = some (.int .i64 (C.wa r))) :=
  ⟨⟨(h r hr).cell 0, (h r hr).cell 1, (h r hr).cell 2, (h r hr).cell 3⟩, (h r hr).cell 4, (h r hr).cell 5, (h r hr).cell 6⟩
theorem Trs.free (h : Trs w n T s C) {r : Nat} (hr : r < n) (j : Nat) : w.frozen? ⟨T r, j, none⟩ = false := (h r hr).free j
end
end Go.Proofs.Ytlhnejjciondeaa
end

section
namespace Go.Proofs.Ytlhnejjciondeaa
open Go.RowKit

set_option maxHeartbeats 1000000 in
theorem row_any (n : Nat) (T : Nat → Nat) (s : Int) (C : Cab) (w : World) (hT : Trs w n T s C) (r : Nat) (hr : r < n) :
    Calls Try.prog 70 #[.pointer (some ⟨T r, 0, none⟩)] w fun e w' => e = .returned (.int .i64 (r : Nat)) ∧ w = w' := by
  obtain ⟨⟨-, -, c2, -⟩, -⟩ := hT.cells hr
  clear hT
  go_enter Try.func70, Try.ntmps70
  go_wp2_with fail
  go_ret
  exact ⟨rfl, rfl⟩

set_option maxHeartbeats 1000000 in
theorem spot_eql (x y z s : Int) (w : World) : (binOp .eql 86 (.agg #[.int .i64 x, .int .i64 y]) (.agg #[.int .i64 z, .int .i64 s])).run Try.prog w = .ok (.bool (decide (x = z ∧ y = s))) w := by
  rw [run_eql_struct, run_equalIn_struct (d := 9999) (ht := by kernel_rfl) (hp := by kernel_rfl)]
  have hu : Try.prog.underlying 3 = some (.int .i64) := Try.underlying3
  have p0 : ∀ (a b : Value), (part 3 #[a, b] 0).run Try.prog w = .ok a w := fun a b => by kernel_rfl
  have p1 : ∀ (a b : Value), (part 3 #[a, b] 1).run Try.prog w = .ok b w := fun a b => by kernel_rfl
  simp only [Program.fieldsOf, Try.underlying86, Op.eqFields]
  simp [p0, p1, run_equalIn_int (d := 9998) (h := hu), Result.andThen]
  by_cases h1 : x = z <;> by_cases h2 : y = s <;> simp [h1, h2]

set_option maxHeartbeats 1000000 in
theorem isSeated_raw (n : Nat) (T : Nat → Nat) (s : Int) (C : Cab) (w : World) (hT : Trs w n T s C) (r : Nat) (hr : r < n) :
    Calls Try.prog 69 #[.pointer (some ⟨T r, 0, none⟩)] w fun e w' => e = .returned (.bool (decide (C.at_ r = r ∧ C.st r = s))) ∧ ∃ q, w' = w.drewN q := by
  obtain ⟨⟨c0, c1, c2, c3⟩, -⟩ := hT.cells hr
  obtain ⟨x, hx⟩ : ∃ x, C.at_ r = x := ⟨_, rfl⟩
  obtain ⟨y, hy⟩ : ∃ y, C.st r = y := ⟨_, rfl⟩
  rw [hx] at c0 ⊢
  rw [hy] at c1 ⊢
  have i4 := fun w' => spot_eql x y (r : Int) s w'
  obtain ⟨D, hD⟩ : ∃ D, decide (x = (r : Int) ∧ y = s) = D := ⟨_, rfl⟩
  simp only [hD] at i4
  rw [hD]
  clear hT hx hy hD
  go_enter Try.func69, Try.ntmps69
  go_wp2_with fail
  go_quiet (fail)
  go_wp2_with fail
  go_ret
  exact ⟨rfl, _, rfl⟩
theorem isSeated_any (n : Nat) (T : Nat → Nat) (s : Int) (C : Cab) (w : World) (hT : Trs w n T s C) (hi : Inv7 n s C) (hf : fin7 n s C) (r : Nat) (hr : r < n) :
    Calls Try.prog 69 #[.pointer (some ⟨T r, 0, none⟩)] w fun e w' => e = .returned (.bool (decide (0 < C.sa r))) ∧ ∃ q, w' = w.drewN q := by
  rw [show decide (0 < C.sa r) = decide (C.at_ r = r ∧ C.st r = s) from decide_eq_decide.2 (seat_iff hi hf hr).symm]
  exact isSeated_raw n T s C w hT r hr

set_option maxHeartbeats 1000000 in
theorem isUp_any (n : Nat) (T : Nat → Nat) (s : Int) (C : Cab) (w : World) (hT : Trs w n T s C) (hi : Inv7 n s C) (hf : fin7 n s C) (r : Nat) (hr : r < n) :
    Calls Try.prog 64 #[.pointer (some ⟨T r, 0, none⟩)] w fun e w' => e = .returned (.bool (!decide (0 < C.sa r))) ∧ ∃ q, w' = w.drewN q := by
  have S := isSeated_any n T s C w hT hi hf r hr
  obtain ⟨D, hD⟩ : ∃ D, decide (0 < C.sa r) = D := ⟨_, rfl⟩
  rw [hD] at S ⊢
  replace S := Lib.hid S
  clear hT hi hf hD
  go_enter Try.func64, Try.ntmps64
  go_wp2_with fail
  refine S.out.mono ?_
  rintro e w1 ⟨rfl, q, rfl⟩
  go_wp2_with fail
  go_ret
  exact ⟨rfl, q, rfl⟩

set_option maxRecDepth 4000 in
set_option maxHeartbeats 1000000 in
theorem canBoard_any (n s : Int) (w : World) :
    Calls Try.prog 50 #[.int .i64 n, .int .i64 s] w fun e w' => e = .returned (.bool (rows7 n s)) ∧ w = w' := by
  have IN := fun w' => hasPlane_any n w'
  unfold rows7
  cases hg : rowsB n with
  | false =>
    rw [hg] at IN
    replace IN := Lib.hid IN
    clear hg
    go_enter Try.func50, Try.ntmps50
    go_wp2_with fail
    refine (IN.out _).mono ?_
    rintro e w1 ⟨rfl, rfl⟩
    go_wp2_with fail
    go_ret
    exact ⟨rfl, rfl⟩
  | true =>
    rw [hg] at IN
    replace IN := Lib.hid IN
    clear hg
    rw [Bool.true_and]
    by_cases h1 : 1 ≤ s
    · by_cases h2 : s ≤ 5
      · go_enter Try.func50, Try.ntmps50
        go_wp2_with fail
        refine (IN.out _).mono ?_
        rintro e w1 ⟨rfl, rfl⟩
        go_wp2_with fail
        go_ret
        exact ⟨ret_bool (by simp; omega), rfl⟩
      · go_enter Try.func50, Try.ntmps50
        go_wp2_with fail
        refine (IN.out _).mono ?_
        rintro e w1 ⟨rfl, rfl⟩
        go_wp2_with fail
        go_ret
        exact ⟨ret_bool (by simp; omega), rfl⟩
    · go_enter Try.func50, Try.ntmps50
      go_wp2_with fail
      refine (IN.out _).mono ?_
      rintro e w1 ⟨rfl, rfl⟩
      go_wp2_with fail
      go_ret
      exact ⟨ret_bool (by simp; omega), rfl⟩
end Go.Proofs.Ytlhnejjciondeaa
end

section
namespace Go.Proofs.Ytlhnejjciondeaa
open Go.RowKit

/-- what a call leaves of a boarding -/
def Did7 (lo n g tb ab kt ka : Nat) (T : Nat → Nat) (l : List Nat) (s u : Int) (w : World) (C : Cab) : Ending → World → Prop := fun E w' => E = .returned (.tuple #[]) ∧ Brd w' n g tb ab kt ka T l s u C ∧ Below lo w w'
def stow7 (s u : Int) (row : Nat) (C : Cab) : Cab := if C.st row + 1 = s then { C with st := updI C.st row (C.st row + 1), sa := updI C.sa row u, ai := updI C.ai row (-1) } else { C with st := updI C.st row (C.st row + 1) }
theorem below_drewN7 {lo : Nat} {w w' : World} (h : Below lo w w') (q : Nat) : Below lo w (w'.drewN q) := h.trans ⟨rfl, rfl, rfl, Nat.le_refl _, fun _ _ => rfl⟩

set_option maxRecDepth 4000 in
set_option maxHeartbeats 4000000 in
theorem stow_any (lo n g tb ab kt ka : Nat) (T : Nat → Nat) (l : List Nat) (s u : Int) (C : Cab) (w : World) (hB : Brd w n g tb ab kt ka T l s u C) (hF : from7 lo n g tb ab T) (row : Nat) (hr : row < n) (hat : C.at_ row = row) (hst : 0 ≤ C.st row ∧ C.st row ≤ 1000) :
    Calls Try.prog 71 #[.pointer (some ⟨g, 0, none⟩), .pointer (some ⟨T row, 0, none⟩)] w (Did7 lo n g tb ab kt ka T l s u w (stow7 s u row C)) := by
  obtain ⟨⟨c0, c1, c2, c3⟩, c4, c5, c6⟩ := hB.tv.cells hr
  have f1 := hB.tv.free hr 1
  have hw : IntKind.i64.wrap (C.st row + 1) = C.st row + 1 := IntWalk.i64_in _ (by omega)
  have hB1 := hB.setSt hr (C.st row + 1)
  have hS := isSeated_raw n T s _ _ hB1.tv row hr
  have hE : Hid (decide (({ C with st := updI C.st row (C.st row + 1) } : Cab).at_ row = row ∧ ({ C with st := updI C.st row (C.st row + 1) } : Cab).st row = s) = decide (C.st row + 1 = s)) := by
    show _ = _
    show decide (C.at_ row = row ∧ updI C.st row (C.st row + 1) row = s) = _
    rw [upd_at]
    simp [hat]
  rw [hE.out] at hS
  have hb1 : Below lo w (w.setCell ⟨T row, 1, none⟩ (.int .i64 (C.st row + 1))) := (Below.refl _ _).setCell (p := ⟨T row, 1, none⟩) (hF.tr row hr) _
  unfold Did7 stow7
  obtain ⟨y, hy⟩ : ∃ y, C.st row = y := ⟨_, rfl⟩
  rw [hy] at c1 hw hB1 hS hb1 ⊢
  rw [hat] at c0
  by_cases he : y + 1 = s
  · rw [if_pos he, he]
    rw [he] at hw hB1 hS hb1
    rw [decide_eq_true rfl] at hS
    have FR := Lib.hid hF
    have HB1 := Lib.hid hB1
    have HB := Lib.hid hb1
    have HS := Lib.hid hS
    have hr0 : (0 : Int) ≤ (row : Int) := by omega
    have hr1 : (row : Int) < (n : Int) := by omega
    have HR := Lib.hid hr
    have HAT := Lib.hid hat
    clear hB hF hat hst hB1 hS hE hb1 hy
    go_enter Try.func71, Try.ntmps71
    go_wp2_with fail
    refine HS.out.mono ?_
    rintro e w1 ⟨rfl, q, rfl⟩
    have hB2 := HB1.out.drewN q
    have hBL := below_drewN7 HB.out q
    obtain ⟨wq, hwq⟩ : ∃ wq, (w.setCell ⟨T row, 1, none⟩ (.int .i64 s)).drewN q = wq := ⟨_, rfl⟩
    rw [hwq] at hB2 hBL ⊢
    obtain ⟨⟨z0, -, -, -⟩, -⟩ := hB2.tv.cells HR.out
    replace z0 : wq.cell? ⟨T row, 0, none⟩ = some (.int .i64 (row : Nat)) := by rw [z0, HAT.out]
    obtain ⟨-, g1, -⟩ := hB2.cells
    have hB3 := (hB2.setAi row (-1) (v := .pointer none) rfl).drew
    have hB4 := Lib.hid ((hB2.setAi row (-1) (v := .pointer none) rfl).setSa HR.out u).drew
    have HBL4 := Lib.hid ((hBL.setCell (p := ⟨ab, row, none⟩) FR.out.ab (.pointer none)).setCell (p := ⟨T row, 5, none⟩) (FR.out.tr row HR.out) (.int .i64 u)).drew
    have fa := hB2.drew.ai.free row
    have ya := hB2.drew.ai.cell HR.out
    have fs := hB3.tv.free HR.out 5
    obtain ⟨-, -, g2⟩ := hB3.cells
    obtain ⟨-, -, z5, -⟩ := hB3.tv.cells HR.out
    clear hB2 hBL hB3 HB1 HB HS FR HAT
    go_wp2_with fail
    go_still_tail 10, (by kernel_rfl)
    change wpList _ _ _ _ _ wq.drew
    go_wp2_with fail
    exact bodyPost_end (results_none rfl _ _ _) rfl ⟨rfl, hB4.out, HBL4.out⟩
  · rw [if_neg he]
    rw [decide_eq_false he] at hS
    have HB1 := Lib.hid hB1
    have HB := Lib.hid hb1
    have HS := Lib.hid hS
    clear hB hF hst hB1 hS hE hb1 hy
    go_enter Try.func71, Try.ntmps71
    go_wp2_with fail
    refine HS.out.mono ?_
    rintro e w1 ⟨rfl, q, rfl⟩
    go_wp2_with fail
    exact bodyPost_end (results_none rfl _ _ _) rfl ⟨rfl, HB1.out.drewN q, below_drewN7 HB.out q⟩

def step7 (u : Int) (row : Nat) (C : Cab) : Cab := if C.at_ row < 0 then { C with ai := updI C.ai 0 row, at_ := updI C.at_ row 0, en := updI C.en row u } else { C with ai := updI (updI C.ai (C.at_ row).toNat (-1)) ((C.at_ row).toNat + 1) row, at_ := updI C.at_ row (C.at_ row + 1) }

set_option maxRecDepth 4000 in
set_option maxHeartbeats 4000000 in
theorem step_any (lo n g tb ab kt ka : Nat) (T : Nat → Nat) (l : List Nat) (s u : Int) (C : Cab) (w : World) (hB : Brd w n g tb ab kt ka T l s u C) (hF : from7 lo n g tb ab T) (row : Nat) (hr : row < n) (hn : n ≤ 10) (h1 : -1 ≤ C.at_ row) (h2 : C.at_ row < row) :
    Calls Try.prog 72 #[.pointer (some ⟨g, 0, none⟩), .pointer (some ⟨T row, 0, none⟩)] w (Did7 lo n g tb ab kt ka T l s u w (step7 u row C)) := by
  obtain ⟨⟨c0, c1, c2, c3⟩, c4, c5, c6⟩ := hB.tv.cells hr
  obtain ⟨-, -, g2⟩ := hB.cells
  unfold Did7 step7
  by_cases he : C.at_ row < 0
  · rw [if_pos he]
    have hat : C.at_ row = -1 := by omega
    rw [hat] at c0
    have f4 := hB.tv.free hr 4
    have hB1 := hB.setEn hr u
    have hb1 : Below lo w (w.setCell ⟨T row, 4, none⟩ (.int .i64 u)) := (Below.refl _ _).setCell (p := ⟨T row, 4, none⟩) (hF.tr row hr) _
    have z0 : (w.setCell ⟨T row, 4, none⟩ (.int .i64 u)).cell? ⟨T row, 0, none⟩ = some (.int .i64 (-1)) := by rw [(hB1.tv.cells hr).1.1]; show some (Value.int _ (C.at_ row)) = _; rw [hat]
    have f0 := hB1.tv.free hr 0
    have hB2 := hB1.setAt hr 0
    have hb2 : Below lo w ((w.setCell ⟨T row, 4, none⟩ (.int .i64 u)).setCell ⟨T row, 0, none⟩ (.int .i64 0)) := hb1.setCell (p := ⟨T row, 0, none⟩) (hF.tr row hr) _
    have y0 : ((w.setCell ⟨T row, 4, none⟩ (.int .i64 u)).setCell ⟨T row, 0, none⟩ (.int .i64 0)).cell? ⟨T row, 0, none⟩ = some (.int .i64 0) := by rw [(hB2.tv.cells hr).1.1]; show some (Value.int _ (updI C.at_ row 0 row)) = _; rw [upd_at]
    obtain ⟨-, g1, -⟩ := hB2.cells
    have hn0 : 0 < n := by omega
    have hn1 : (0 : Int) < (n : Int) := by omega
    have fa := hB2.drew.ai.free 0
    have ya := hB2.drew.ai.cell hn0
    have HB3 := Lib.hid ((hB2.setAi 0 (row : Int) (v := .pointer (some ⟨T row, 0, none⟩)) rfl).drew)
    have HBL := Lib.hid ((hb2.setCell (p := ⟨ab, 0, none⟩) hF.ab (.pointer (some ⟨T row, 0, none⟩))).drew)
    obtain ⟨wq, hwq⟩ : ∃ wq, (w.setCell ⟨T row, 4, none⟩ (.int .i64 u)).setCell ⟨T row, 0, none⟩ (.int .i64 0) = wq := ⟨_, rfl⟩
    rw [hwq] at y0 g1 fa ya
    replace hwq := Lib.hid hwq
    clear hB hF hB1 hB2 hb1 hb2 h1 h2 hat
    go_enter Try.func72, Try.ntmps72
    go_wp2_with fail
    rw [hwq.out]
    go_still_tail 11, (by kernel_rfl)
    change wpList _ _ _ _ _ wq.drew
    go_wp2_with fail
    rw [← hwq.out]
    exact bodyPost_end (results_none rfl _ _ _) rfl ⟨rfl, HB3.out, HBL.out⟩
  · rw [if_neg he]
    obtain ⟨k, hk⟩ : ∃ k : Nat, C.at_ row = k := ⟨(C.at_ row).toNat, by omega⟩
    have hkt : (C.at_ row).toNat = k := by omega
    rw [hkt]
    rw [hk] at c0 h2 ⊢
    have hkn : k < n := by omega
    have hk0 : (0 : Int) ≤ (k : Int) := by omega
    have hk1 : (k : Int) < (n : Int) := by omega
    have hk2 : (k : Int) + 1 < (n : Int) := by omega
    have hk3 : (0 : Int) ≤ (k : Int) + 1 := by omega
    have hkm : ¬ (k : Int) = -1 := by omega
    have hw : IntKind.i64.wrap ((k : Int) + 1) = (k : Int) + 1 := IntWalk.i64_in _ (by omega)
    obtain ⟨-, g1, -⟩ := hB.cells
    have fa := hB.drew.ai.free k
    have ya := hB.drew.ai.cell hkn
    have hB1 := (hB.setAi k (-1) (v := .pointer none) rfl).drew
    have hb1 : Below lo w (w.setCell ⟨ab, k, none⟩ (.pointer none)).drew := ((Below.refl _ _).setCell (p := ⟨ab, k, none⟩) hF.ab _).drew
    have z0 : (w.setCell ⟨ab, k, none⟩ (.pointer none)).drew.cell? ⟨T row, 0, none⟩ = some (.int .i64 (k : Int)) := by rw [(hB1.tv.cells hr).1.1]; show some (Value.int _ (C.at_ row)) = _; rw [hk]
    have f0 := hB1.tv.free hr 0
    have hB2 := ((hB.setAi k (-1) (v := .pointer none) rfl).setAt hr ((k : Int) + 1)).drew
    have hb2 : Below lo w ((w.setCell ⟨ab, k, none⟩ (.pointer none)).setCell ⟨T row, 0, none⟩ (.int .i64 ((k : Int) + 1))).drew := (((Below.refl _ _).setCell (p := ⟨ab, k, none⟩) hF.ab _).setCell (p := ⟨T row, 0, none⟩) (hF.tr row hr) _).drew
    have y0 : ((w.setCell ⟨ab, k, none⟩ (.pointer none)).setCell ⟨T row, 0, none⟩ (.int .i64 ((k : Int) + 1))).drew.cell? ⟨T row, 0, none⟩ = some (.int .i64 ((k : Int) + 1)) := by rw [(hB2.tv.cells hr).1.1]; show some (Value.int _ (updI C.at_ row ((k : Int) + 1) row)) = _; rw [upd_at]
    obtain ⟨-, g1b, -⟩ := hB2.cells
    obtain ⟨W, hW⟩ : ∃ W, ((w.setCell ⟨ab, k, none⟩ (.pointer none)).setCell ⟨T row, 0, none⟩ (.int .i64 ((k : Int) + 1))) = W := ⟨_, rfl⟩
    have fb : ((w.setCell ⟨ab, k, none⟩ (.pointer none)).setCell ⟨T row, 0, none⟩ (.int .i64 ((k : Int) + 1))).drew.drew.frozen? ⟨ab, k + 1, none⟩ = false := hB2.drew.ai.free (k + 1)
    have yb := hB2.drew.ai.cell (j := k + 1) (by omega)
    have HB3 := Lib.hid ((((hB.setAi k (-1) (v := .pointer none) rfl).setAt hr ((k : Int) + 1)).setAi (k + 1) (row : Int) (v := .pointer (some ⟨T row, 0, none⟩)) rfl).drew.drew)
    have HBL := Lib.hid (((((Below.refl lo w).setCell (p := ⟨ab, k, none⟩) hF.ab (.pointer none)).setCell (p := ⟨T row, 0, none⟩) (hF.tr row hr) (.int .i64 ((k : Int) + 1))).setCell (p := ⟨ab, k + 1, none⟩) hF.ab (.pointer (some ⟨T row, 0, none⟩))).drew.drew)
    obtain ⟨wq, hwq⟩ : ∃ wq, ((w.setCell ⟨ab, k, none⟩ (.pointer none)).setCell ⟨T row, 0, none⟩ (.int .i64 ((k : Int) + 1))).drew = wq := ⟨_, rfl⟩
    rw [hwq] at y0 g1b fb yb
    replace hwq := Lib.hid hwq
    clear hB hF hB1 hB2 hb1 hb2 h1 h2 hk hkt he hW W
    go_enter Try.func72, Try.ntmps72
    go_wp2_with fail
    go_still_tail 10, (by kernel_rfl)
    change wpList _ _ _ _ _ w.drew
    go_wp2_with fail
    rw [hwq.out]
    go_still_tail 11, (by kernel_rfl)
    change wpList _ _ _ _ _ wq.drew
    go_wp2_with fail
    rw [← hwq.out]
    exact bodyPost_end (results_none rfl _ _ _) rfl ⟨rfl, HB3.out, HBL.out⟩
end Go.Proofs.Ytlhnejjciondeaa
end

section
namespace Go.Proofs.Ytlhnejjciondeaa
open Go.RowKit

theorem act_is_stow {s t : Int} {row : Nat} {C : Cab} (h1 : ¬ 0 < C.sa row) (h2 : C.at_ row = row) : act7 s t row C = stow7 s t row C := by
  unfold act7 stow7
  rw [if_neg h1, if_neg (by omega), if_pos h2, show (C.at_ row).toNat = row by omega]
theorem act_is_step {s t : Int} {row : Nat} {C : Cab} (h1 : ¬ 0 < C.sa row) (h2 : -1 ≤ C.at_ row) (h3 : C.at_ row < row) (h4 : C.ai (C.at_ row + 1).toNat < 0) : act7 s t row C = step7 t row C := by
  unfold act7 step7
  rw [if_neg h1]
  by_cases e : C.at_ row < 0
  · rw [if_pos e, if_pos e, if_pos]
    rwa [show (C.at_ row + 1).toNat = 0 by omega] at h4
  · rw [if_neg e, if_neg e, if_neg (by omega), if_pos]
    rwa [show (C.at_ row + 1).toNat = (C.at_ row).toNat + 1 by omega] at h4
theorem act_is_wait {s t : Int} {row : Nat} {C : Cab} (h1 : ¬ 0 < C.sa row) (h2 : -1 ≤ C.at_ row) (h3 : C.at_ row < row) (h4 : ¬ C.ai (C.at_ row + 1).toNat < 0) : act7 s t row C = if C.at_ row = -1 then C else { C with wa := updI C.wa row (C.wa row + 1) } := by
  unfold act7
  rw [if_neg h1]
  by_cases e : C.at_ row < 0
  · rw [if_pos e, if_neg, if_pos (by omega)]
    rwa [show (C.at_ row + 1).toNat = 0 by omega] at h4
  · rw [if_neg e, if_neg (by omega), if_neg, if_neg (by omega)]
    rwa [show (C.at_ row + 1).toNat = (C.at_ row).toNat + 1 by omega] at h4

set_option maxRecDepth 4000 in
set_option maxHeartbeats 4000000 in
theorem act_any (lo n g tb ab kt ka : Nat) (T : Nat → Nat) (l : List Nat) (s u : Int) (C : Cab) (w : World) (hB : Brd w n g tb ab kt ka T l s u C) (hF : from7 lo n g tb ab T) (row : Nat) (hr : row < n) (hn : n ≤ 10) (hi : Inv7 n s C) (hf : fin7 n s C) (hs : s ≤ 5) (hwa : 0 ≤ C.wa row ∧ C.wa row ≤ 100000) :
    Calls Try.prog 65 #[.pointer (some ⟨g, 0, none⟩), .pointer (some ⟨T row, 0, none⟩)] w (Did7 lo n g tb ab kt ka T l s u w (act7 s u row C)) := by
  have S := isSeated_any n T s C w hB.tv hi hf row hr
  have at1 := hi.at1 row hr
  have st1 := hi.st1 row hr
  by_cases e1 : 0 < C.sa row
  · rw [act_sits e1]
    rw [decide_eq_true e1] at S
    unfold Did7
    replace S := Lib.hid S
    have HB := Lib.hid hB
    clear hB hF hi hf hs hwa at1 st1 e1
    go_enter Try.func65, Try.ntmps65
    go_wp2_with fail
    refine S.out.mono ?_
    rintro e w1 ⟨rfl, q, rfl⟩
    go_wp2_with fail
    exact bodyPost_end (results_none rfl _ _ _) rfl ⟨rfl, HB.out.drewN q, below_drewN7 (Below.refl _ _) q⟩
  have hz : C.sa row = 0 := by have := hi.sa1 row hr; omega
  rw [decide_eq_false e1] at S
  replace S := Lib.hid S
  have ROW := Lib.hid (fun (w' : World) (m : Nat) (h : Brd w' n g tb ab kt ka T l s u C) => row_any n T s C (w'.drewN m) (fun r hr => (h.tv r hr).drewN m) row hr)
  have HBQ := Lib.hid (fun (q : Nat) => hB.drewN q)
  have FR := Lib.hid hF
  have HR := Lib.hid hr
  by_cases e2 : C.at_ row = row
  · rw [act_is_stow e1 e2]
    have ST := Lib.hid (fun (w' : World) (m : Nat) (h : Brd w' n g tb ab kt ka T l s u C) => stow_any lo n g tb ab kt ka T l s u C (w'.drewN m) (h.drewN m) hF row hr e2 (by omega))
    have HE := Lib.hid e2
    unfold Did7 at ST ⊢
    clear hB hF hi hf hs hwa at1 st1 e1 e2 hz
    go_enter Try.func65, Try.ntmps65
    go_wp2_with fail
    refine S.out.mono ?_
    rintro e w1 ⟨rfl, q, hq⟩
    have HB1 := Lib.hid (show Brd w1 n g tb ab kt ka T l s u C by rw [hq]; exact HBQ.out q)
    have HL1 := Lib.hid (show Below lo w w1 by rw [hq]; exact below_drewN7 (Below.refl _ _) q)
    clear hq HBQ S
    obtain ⟨⟨c0, -, -, -⟩, -⟩ := HB1.out.tv.cells HR.out
    rw [HE.out] at c0
    go_wp2_with fail
    go_quiet ((go_at_call 70; exact quiet_same (ROW.out w1 _ HB1.out)))
    go_wp2_with fail
    refine (ST.out w1 _ HB1.out).mono ?_
    rintro e w2 ⟨rfl, hB2, hL2⟩
    have HL2 := Lib.hid ((below_drewN7 HL1.out _).trans hL2)
    clear hL2
    go_wp2_with fail
    exact bodyPost_end (results_none rfl _ _ _) rfl ⟨rfl, hB2, HL2.out⟩
  have e3 : C.at_ row < row := by omega
  obtain ⟨k, hk⟩ : ∃ k : Nat, C.at_ row = (k : Int) - 1 := ⟨(C.at_ row + 1).toNat, by omega⟩
  have hkt : (C.at_ row + 1).toNat = k := by omega
  have hkn : k < n := by omega
  have hki : ¬ (k : Int) - 1 = (row : Int) := by omega
  have hk0 : (0 : Int) ≤ (k : Int) := by omega
  have hk1 : (k : Int) < (n : Int) := by omega
  have hkp : (k : Int) - 1 + 1 = (k : Int) := by omega
  have hkw : IntKind.i64.wrap (k : Int) = (k : Int) := IntWalk.i64_in _ (by omega)
  have HK := Lib.hid hk
  have HKN := Lib.hid hkn
  by_cases e4 : C.ai k < 0
  · rw [act_is_step e1 at1.1 e3 (by rw [hkt]; exact e4)]
    have ST := Lib.hid (fun (w' : World) (m : Nat) (h : Brd w' n g tb ab kt ka T l s u C) => step_any lo n g tb ab kt ka T l s u C (w'.drewN m) (h.drewN m) hF row hr hn at1.1 e3)
    have HN := Lib.hid (ptrT_neg T e4)
    unfold Did7 at ST ⊢
    clear hB hF hi hf hs hwa at1 st1 e1 e2 e3 e4 hz hk hkt
    go_enter Try.func65, Try.ntmps65
    go_wp2_with fail
    refine S.out.mono ?_
    rintro e w1 ⟨rfl, q, hq⟩
    have HB1 := Lib.hid (show Brd w1 n g tb ab kt ka T l s u C by rw [hq]; exact HBQ.out q)
    have HL1 := Lib.hid (show Below lo w w1 by rw [hq]; exact below_drewN7 (Below.refl _ _) q)
    clear hq HBQ S
    obtain ⟨⟨c0, -, -, -⟩, -⟩ := HB1.out.tv.cells HR.out
    rw [HK.out] at c0
    go_wp2_with fail
    go_quiet ((go_at_call 70; exact quiet_same (ROW.out w1 _ HB1.out)))
    rename_i nq
    have HB2 := Lib.hid (HB1.out.drewN nq)
    have HL2 := Lib.hid (below_drewN7 HL1.out nq)
    obtain ⟨w2, hw2⟩ : ∃ w2, w1.drewN nq = w2 := ⟨_, rfl⟩
    rw [hw2] at HB2 HL2 ⊢
    clear hw2 HB1 HL1 c0 ROW
    obtain ⟨⟨c0, -, -, -⟩, -⟩ := HB2.out.tv.cells HR.out
    rw [HK.out] at c0
    obtain ⟨-, g1, -⟩ := HB2.out.cells
    have y := HB2.out.ai.cell HKN.out
    rw [HN.out] at y
    go_wp2_with fail
    go_quiet (fail)
    go_wp2_with fail
    refine (ST.out w2 _ HB2.out).mono ?_
    rintro e w3 ⟨rfl, hB3, hL3⟩
    have HL3 := Lib.hid ((below_drewN7 HL2.out _).trans hL3)
    clear hL3
    go_wp2_with fail
    exact bodyPost_end (results_none rfl _ _ _) rfl ⟨rfl, hB3, HL3.out⟩
  · rw [act_is_wait e1 at1.1 e3 (by rw [hkt]; exact e4)]
    have HN := Lib.hid (ptrT_pos T (x := C.ai k) (by omega))
    have hw : IntKind.i64.wrap (C.wa row + 1) = C.wa row + 1 := IntWalk.i64_in _ (by omega)
    unfold Did7
    by_cases e5 : k = 0
    · rw [if_pos (by omega)]
      subst e5
      clear hB hF hi hf hs hwa at1 st1 e1 e2 e3 e4 hz hk hkt
      go_enter Try.func65, Try.ntmps65
      go_wp2_with fail
      refine S.out.mono ?_
      rintro e w1 ⟨rfl, q, hq⟩
      have HB1 := Lib.hid (show Brd w1 n g tb ab kt ka T l s u C by rw [hq]; exact HBQ.out q)
      have HL1 := Lib.hid (show Below lo w w1 by rw [hq]; exact below_drewN7 (Below.refl _ _) q)
      clear hq HBQ S
      obtain ⟨⟨c0, -, -, -⟩, -⟩ := HB1.out.tv.cells HR.out
      rw [HK.out] at c0
      go_wp2_with fail
      go_quiet ((go_at_call 70; exact quiet_same (ROW.out w1 _ HB1.out)))
      rename_i nq
      have HB2 := Lib.hid (HB1.out.drewN nq)
      have HL2 := Lib.hid (below_drewN7 HL1.out nq)
      obtain ⟨w2, hw2⟩ : ∃ w2, w1.drewN nq = w2 := ⟨_, rfl⟩
      rw [hw2] at HB2 HL2 ⊢
      clear hw2 HB1 HL1 c0 ROW
      obtain ⟨⟨c0, -, -, -⟩, -⟩ := HB2.out.tv.cells HR.out
      rw [HK.out] at c0
      obtain ⟨-, g1, -⟩ := HB2.out.cells
      have y := HB2.out.ai.cell HKN.out
      rw [HN.out] at y
      go_wp2_with fail
      go_quiet (fail)
      have HB3 := Lib.hid (HB2.out.drewN nq)
      have HL3 := Lib.hid (below_drewN7 HL2.out nq)
      obtain ⟨w3, hw3⟩ : ∃ w3, w2.drewN nq = w3 := ⟨_, rfl⟩
      rw [hw3] at HB3 HL3 ⊢
      clear hw3 HB2 HL2 c0 g1 y
      obtain ⟨⟨c0, -, -, -⟩, -⟩ := HB3.out.tv.cells HR.out
      rw [HK.out] at c0
      go_wp2_with fail
      exact bodyPost_end (results_none rfl _ _ _) rfl ⟨rfl, HB3.out, HL3.out⟩
    · rw [if_neg (by omega)]
      have e6 : ¬ (k : Int) - 1 = -1 := by omega
      clear hB hF hi hf hs hwa at1 st1 e1 e2 e3 e4 hz hk hkt
      go_enter Try.func65, Try.ntmps65
      go_wp2_with fail
      refine S.out.mono ?_
      rintro e w1 ⟨rfl, q, hq⟩
      have HB1 := Lib.hid (show Brd w1 n g tb ab kt ka T l s u C by rw [hq]; exact HBQ.out q)
      have HL1 := Lib.hid (show Below lo w w1 by rw [hq]; exact below_drewN7 (Below.refl _ _) q)
      clear hq HBQ S
      obtain ⟨⟨c0, -, -, -⟩, -⟩ := HB1.out.tv.cells HR.out
      rw [HK.out] at c0
      go_wp2_with fail
      go_quiet ((go_at_call 70; exact quiet_same (ROW.out w1 _ HB1.out)))
      rename_i nq
      have HB2 := Lib.hid (HB1.out.drewN nq)
      have HL2 := Lib.hid (below_drewN7 HL1.out nq)
      obtain ⟨w2, hw2⟩ : ∃ w2, w1.drewN nq = w2 := ⟨_, rfl⟩
      rw [hw2] at HB2 HL2 ⊢
      clear hw2 HB1 HL1 c0 ROW
      obtain ⟨⟨c0, -, -, -⟩, -⟩ := HB2.out.tv.cells HR.out
      rw [HK.out] at c0
      obtain ⟨-, g1, -⟩ := HB2.out.cells
      have y := HB2.out.ai.cell HKN.out
      rw [HN.out] at y
      go_wp2_with fail
      go_quiet (fail)
      have HB3 := Lib.hid (HB2.out.drewN nq)
      have HL3 := Lib.hid (below_drewN7 HL2.out nq)
      obtain ⟨w3, hw3⟩ : ∃ w3, w2.drewN nq = w3 := ⟨_, rfl⟩
      rw [hw3] at HB3 HL3 ⊢
      clear hw3 HB2 HL2 c0 g1 y
      obtain ⟨⟨c0, -, -, -⟩, -, -, c6⟩ := HB3.out.tv.cells HR.out
      rw [HK.out] at c0
      have f6 := HB3.out.tv.free HR.out 6
      have HB4 := Lib.hid (HB3.out.setWa HR.out (C.wa row + 1))
      have HL4 := Lib.hid (HL3.out.setCell (p := ⟨T row, 6, none⟩) (FR.out.tr row HR.out) (.int .i64 (C.wa row + 1)))
      go_wp2_with fail
      exact bodyPost_end (results_none rfl _ _ _) rfl ⟨rfl, HB4.out, HL4.out⟩
end Go.Proofs.Ytlhnejjciondeaa
end

section
namespace Go.Proofs.Ytlhnejjciondeaa
open Go.RowKit

theorem infoPtr7 : (Try.prog.info? 82).map (fun i => (i.zero, i.size, i.bytes)) = some (some (.pointer none), 1, 8) := by kernel_rfl
abbrev ptrV (T : Nat → Nat) (r : Nat) : Value := .pointer (some ⟨T r, 0, none⟩)
def newT (T : Nat → Nat) (x a r : Nat) : Nat := if r = x then a else T r
abbrev lrow (l : List Nat) (j : Nat) : Nat := l[j]?.getD 0
/-- a boarding in the making: the first i travelers are there -/
structure W7 (lo n : Nat) (w0 : World) (g ab : Nat) (T : Nat → Nat) (l : List Nat) (s : Int) (v : Value) (i : Nat) (wr : World) : Prop where
  los : lo ≤ g ∧ lo ≤ ab ∧ g ≠ ab
  box : OwnArr wr g 70 [v, .slice (some ⟨ab, 0, none⟩) n n, .int .i64 0]
  ai : OwnArr wr ab 82 (List.replicate n (.pointer none))
  row : wr.ownsRow lo 82 1 v i ((l.take i).map (ptrV T))
  kv : v.ownBlock ≠ some g ∧ v.ownBlock ≠ some ab
  tv : ∀ j, j < i → OwnArr wr (T (lrow l j)) 88 (travL s start7 (lrow l j)) ∧ lo ≤ T (lrow l j) ∧ T (lrow l j) ≠ g ∧ T (lrow l j) ≠ ab ∧ v.ownBlock ≠ some (T (lrow l j))
  inj : ∀ j k, j < i → k < i → j ≠ k → T (lrow l j) ≠ T (lrow l k)
  bel : Below lo w0 wr
theorem own_set7 {B n : Nat} {t : TypeId} {w : World} {v : Value} {xs : List Value} {g i : Nat} {x : Value} (h : w.ownsRow B t 1 v n xs) (hv : v.ownBlock ≠ some g) : (w.setCell ⟨g, i, none⟩ x).ownsRow B t 1 v n xs := by
  refine ⟨h.1, h.2.elim .inl ?_⟩
  rintro ⟨k, cap, cur, rfl, hB, hh, r⟩
  have hk : k ≠ g := fun e => hv (by rw [e]; rfl)
  exact .inr ⟨k, cap, cur, rfl, hB, by rw [Below.heap_setCell w ⟨g, i, none⟩ x k hk]; exact hh, r⟩
theorem own_form7 {B n : Nat} {t : TypeId} {w : World} {v : Value} {xs : List Value} (h : w.ownsRow B t 1 v n xs) : ∃ q c, v = .slice q n c := by
  rcases h.2 with ⟨rfl, h0⟩ | ⟨k, cap, cur, rfl, -⟩
  · exact ⟨none, 0, by rw [h0]⟩
  · exact ⟨_, _, rfl⟩
theorem own_kept2 {w w3 : World} {o o2 : Obj} {row : Option Nat} {x : Nat} {e : TypeId} {xs : List Value} (h : OwnArr w x e xs) (hg : ((w.alloc o).alloc o2).grownBy w3 row) (hne : row ≠ some x) : OwnArr w3 x e xs :=
  own_kept (h.alloc o) hg hne
section
variable {lo n : Nat} {w0 : World} {g ab : Nat} {T : Nat → Nat} {l : List Nat} {s : Int} {v v' : Value} {i : Nat} {wr w3 : World} {o2 : Obj}
theorem W7.step (h : W7 lo n w0 g ab T l s v i wr) (hi : i < n) (hll : l.length = n) (hnd : ∀ j k, j < n → k < n → j ≠ k → lrow l j ≠ lrow l k) (hlo : lo ≤ wr.heap.size)
    (hg : ((wr.alloc (.cells (travL s start7 (lrow l i)).toArray 88)).alloc o2).grownBy w3 v.ownBlock)
    (ho : w3.ownsRow lo 82 1 v' (i + 1) ((l.take i).map (ptrV T) ++ [.pointer (some ⟨wr.heap.size, 0, none⟩)]))
    (hat : v'.ownBlock = v.ownBlock ∨ v'.ownBlock = some ((wr.alloc (.cells (travL s start7 (lrow l i)).toArray 88)).alloc o2).heap.size) :
    W7 lo n w0 g ab (newT T (lrow l i) wr.heap.size) l s v' (i + 1) (w3.setCell ⟨g, 0, none⟩ v') := by
  have h1 := h.box.lt
  have h2 := h.ai.lt
  have hsz : ((wr.alloc (.cells (travL s start7 (lrow l i)).toArray 88)).alloc o2).heap.size = wr.heap.size + 2 := by simp
  have hnew : OwnArr (wr.alloc (.cells (travL s start7 (lrow l i)).toArray 88)) wr.heap.size 88 (travL s start7 (lrow l i)) := OwnArr.made wr _ _
  have hvl : ∀ k, v.ownBlock = some k → k < wr.heap.size := fun k hk => (World.ownsRow.lt h.row k hk).2
  have hnn : v.ownBlock ≠ some wr.heap.size := fun e => by have := hvl _ e; omega
  have hn3 : OwnArr w3 wr.heap.size 88 (travL s start7 (lrow l i)) := own_kept hnew hg hnn
  have hTj : ∀ j, j < i → (newT T (lrow l i) wr.heap.size) (lrow l j) = T (lrow l j) := fun j hj => if_neg (hnd j i (by omega) hi (by omega))
  have hTi : (newT T (lrow l i) wr.heap.size) (lrow l i) = wr.heap.size := if_pos rfl
  have hvg : v'.ownBlock ≠ some g ∧ v'.ownBlock ≠ some ab := by
    rcases hat with e | e
    · rw [e]; exact h.kv
    · rw [e, hsz]; exact ⟨fun e => by simp at e; omega, fun e => by simp at e; omega⟩
  refine ⟨h.los, (own_kept2 h.box hg h.kv.1).set 0 v', (own_kept2 h.ai hg h.kv.2).far7 h.los.2.2.symm _, ?_, hvg, ?_, ?_, ?_⟩
  · have e : (l.take (i + 1)).map (ptrV (newT T (lrow l i) wr.heap.size)) = (l.take i).map (ptrV T) ++ [.pointer (some ⟨wr.heap.size, 0, none⟩)] := by
      rw [List.take_succ_eq_append_getElem (by omega), List.map_append]
      have e1 : l[i]'(by omega) = lrow l i := by unfold lrow; rw [List.getElem?_eq_getElem (by omega)]; rfl
      congr 1
      · apply List.map_congr_left
        intro x hx
        obtain ⟨j, hj, rfl⟩ := List.getElem_of_mem hx
        rw [List.length_take] at hj
        have e2 : (l.take i)[j] = lrow l j := by unfold lrow; rw [List.getElem_take, List.getElem?_eq_getElem (by omega)]; rfl
        rw [e2]
        show Value.pointer (some ⟨(newT T (lrow l i) wr.heap.size) (lrow l j), 0, none⟩) = _
        rw [hTj j (by omega)]
      · rw [e1]
        show [Value.pointer (some ⟨(newT T (lrow l i) wr.heap.size) (lrow l i), 0, none⟩)] = _
        rw [hTi]
    rw [e]
    exact own_set7 ho hvg.1
  · intro j hj
    by_cases e : j = i
    · subst e
      rw [hTi]
      have hbl := h.bel.size
      refine ⟨hn3.far7 (by omega) _, hlo, by omega, by omega, ?_⟩
      rcases hat with e | e
      · rw [e]; exact hnn
      · rw [e, hsz]; intro e; simp at e
    · rw [hTj j (by omega)]
      obtain ⟨q1, q2, q3, q4, q5⟩ := h.tv j (by omega)
      refine ⟨(own_kept2 q1 hg q5).far7 q3 _, q2, q3, q4, ?_⟩
      rcases hat with e' | e'
      · rw [e']; exact q5
      · rw [e', hsz]; intro e2; have := q1.lt; simp at e2; omega
  · intro j k hj hk hjk
    by_cases e : j = i
    · subst e
      rw [hTi, hTj k (by omega)]
      have := (h.tv k (by omega)).1.lt; omega
    · by_cases e' : k = i
      · subst e'
        rw [hTi, hTj j (by omega)]
        have := (h.tv j (by omega)).1.lt; omega
      · rw [hTj j (by omega), hTj k (by omega)]
        exact h.inj j k (by omega) (by omega) hjk
  · have h3 : Below lo wr w3 := (((Below.refl lo wr).alloc hlo _).alloc (by simp; omega) o2).grown hg (by omega) (own_block h.row)
    exact (h.bel.trans h3).setCell (p := ⟨g, 0, none⟩) h.los.1 _
/-- a boarding that is made -/
theorem W7.done (h : W7 lo n w0 g ab T l s v n wr) (hn1 : 1 ≤ n) (hll : l.length = n) (hl : ∀ x ∈ l, x < n) (ha : ∀ r, r < n → r ∈ l) :
    ∃ tb kt, Brd wr n g tb ab kt n T l s 0 start7 ∧ from7 lo n g tb ab T := by
  have hj : ∀ r, r < n → ∃ j, j < n ∧ lrow l j = r := fun r hr => by
    obtain ⟨j, hj, e⟩ := List.getElem_of_mem (ha r hr)
    exact ⟨j, by omega, by unfold lrow; rw [List.getElem?_eq_getElem hj, e]; rfl⟩
  obtain ⟨-, h2⟩ := h.row
  rcases h2 with ⟨-, h0⟩ | ⟨tb, kt, cur, rfl, hB, hh, hnk, hk, hcs, htk⟩
  · omega
  · rw [Nat.mul_one] at htk
    have hw : OwnArr wr tb 82 cur.toList := by unfold OwnArr; simpa using hh
    have hkv := h.kv
    refine ⟨tb, kt, ⟨⟨fun e => hkv.1 (by rw [e]; rfl), h.los.2.2, fun e => hkv.2 (by rw [e]; rfl), ?_, ?_⟩, h.box, ⟨cur.toList, hw, by simp; omega, ?_⟩, ⟨_, h.ai, by simp, ?_⟩, ?_⟩, ⟨h.los.1, hB, h.los.2.1, ?_⟩⟩
    · intro r hr
      obtain ⟨j, hj, rfl⟩ := hj r hr
      obtain ⟨-, -, q3, q4, q5⟩ := h.tv j hj
      exact ⟨q3, fun e => q5 (by rw [e]; rfl), q4⟩
    · intro r q hr hq hne
      obtain ⟨j, hj', rfl⟩ := hj r hr
      obtain ⟨k, hk', rfl⟩ := hj q hq
      exact h.inj j k hj' hk' (fun e => hne (by rw [e]))
    · intro j hj'
      have e : cur.toList[j]? = ((l.take n).map (ptrV T))[j]? := by rw [← htk, List.getElem?_take, if_pos hj']
      rw [e, List.getElem?_map, List.getElem?_take, if_pos hj', List.getElem?_eq_getElem (by omega)]
      show some (ptrV T (l[j]'(by omega))) = some (ptrT T ((l[j]?.getD 0 : Nat) : Int))
      rw [List.getElem?_eq_getElem (by omega)]
      rfl
    · intro j hj'
      show (List.replicate n (Value.pointer none))[j]? = some (ptrT T (-1))
      rw [List.getElem?_replicate, if_pos hj']; rfl
    · intro r hr
      obtain ⟨j, hj, rfl⟩ := hj r hr
      exact (h.tv j hj).1
    · intro r hr
      obtain ⟨j, hj, rfl⟩ := hj r hr
      exact (h.tv j hj).2.1
end

/-- a boarding of a call's own -/
def MadeBrd (w : World) (n : Nat) (l : List Nat) (s u : Int) (C : Cab) : Ending → World → Prop := fun E w' => ∃ g tb ab kt ka T, E = .returned (.pointer (some ⟨g, 0, none⟩)) ∧ Brd w' n g tb ab kt ka T l s u C ∧ from7 w.heap.size n g tb ab T ∧ Below w.heap.size w w'

set_option maxRecDepth 4000 in
set_option maxHeartbeats 4000000 in
theorem waiting_any (n : Nat) (s : Int) (p : Option Addr) (cap : Nat) (l : List Nat) (w : World) (lo hi : Nat) (hin : Ri lo hi w p (ints l)) (hn1 : 1 ≤ n) (hn : n ≤ 10) (hll : l.length = n) (hl : ∀ x ∈ l, x < n) (ha : ∀ r, r < n → r ∈ l) (hnd : ∀ j k, j < n → k < n → j ≠ k → lrow l j ≠ lrow l k) :
    Calls Try.prog 62 #[.int .i64 s, .slice p n cap] w (MadeBrd w n l s 0 start7) := by
  have hmk := @run_make_row' Try.prog 68 82 (.pointer none) 8 Try.underlying68 infoPtr7 rfl .i64 .i64 n (by omega) (by omega)
  rw [madeCells_one] at hmk
  obtain ⟨Z, hZ⟩ : ∃ Z, List.replicate n (Value.pointer none) = Z := ⟨_, rfl⟩
  rw [hZ] at hmk
  obtain ⟨w2, hw2⟩ : ∃ w2, (w.alloc (.cells Z.toArray 82)).alloc (.cells #[.slice none 0 0, .slice (some ⟨w.heap.size, 0, none⟩) n n, .int .i64 0] 70) = w2 := ⟨_, rfl⟩
  obtain ⟨r0, hr0⟩ : ∃ r, w.heap.size = r := ⟨_, rfl⟩
  have HS : Hid (W7 r0 n w (r0 + 1) r0 (fun _ => 0) l s (.slice none 0 0) 0 w2) := by
    show W7 _ _ _ _ _ _ _ _ _ _ _
    have hm1 : OwnArr (w.alloc (.cells Z.toArray 82)) r0 82 Z := by rw [← hr0]; exact OwnArr.made w _ _
    have hm2 := OwnArr.made (w.alloc (.cells Z.toArray 82)) 70 [.slice none 0 0, .slice (some ⟨w.heap.size, 0, none⟩) n n, .int .i64 0]
    have hsz : (w.alloc (.cells Z.toArray 82)).heap.size = r0 + 1 := by simp [hr0]
    rw [hsz, hr0] at hm2
    rw [← hw2, hr0]
    refine ⟨⟨by omega, Nat.le_refl _, by omega⟩, hm2, ?_, ⟨rfl, .inl ⟨rfl, rfl⟩⟩, ⟨by simp [Value.ownBlock], by simp [Value.ownBlock]⟩, fun j hj => absurd hj (Nat.not_lt_zero _), fun j k hj => absurd hj (Nat.not_lt_zero _), ?_⟩
    · rw [hZ]; exact hm1.alloc _
    · exact ((Below.refl _ _).alloc (by omega) _).alloc (by rw [hsz]; omega) _
  have HI := Lib.hid (fun (w' : World) (h' : Below r0 w w') => hin.below (by rw [hr0]; exact h') hin.top)
  obtain ⟨i0, hi0, hz0, hz1, hz2⟩ := info_parts infoPtr7
  have HW2 := Lib.hid hw2
  have HR0 := Lib.hid hr0
  have HLL := Lib.hid hll
  have HND := Lib.hid hnd
  have HDONE := Lib.hid (fun (T : Nat → Nat) (v : Value) (wr : World) (h : W7 r0 n w (r0 + 1) r0 T l s v n wr) => h.done hn1 hll hl ha)
  clear hin hw2 hr0 hZ hl ha hnd
  go_enter Try.func62, Try.ntmps62
  go_upto_region 2 with fail
  rw [HW2.out, HR0.out]
  clear hmk
  go_wp2_with fail
  go_loopw [15] (fun ii wr => ∃ (i : Nat) (T : Nat → Nat) (v : Value), i ≤ n ∧ ii = .int .i64 (i : Int) ∧ Hid (W7 r0 n w (r0 + 1) r0 T l s v i wr)) (fun ii _ => n - (intOf ii).toNat)
  case atStart => exact ⟨0, _, _, Nat.zero_le _, rfl, HS⟩
  case round =>
    obtain ⟨i, T, v, hi', rfl, HS1⟩ := hrel
    clear HS
    by_cases hlt : i < n
    · have hi1 : (i : Int) < (n : Int) := by omega
      have hil : i < l.length := by omega
      obtain ⟨bq, off, rfl, -, -, -, hc⟩ := (HI.out wr HS1.out.bel).int (by rw [ints_length]; omega)
      have h0 := hc i (by rw [ints_length]; exact hil)
      rw [ints_get hil] at h0
      have hlo : r0 ≤ wr.heap.size := by have := HS1.out.bel.size; have := HR0.out; omega
      have c0 : wr.cell? ⟨r0 + 1, 0, none⟩ = some v := HS1.out.box.cell 0
      obtain ⟨row, hrow⟩ : ∃ row, l[i]?.getD 0 = row := ⟨_, rfl⟩
      rw [hrow] at h0
      have hrl : lrow l i = row := hrow
      have hown := World.ownsRow.alloc (World.ownsRow.alloc HS1.out.row (.cells #[.int .i64 (-1), .int .i64 0, .int .i64 (row : Nat), .int .i64 s, .int .i64 0, .int .i64 0, .int .i64 0] 88)) (.cells #[.pointer (some ⟨wr.heap.size, 0, none⟩)] 82)
      have hc1 := cell_one_new (wr.alloc (.cells #[.int .i64 (-1), .int .i64 0, .int .i64 (row : Nat), .int .i64 s, .int .i64 0, .int .i64 0, .int .i64 0] 88)) (.pointer (some ⟨wr.heap.size, 0, none⟩)) 82
      rw [World.size_alloc] at hc1
      have HRL := Lib.hid hrl
      clear hc
      go_wp2_with (at_builtin; refine wpList_append_own_at _ rfl _ _ 68 rfl r0 82 i0 (.pointer none) 1 8 Try.underlying68 hi0 hz0 hz1 hz2 rfl (by decide) _ _ _ rfl hown ⟨wr.heap.size + 1, 0, none⟩ 1 1 [.pointer (some ⟨wr.heap.size, 0, none⟩)] rfl rfl hc1 (fun x hx => by simp at hx; subst hx; rfl) (by unfold maxLen; omega) (by omega) (by simp; omega) ?_; intro v' w3 hown' hgrow3 hnil3 hat3; obtain ⟨qv, cv, rfl⟩ := own_form7 hown'; have hx3 := own_kept2 HS1.out.box hgrow3 HS1.out.kv.1; have y0 := hx3.cell 0; have g0 := hx3.free 0)
      have HS3 := Lib.hid (HS1.out.step hlt HLL.out HND.out hlo (by rw [HRL.out]; exact hgrow3) hown' (by rw [HRL.out]; exact hat3))
      clear hown hown' hgrow3 hnil3 hat3 hx3 y0 g0
      go_wp2_with fail
      go_roundw
      case rel => exact ⟨i + 1, _, _, by omega, by go_num, HS3⟩
      case measure => simp [intOf]; omega
    · have hni : i = n := by omega
      subst hni
      have hi1 : ¬ (i : Int) < (i : Int) := by omega
      go_wp2_with fail
      go_ret
      obtain ⟨tb, kt, hB, hF⟩ := HDONE.out T v wr HS1.out
      unfold MadeBrd
      exact ⟨_, _, _, _, _, _, rfl, hB, by rw [HR0.out]; exact hF, by rw [HR0.out]; exact HS1.out.bel⟩
end Go.Proofs.Ytlhnejjciondeaa
end
