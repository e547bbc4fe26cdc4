/- Chapter 7, impl side: the memory of a boarding. Plain lemmas. -/
import Derived.Test.YtohnjdlhgcemjaaBrdN7
import Derived.Test.YtohnjdlhgcemjaaOwnArr
import Derived.Test.YtohnjdlhgcemjaaOut
namespace Go.Proofs.Ytohnjdlhgcemjaa
open Go.RowKit

theorem OwnArr.far7 {w : World} {g : Nat} {e : TypeId} {xs : List Value} (h : OwnArr w g e xs) {b i : Nat} (hb : g ≠ b) (v : Value) : OwnArr (w.setCell ⟨b, i, none⟩ v) g e xs := by
  unfold OwnArr at *
  rw [Below.heap_setCell w ⟨b, i, none⟩ v g hb]; exact h
/-- who stands at a place: a traveler's address, or nil -/
def ptrT (T : Nat → Nat) : Int → Value
  | .ofNat r => .pointer (some ⟨T r, 0, none⟩)
  | .negSucc _ => .pointer none
theorem ptrT_neg (T : Nat → Nat) {x : Int} (h : x < 0) : ptrT T x = .pointer none := by
  cases x with
  | ofNat r => exact absurd h (by simp)
  | negSucc r => rfl
theorem ptrT_pos (T : Nat → Nat) {x : Int} (h : 0 ≤ x) : ptrT T x = .pointer (some ⟨T x.toNat, 0, none⟩) := by
  cases x with
  | ofNat r => rfl
  | negSucc r => exact absurd h (by simp)
/-- block b holds who stands at n places -/
def PA (w : World) (b n : Nat) (T : Nat → Nat) (F : Nat → Int) : Prop := ∃ vs, OwnArr w b 40 vs ∧ n ≤ vs.length ∧ ∀ j, j < n → vs[j]? = some (ptrT T (F j))
section
variable {w : World} {b n : Nat} {T : Nat → Nat} {F : Nat → Int}
theorem PA.lt (h : PA w b n T F) : b < w.heap.size := by obtain ⟨_, h, -⟩ := h; exact h.lt
theorem PA.cell (h : PA w b n T F) {j : Nat} (hj : j < n) : w.cell? ⟨b, j, none⟩ = some (ptrT T (F j)) := by
  obtain ⟨vs, h, -, hc⟩ := h
  rw [h.cell]; exact hc j hj
theorem PA.free (h : PA w b n T F) (j : Nat) : w.frozen? ⟨b, j, none⟩ = false := by obtain ⟨vs, h, -⟩ := h; exact h.free j
theorem PA.set (h : PA w b n T F) (i : Nat) (x : Int) {v : Value} (hv : v = ptrT T x) : PA (w.setCell ⟨b, i, none⟩ v) b n T (updI F i x) := by
  subst hv
  obtain ⟨vs, h, hl, hc⟩ := h
  refine ⟨_, h.set i _, by rw [List.length_set]; exact hl, fun j hj => ?_⟩
  rw [List.getElem?_set]
  by_cases e : i = j
  · subst e; rw [if_pos rfl, if_pos (by omega), upd_at]
  · rw [if_neg e, upd_ne (fun e' => e e'.symm)]; exact hc j hj
theorem PA.other (h : PA w b n T F) {k i : Nat} (hb : b ≠ k) (v : Value) : PA (w.setCell ⟨k, i, none⟩ v) b n T F := by
  obtain ⟨vs, h, r⟩ := h
  exact ⟨vs, h.far7 hb v, r⟩
theorem PA.alloc (h : PA w b n T F) (o : Obj) : PA (w.alloc o) b n T F := by
  obtain ⟨vs, h, r⟩ := h
  exact ⟨vs, h.alloc o, r⟩
theorem PA.below {w' : World} {B : Nat} (h : PA w b n T F) (hb : Below B w w') (hg : b < B) : PA w' b n T F := by
  obtain ⟨vs, h, r⟩ := h
  exact ⟨vs, h.below hb hg, r⟩
theorem PA.drew (h : PA w b n T F) : PA w.drew b n T F := h
end
abbrev boardL (tb ab n kt ka : Nat) (u : Int) : List Value := [.slice (some ⟨tb, 0, none⟩) n kt, .slice (some ⟨ab, 0, none⟩) n ka, .int .i64 u]
abbrev travL (s : Int) (C : Cab) (r : Nat) : List Value := [.int .i64 (C.at_ r), .int .i64 (C.st r), .int .i64 (r : Nat), .int .i64 s, .int .i64 (C.en r), .int .i64 (C.sa r), .int .i64 (C.wa r)]
/-- the travelers, by rows -/
def Trs (w : World) (n : Nat) (T : Nat → Nat) (s : Int) (C : Cab) : Prop := ∀ r, r < n → OwnArr w (T r) 44 (travL s C r)
structure dis7 (n g tb ab : Nat) (T : Nat → Nat) : Prop where
  gt : g ≠ tb
  ga : g ≠ ab
  ta : tb ≠ ab
  tr : ∀ r, r < n → T r ≠ g ∧ T r ≠ tb ∧ T r ≠ ab
  inj : ∀ r q, r < n → q < n → r ≠ q → T r ≠ T q
/-- a boarding: its block, those of its slices, those of the travelers -/
structure Brd (w : World) (n g tb ab kt ka : Nat) (T : Nat → Nat) (l : List Nat) (s u : Int) (C : Cab) : Prop where
  dis : dis7 n g tb ab T
  own : OwnArr w g 49 (boardL tb ab n kt ka u)
  tr : PA w tb n T (fun i => ((l[i]?.getD 0 : Nat) : Int))
  ai : PA w ab n T C.ai
  tv : Trs w n T s C
/-- all from a block on -/
structure from7 (B n g tb ab : Nat) (T : Nat → Nat) : Prop where
  g : B ≤ g
  tb : B ≤ tb
  ab : B ≤ ab
  tr : ∀ r, r < n → B ≤ T r
section
variable {w : World} {n g tb ab kt ka : Nat} {T : Nat → Nat} {l : List Nat} {s u : Int} {C : Cab}
theorem Brd.drew (h : Brd w n g tb ab kt ka T l s u C) : Brd w.drew n g tb ab kt ka T l s u C := ⟨h.dis, h.own.drew, h.tr.drew, h.ai.drew, h.tv⟩
theorem Brd.drewN (h : Brd w n g tb ab kt ka T l s u C) (q : Nat) : Brd (w.drewN q) n g tb ab kt ka T l s u C := ⟨h.dis, h.own.drewN q, h.tr, h.ai, h.tv⟩
theorem Brd.below {w' : World} (h : Brd w n g tb ab kt ka T l s u C) (hb : Below w.heap.size w w') : Brd w' n g tb ab kt ka T l s u C :=
  ⟨h.dis, h.own.below hb h.own.lt, h.tr.below hb h.tr.lt, h.ai.below hb h.ai.lt, fun r hr => (h.tv r hr).below hb (h.tv r hr).lt⟩
theorem Brd.setU (h : Brd w n g tb ab kt ka T l s u C) (v : Int) : Brd (w.setCell ⟨g, 2, none⟩ (.int .i64 v)) n g tb ab kt ka T l s v C :=
  ⟨h.dis, h.own.set 2 _, h.tr.other h.dis.gt.symm _, h.ai.other h.dis.ga.symm _, fun r hr => (h.tv r hr).far7 (h.dis.tr r hr).1 _⟩
/-- a traveler's cell -/
theorem Brd.setT (h : Brd w n g tb ab kt ka T l s u C) {row : Nat} (hr : row < n) (j : Nat) (v : Value) {C' : Cab} (hai : C'.ai = C.ai) (hx : (travL s C row).set j v = travL s C' row) (ho : ∀ r, r ≠ row → travL s C' r = travL s C r) :
    Brd (w.setCell ⟨T row, j, none⟩ v) n g tb ab kt ka T l s u C' :=
  ⟨h.dis, h.own.far7 (h.dis.tr row hr).1.symm _, h.tr.other (h.dis.tr row hr).2.1.symm _, by rw [hai]; exact h.ai.other (h.dis.tr row hr).2.2.symm _, fun r hr' => by
    by_cases e : r = row
    · subst e; rw [← hx]; exact (h.tv r hr').set j v
    · rw [ho r e]; exact (h.tv r hr').far7 (h.dis.inj r row hr' hr e) _⟩
theorem travL_upd {F : Nat → Int} {row r : Nat} {x : Int} (h : r ≠ row) : updI F row x r = F r := upd_ne h
theorem Brd.setAt (h : Brd w n g tb ab kt ka T l s u C) {row : Nat} (hr : row < n) (x : Int) : Brd (w.setCell ⟨T row, 0, none⟩ (.int .i64 x)) n g tb ab kt ka T l s u { C with at_ := updI C.at_ row x } :=
  h.setT hr 0 _ rfl (by simp [travL, upd_at]) (fun r e => by simp [travL, travL_upd e])
theorem Brd.setSt (h : Brd w n g tb ab kt ka T l s u C) {row : Nat} (hr : row < n) (x : Int) : Brd (w.setCell ⟨T row, 1, none⟩ (.int .i64 x)) n g tb ab kt ka T l s u { C with st := updI C.st row x } :=
  h.setT hr 1 _ rfl (by simp [travL, upd_at]) (fun r e => by simp [travL, travL_upd e])
theorem Brd.setEn (h : Brd w n g tb ab kt ka T l s u C) {row : Nat} (hr : row < n) (x : Int) : Brd (w.setCell ⟨T row, 4, none⟩ (.int .i64 x)) n g tb ab kt ka T l s u { C with en := updI C.en row x } :=
  h.setT hr 4 _ rfl (by simp [travL, upd_at]) (fun r e => by simp [travL, travL_upd e])
theorem Brd.setSa (h : Brd w n g tb ab kt ka T l s u C) {row : Nat} (hr : row < n) (x : Int) : Brd (w.setCell ⟨T row, 5, none⟩ (.int .i64 x)) n g tb ab kt ka T l s u { C with sa := updI C.sa row x } :=
  h.setT hr 5 _ rfl (by simp [travL, upd_at]) (fun r e => by simp [travL, travL_upd e])
theorem Brd.setWa (h : Brd w n g tb ab kt ka T l s u C) {row : Nat} (hr : row < n) (x : Int) : Brd (w.setCell ⟨T row, 6, none⟩ (.int .i64 x)) n g tb ab kt ka T l s u { C with wa := updI C.wa row x } :=
  h.setT hr 6 _ rfl (by simp [travL, upd_at]) (fun r e => by simp [travL, travL_upd e])
theorem Brd.setAi (h : Brd w n g tb ab kt ka T l s u C) (i : Nat) (x : Int) {v : Value} (hv : v = ptrT T x) : Brd (w.setCell ⟨ab, i, none⟩ v) n g tb ab kt ka T l s u { C with ai := updI C.ai i x } :=
  ⟨h.dis, h.own.far7 h.dis.ga _, h.tr.other h.dis.ta _, h.ai.set i x hv, fun r hr => (h.tv r hr).far7 (h.dis.tr r hr).2.2 _⟩
theorem Brd.cells (h : Brd w n g tb ab kt ka T l s u C) : w.cell? ⟨g, 0, none⟩ = some (.slice (some ⟨tb, 0, none⟩) n kt) ∧ w.cell? ⟨g, 1, none⟩ = some (.slice (some ⟨ab, 0, none⟩) n ka) ∧ w.cell? ⟨g, 2, none⟩ = some (.int .i64 u) :=
  ⟨h.own.cell 0, h.own.cell 1, h.own.cell 2⟩
theorem Trs.cells (h : Trs w n T s C) {r : Nat} (hr : r < n) : (w.cell? ⟨T r, 0, none⟩ = some (.int .i64 (C.at_ r)) ∧ w.cell? ⟨T r, 1, none⟩ = some (.int .i64 (C.st r)) ∧ w.cell? ⟨T r, 2, none⟩ = some (.int .i64 (r : Nat)) ∧ w.cell? ⟨T r, 3, none⟩ = some (.int .i64 s)) ∧
    (w.cell? ⟨T r, 4, none⟩ = some (.int .i64 (C.en r)) ∧ w.cell? ⟨T r, 5, none⟩ = some (.int .i64 (C.sa r)) ∧ w.cell? ⟨T r, 6, none⟩ = some (.int .i64 (C.wa r))) :=
  ⟨⟨(h r hr).cell 0, (h r hr).cell 1, (h r hr).cell 2, (h r hr).cell 3⟩, (h r hr).cell 4, (h r hr).cell 5, (h r hr).cell 6⟩
theorem Trs.free (h : Trs w n T s C) {r : Nat} (hr : r < n) (j : Nat) : w.frozen? ⟨T r, j, none⟩ = false := (h r hr).free j
end
end Go.Proofs.Ytohnjdlhgcemjaa
