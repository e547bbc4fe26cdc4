/- An array of many cells in a block of its own: some in the middle are read, written; what else stays. Plain lemmas. -/
import Derived.Test.YtoedcklgpmhnnaaNe
import Derived.Test.YtoedcklgpmhnnaaOutS9
import Derived.Deep.MidRow
namespace Go.Proofs.Ytoedcklgpmhnnaa
open Go.RowKit

/-- some cells in the middle of an array are written -/
theorem OwnArr.setMidA {b : Nat} {e : TypeId} : ∀ (vs pre ys post : List Value) (w : World), OwnArr w b e (pre ++ (ys ++ post)) → ys.length = vs.length → OwnArr (w.setCells b pre.length vs) b e (pre ++ (vs ++ post))
  | [], pre, ys, post, w, h, hl => by
    have : ys = [] := List.length_eq_zero_iff.1 hl
    subst this
    exact h
  | v :: vs, pre, ys, post, w, h, hl => by
    match ys, hl with
    | y :: ys, hl =>
      have h2 := h.set pre.length v
      rw [List.set_append_right _ _ (Nat.le_refl _), Nat.sub_self, List.cons_append, List.set_cons_zero] at h2
      have := OwnArr.setMidA vs (pre ++ [v]) ys post _ (by rw [List.append_assoc]; exact h2) (by simpa using hl)
      rw [List.append_assoc, List.length_append] at this
      exact this
theorem OwnArr.rangeA {b : Nat} {e : TypeId} {w : World} {L : List Value} (h : OwnArr w b e L) (o : Nat) {cs : List Value} (hc : ∀ j, j < cs.length → L[o + j]? = cs[j]?) : w.rangeAt b o cs := by
  intro j v hj
  rw [h.cell]
  have : j < cs.length := by
    rcases Nat.lt_or_ge j cs.length with h | h
    · exact h
    · rw [List.getElem?_eq_none h] at hj; cases hj
  rw [hc j this, hj]
theorem OwnArr.thereA {b : Nat} {e : TypeId} {w : World} {L : List Value} (h : OwnArr w b e L) {o n : Nat} (ho : o + n ≤ L.length) : w.there b o n := fun j hj => by
  exact ⟨by rw [h.cell, List.getElem?_eq_getElem (by omega)]; rfl, h.free _⟩
/-- all are written -/
theorem OwnArr.setAllA {b : Nat} {e : TypeId} {w : World} {L vs : List Value} (h : OwnArr w b e L) (hl : vs.length = L.length) : OwnArr (w.setCells b 0 vs) b e vs := by
  have := OwnArr.setMidA vs [] L [] w (by simpa using h) hl.symm
  simpa using this
/-- one block is written -/
theorem grown_setA {w wr : World} {b o : Nat} {v : Value} {row : Option Nat} (h : w.grownBy wr row) (hb : row = some b ∨ w.heap.size ≤ b) : w.grownBy (wr.setCell ⟨b, o, none⟩ v) row := by
  refine ⟨h.os, h.tape, h.output, ?_, fun k hk hne => ?_⟩
  · have : (wr.setCell ⟨b, o, none⟩ v).heap.size = wr.heap.size := by simp [World.setCell]
    rw [this]; exact h.size
  · have hkb : k ≠ b := by
      rintro rfl
      rcases hb with hb | hb
      · exact hne hb.symm
      · omega
    rw [Below.heap_setCell _ _ _ _ hkb]
    exact h.block k hk hne
theorem grown_setCellsA {w : World} {b : Nat} {row : Option Nat} : ∀ (vs : List Value) (o : Nat) (wr : World), w.grownBy wr row → (row = some b ∨ w.heap.size ≤ b) → w.grownBy (wr.setCells b o vs) row
  | [], _, _, h, _ => h
  | v :: vs, o, wr, h, hb => grown_setCellsA vs (o + 1) _ (grown_setA h hb) hb
theorem grown_drewA {w wr : World} {row : Option Nat} (h : w.grownBy wr row) : w.grownBy wr.drew row := ⟨h.os, h.tape, h.output, h.size, h.block⟩
theorem grown_reflA (w : World) (row : Option Nat) : w.grownBy w row := ⟨rfl, rfl, rfl, Nat.le_refl _, fun _ _ _ => rfl⟩
theorem grown_allocA {w wr : World} {row : Option Nat} (h : w.grownBy wr row) (o : Obj) : w.grownBy (wr.alloc o) row :=
  ⟨h.os, h.tape, h.output, Nat.le_trans h.size (by simp), fun k hk hne => by rw [Below.heap_alloc wr o k (Nat.lt_of_lt_of_le hk h.size)]; exact h.block k hk hne⟩
theorem grown_belowA {w wr w' : World} {row : Option Nat} (h : w.grownBy wr row) (hb : Below wr.heap.size wr w') : w.grownBy w' row :=
  ⟨hb.os.trans h.os, hb.tape.trans h.tape, hb.output.trans h.output, Nat.le_trans h.size hb.size, fun k hk hne => by rw [hb.block k (Nat.lt_of_lt_of_le hk h.size)]; exact h.block k hk hne⟩
theorem grown_stepA {w wr w' : World} {row r : Option Nat} (h : w.grownBy wr row) (hg : wr.grownBy w' r) (hr : r = row ∨ ∀ k, r = some k → w.heap.size ≤ k) : w.grownBy w' row :=
  ⟨hg.os.trans h.os, hg.tape.trans h.tape, hg.output.trans h.output, Nat.le_trans h.size hg.size, fun k hk hne => by
    rw [hg.block k (Nat.lt_of_lt_of_le hk h.size) ?_]
    · exact h.block k hk hne
    · rcases hr with hr | hr
      · rw [hr]; exact hne
      · intro e
        have := hr k e.symm
        omega⟩
/-- a list of the call's own stays while an older block is written -/
theorem Out.stayA {B : Nat} {w w' : World} {v : Value} {xs : List Int} {b : Nat} (h : Out B w v xs) (hg : w.grownBy w' (some b)) (hb : b < B) : Out B w' v xs := by
  refine World.ownsRow.kept h hg ?_
  cases e : v.ownBlock with
  | none => exact .inl rfl
  | some j =>
    right
    intro e2
    have := own_block h j e
    simp only [Option.some.injEq] at e2
    omega
theorem below_grownA {w w' : World} (h : w.grownBy w' none) : Below w.heap.size w w' := ⟨h.os, h.tape, h.output, h.size, fun k hk => h.block k hk (by simp)⟩
theorem Rd.grownA {lo hi : Nat} {w w' : World} {q : Option Addr} {vs : List Value} {row : Option Nat} (h : Rd lo hi w q vs) (hg : w.grownBy w' row) (hr : ∀ k, row = some k → k < lo ∨ hi ≤ k) : Rd lo hi w' q vs := by
  refine ⟨Nat.le_trans h.top hg.size, fun h0 => ?_⟩
  obtain ⟨b, off, e, h1, h2, hc⟩ := h.cells h0
  refine ⟨b, off, e, h1, h2, fun i hi' => ?_⟩
  have := hc i hi'
  rw [List.getElem?_eq_getElem hi'] at this ⊢
  exact hg.cell this (fun e => by have := hr b e.symm; omega)

/-- 25 numbers -/
def cv (f : Nat → Nat) : List Value := (List.range 25).map fun k => .int .i64 ((f k : Nat) : Int)
theorem cv_len (f : Nat → Nat) : (cv f).length = 25 := by unfold cv; simp
theorem cv_get {f : Nat → Nat} {k : Nat} (h : k < 25) : (cv f)[k]? = some (.int .i64 ((f k : Nat) : Int)) := by unfold cv; simp [h]
theorem cv_one (f : Nat → Nat) : (cv f).toArray.all (·.oneCell') = true := all_oneCell_toArray (fun u hu => by
  unfold cv at hu
  obtain ⟨k, -, rfl⟩ := List.mem_map.1 hu
  rfl)
theorem cv_congr {f g : Nat → Nat} (h : ∀ k, k < 25 → f k = g k) : cv f = cv g := by
  unfold cv
  apply List.map_congr_left
  intro k hk
  rw [h k (by simpa using hk)]
/-- the second numbers one place later, added to the first ones: up to place k -/
def mxA (f g : Nat → Nat) (k i : Nat) : Nat := if 1 ≤ i ∧ i ≤ k then g i + f (i - 1) else g i
/-- .. all of them -/
def adA (f g : Nat → Nat) : Nat → Nat
  | 0 => g 0
  | k + 1 => g (k + 1) + f k
theorem mxA_all {f g : Nat → Nat} {i : Nat} (h : i < 25) : mxA f g 24 i = adA f g i := by
  match i with
  | 0 => rfl
  | i + 1 => unfold mxA; rw [if_pos (by omega)]; rfl
theorem mxA_zero (f g : Nat → Nat) (i : Nat) : mxA f g 0 i = g i := by unfold mxA; rw [if_neg (by omega)]
theorem mxA_new (f g : Nat → Nat) (k : Nat) : mxA f g (k + 1) (k + 1) = mxA f g k (k + 1) + f k := by
  unfold mxA; rw [if_pos (by omega), if_neg (by omega)]; rfl
theorem mxA_old (f g : Nat → Nat) (k i : Nat) (h : i ≠ k + 1) : mxA f g (k + 1) i = mxA f g k i := by
  unfold mxA
  by_cases e : 1 ≤ i ∧ i ≤ k
  · rw [if_pos (by omega), if_pos e]
  · rw [if_neg (by omega), if_neg e]
/-- L' is L with these 25 numbers from o on -/
def AddT (o : Nat) (L L' : List Value) (F : Nat → Nat) : Prop := L'.length = L.length ∧ (∀ i, i < 25 → L'[o + i]? = some (.int .i64 ((F i : Nat) : Int))) ∧ (∀ i, (i < o ∨ o + 25 ≤ i) → L'[i]? = L[i]?)
end Go.Proofs.Ytoedcklgpmhnnaa
