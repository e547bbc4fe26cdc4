/- slices.insertionSortOrdered of numbers in a block of the call's own: what lies there behind the call is a rearrangement, ascending. slices.Sort of at most twelve numbers in a block of the call's own; slices.Sorted over what a slice gives. slices.Sorted(slices.Values(list)) of at most twelve numbers: a rearrangement, ascending, in memory of the call's own. -/
import Derived.Test.YtlhnejjciondeaaOut
import Derived.BigRegion
import Derived.BigQuiet
import Derived.Deep.QuietTactic
import Derived.ArgAppend
import Derived.RangeFuncNested
import Derived.RangeFuncBound
import Derived.RangeFuncCalls
import Derived.RangeFuncLeaves
import Derived.Shelf.Abstract
import Derived.Shelf.RegionOpen
import Derived.OwnWalkIn
import Derived.TacticsInMore
import Derived.LoopNIn
import Derived.LoopIn
import Derived.Maps.AppendAt
import Derived.Test.YtlhnejjciondeaaRangeOwn
section
namespace Go.Proofs.Ytlhnejjciondeaa
open Go.RowKit

/-- all in order up to place i, but for what stands at place j -/
def butOne (zs : List Int) (i j : Nat) : Prop := ∀ p q, p < q → q ≤ i → q ≠ j → zs[p]?.getD 0 ≤ zs[q]?.getD 0
/-- the first i in order -/
def upto (zs : List Int) (i : Nat) : Prop := ∀ p q, p < q → q < i → zs[p]?.getD 0 ≤ zs[q]?.getD 0
def swp (zs : List Int) (j : Nat) : List Int := (zs.set (j + 1) (zs[j]?.getD 0)).set j (zs[j + 1]?.getD 0)
theorem swp_length (zs : List Int) (j : Nat) : (swp zs j).length = zs.length := by simp [swp]
theorem swp_perm {zs : List Int} {j : Nat} (h : j + 1 < zs.length) : (swp zs j).Perm zs := by
  unfold swp
  rw [List.getElem?_eq_getElem h, List.getElem?_eq_getElem (show j < zs.length by omega)]
  exact List.set_set_perm h (by omega)
theorem swp_get {zs : List Int} {j : Nat} (h : j + 1 < zs.length) (k : Nat) : (swp zs j)[k]?.getD 0 = if k = j then zs[j + 1]?.getD 0 else if k = j + 1 then zs[j]?.getD 0 else zs[k]?.getD 0 := by
  unfold swp
  rw [List.getElem?_set, List.getElem?_set]
  by_cases e1 : k = j
  · subst e1; rw [if_pos rfl, if_pos rfl, if_pos (by rw [List.length_set]; omega)]; rfl
  · rw [if_neg (fun e => e1 e.symm), if_neg e1]
    by_cases e2 : k = j + 1
    · subst e2; rw [if_pos rfl, if_pos rfl, if_pos h]; rfl
    · rw [if_neg (fun e => e2 e.symm), if_neg e2]
theorem butOne_start {zs : List Int} {i : Nat} (h : upto zs i) : butOne zs i i := fun p q h1 h2 h3 => h p q h1 (by omega)
theorem butOne_zero {zs : List Int} {i : Nat} (h : butOne zs i 0) : upto zs (i + 1) := fun p q h1 h2 => h p q h1 (by omega) (by omega)
theorem butOne_stop {zs : List Int} {i j : Nat} (h : butOne zs i (j + 1)) (hj : zs[j]?.getD 0 ≤ zs[j + 1]?.getD 0) : upto zs (i + 1) := by
  intro p q h1 h2
  by_cases e : q = j + 1
  · subst e
    by_cases e2 : p = j
    · subst e2; exact hj
    · have := h p j (by omega) (by omega) (by omega); omega
  · exact h p q h1 (by omega) e
theorem butOne_swap {zs : List Int} {i j : Nat} (h : butOne zs i (j + 1)) (hj : zs[j + 1]?.getD 0 < zs[j]?.getD 0) (hi : j + 1 ≤ i) (hl : i < zs.length) : butOne (swp zs j) i j := by
  intro p q h1 h2 h3
  rw [swp_get (by omega), swp_get (by omega), if_neg h3]
  by_cases e1 : q = j + 1
  · subst e1
    rw [if_pos rfl]
    by_cases e2 : p = j
    · subst e2; rw [if_pos rfl]; omega
    · rw [if_neg e2, if_neg (by omega)]; exact h p j (by omega) (by omega) (by omega)
  · rw [if_neg e1]
    by_cases e2 : p = j
    · subst e2; rw [if_pos rfl]; exact h (p + 1) q (by omega) h2 e1
    · rw [if_neg e2]
      by_cases e3 : p = j + 1
      · subst e3; rw [if_pos rfl]; exact h j q (by omega) h2 e1
      · rw [if_neg e3]; exact h p q h1 h2 e1
theorem upto_sorted {zs : List Int} (h : upto zs zs.length) : zs.Pairwise (· ≤ ·) := by
  rw [List.pairwise_iff_getElem]
  intro i j hi hj hij
  have := h i j hij hj
  rwa [List.getElem?_eq_getElem hi, List.getElem?_eq_getElem hj] at this

theorem ivt_get {zs : List Int} {ys : List Value} {k : Nat} (h : k < zs.length) : (iv zs ++ ys)[k]? = some (.int .i64 (zs[k]?.getD 0)) := by
  rw [List.getElem?_append_left (by rw [iv_length]; exact h), iv_get h]
theorem ivt_set {zs : List Int} {ys : List Value} {k : Nat} {x : Int} (h : k < zs.length) : (iv zs ++ ys).set k (.int .i64 x) = iv (zs.set k x) ++ ys := by
  rw [List.set_append_left _ _ (by rw [iv_length]; exact h)]
  simp [iv, List.map_set]

end Go.Proofs.Ytlhnejjciondeaa
end

section
namespace Go.Proofs.Ytlhnejjciondeaa
open Go.RowKit

end Go.Proofs.Ytlhnejjciondeaa
end

section
namespace Go.Proofs.Ytlhnejjciondeaa
open Go.RowKit Go.Shelf
attribute [local go_sem] Oper.semAt_some

/-- what holds between two rounds of AppendSeq's loop, n blocks lying when the call began: n is the box of the slice, which holds v, n + 1 and n + 2 the loop's -/
def SqV (n : Nat) (w : World) (rec : Loop) (pre : List Int) (v : Value) (W : World) : Prop :=
  Boxed W n 22 v ∧ W.ownsRow (n + 3) 3 1 v pre.length (iv pre) ∧ W.heap[n + 2]? = some (.loop rec) ∧ W.heap[n + 1]? = some (.deferred (some [])) ∧ Below n w W ∧ n + 3 ≤ W.heap.size

theorem SqV.rec {n : Nat} {w : World} {rec : Loop} {pre : List Int} {v : Value} {W : World} (h : SqV n w rec pre v W) (rec' : Loop) : SqV n w rec' pre v (W.putObj (n + 2) (.loop rec')) := by
  obtain ⟨hv, ho, h6, h5, hb, hs⟩ := h
  have hg := grownBy_putObj' W (n + 2) (.loop rec')
  refine ⟨hv.kept hg (by simp), ho.kept hg (.inr fun e => by have := (ho.lt _ e).1; omega), World.putObj_heap_same (by omega), ?_, hb.grown hg (by omega) (fun k e => by cases e; omega), by have := hg.size; omega⟩
  · rw [hg.block _ (by omega) (by simp)]; exact h5

theorem SqV.grow {n : Nat} {w : World} {rec : Loop} {pre : List Int} {v : Value} {W : World} (h : SqV n w rec pre v W) (o : Obj) : SqV n w rec pre v (W.alloc o) := by
  obtain ⟨hv, ho, h6, h5, hb, hs⟩ := h
  refine ⟨hv.alloc _, ho.alloc _, ?_, ?_, hb.alloc (by omega) _, by simp; omega⟩
  · rw [Below.heap_alloc _ _ _ (by omega)]; exact h6
  · rw [Below.heap_alloc _ _ _ (by omega)]; exact h5

/-- behind the append, behind the store -/
theorem SqV.app {n : Nat} {w : World} {rec : Loop} {pre : List Int} {v v' : Value} {W W' : World} {row : Option Nat} {x : Int} (h : SqV n w rec pre v W) (hg : W.grownBy W' row) (hr : ∀ j, row = some j → n + 3 ≤ j)
    (ho : W'.ownsRow (n + 3) 3 1 v' (pre.length + 1) (iv (pre ++ [x]))) : Boxed W' n 22 v ∧ SqV n w rec (pre ++ [x]) v' (W'.setCell ⟨n, 0, none⟩ v') := by
  obtain ⟨hv, _, h6, h5, hb, hs⟩ := h
  have hne : ∀ k, k < n + 3 → some k ≠ row := fun k hk e => by have := hr k e.symm; omega
  have hv' := hv.kept hg (hne _ (by omega))
  have hs' : n + 3 ≤ W'.heap.size := by have := hg.size; omega
  have hg2 := grownBy_setCell' W' n v'
  refine ⟨hv', hv'.set v', ?_, ?_, ?_, (hb.grown hg (by omega) (fun j e => by have := hr j e; omega)).grown hg2 (by omega) (fun k e => by cases e; omega), by have := hg2.size; omega⟩
  · have hl : (pre ++ [x]).length = pre.length + 1 := by simp
    rw [hl]
    refine ho.kept hg2 (.inr fun e => ?_)
    have := (ho.lt _ e).1
    omega
  · rw [hg2.block _ (by omega) (by simp), hg.block _ (by omega) (hne _ (by omega))]; exact h6
  · rw [hg2.block _ (by omega) (by simp), hg.block _ (by omega) (hne _ (by omega))]; exact h5

end Go.Proofs.Ytlhnejjciondeaa
end
