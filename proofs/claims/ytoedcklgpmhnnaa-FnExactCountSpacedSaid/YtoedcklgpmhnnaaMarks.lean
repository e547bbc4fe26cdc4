/- impl.marksOf: which seats of a valid Row are taken, in memory of the call's own. -/
import Derived.Test.YtoedcklgpmhnnaaOut
namespace Go.Proofs.Ytoedcklgpmhnnaa
open Go.RowKit

/-- marks as values -/
def bv (l : List Bool) : List Value := l.map Value.bool
theorem bv_length (l : List Bool) : (bv l).length = l.length := by simp [bv]
theorem bv_get {l : List Bool} {i : Nat} (h : i < l.length) : (bv l)[i]? = some (.bool (l[i]?.getD false)) := by simp [bv, h]
theorem bv_set (l : List Bool) (i : Nat) (b : Bool) : (bv l).set i (.bool b) = bv (l.set i b) := by simp [bv, List.map_set]
theorem infoBool : (Try.prog.info? 4).map (fun i => (i.zero, i.size, i.bytes)) = some (some (.bool false), 1, 1) := by kernel_rfl

theorem take_mem_succ {l : List Nat} {j : Nat} (h : j < l.length) (i : Nat) : decide (i ∈ l.take (j + 1)) = if i = l[j]?.getD 0 then true else decide (i ∈ l.take j) := by
  rw [List.take_succ_eq_append_getElem h, List.getElem?_eq_getElem h]
  show decide (i ∈ l.take j ++ [l[j]]) = if i = l[j] then true else decide (i ∈ l.take j)
  by_cases e : i = l[j]
  · rw [if_pos e]
    exact decide_eq_true (List.mem_append.2 (.inr (List.mem_singleton.2 e)))
  · rw [if_neg e]
    exact decide_eq_decide.2 ⟨fun h => (List.mem_append.1 h).resolve_right (fun h => e (List.mem_singleton.1 h)), fun h => List.mem_append.2 (.inl h)⟩

end Go.Proofs.Ytoedcklgpmhnnaa
