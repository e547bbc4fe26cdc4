/- Small facts on lists of numbers, and a Row's box. Plain lemmas. -/
import Derived.Test.YtoedcklgpmhnnaaIsRow
namespace Go.Proofs.Ytoedcklgpmhnnaa
open Go.RowKit

theorem notin_snoc {xs : List Int} {k : Nat} {x : Int} (h : x ∉ xs.take k) (hk : k < xs.length) (hx : ¬ xs[k]?.getD 0 = x) : x ∉ xs.take (k + 1) := by
  rw [List.take_succ_eq_append_getElem hk, List.mem_append, List.mem_singleton]
  rintro (h1 | h1)
  · exact h h1
  · apply hx; rw [h1, List.getElem?_eq_getElem hk]; rfl
theorem getD_mem' {xs : List Int} {k : Nat} {x : Int} (hk : k < xs.length) (hx : xs[k]?.getD 0 = x) : x ∈ xs := by
  rw [← hx, List.getElem?_eq_getElem hk]; exact List.getElem_mem hk
theorem has_false {xs : List Int} {k : Nat} {x : Int} (h : x ∉ xs.take k) (hk : xs.length ≤ k) : decide (x ∈ xs) = false := by
  rw [List.take_of_length_le hk] at h; simpa using h
theorem has_true {xs : List Int} {x : Int} (h : x ∈ xs) : decide (x ∈ xs) = true := by simpa using h

theorem box_below (w : World) (s : Int) (ring : Bool) (p : Option Addr) (n cap : Nat) (t : TypeId) : Below w.heap.size w (w.alloc (.cells #[Value.int .i64 s, Value.bool ring, Value.slice p n cap] t)) := (Below.refl _ _).alloc (Nat.le_refl _) _
end Go.Proofs.Ytoedcklgpmhnnaa
