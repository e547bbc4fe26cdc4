/- Lonely seats, as mathematics. Plain lemmas. -/
import Derived.Test.YtidiljnonbkpjaaRowMath
namespace Go.Proofs.Ytidiljnonbkpjaa

def lonM (n : Nat) (ring : Bool) (S : Nat → Bool) (p : Nat) : Bool := !S p && (nearM n ring p).all fun q => !S q
theorem lon_tk (n : Nat) (ring : Bool) (S : Nat → Bool) : (tk n fun q => !S q).filter (fun p => (nearM n ring p).all fun q => !S q) = tk n (lonM n ring S) := by
  unfold tk lonM
  rw [List.filter_filter]
  apply List.filter_congr
  intro x _
  exact Bool.and_comm _ _
theorem lon_any (n : Nat) (ring : Bool) (S : Nat → Bool) (p : Nat) (h : S p = false) : lonM n ring S p = !((nearM n ring p).any S) := by
  unfold lonM
  rw [h]
  simp only [Bool.not_false, Bool.true_and]
  rw [List.not_any_eq_all_not]
theorem any_take {S : Nat → Bool} {l : List Nat} {k : Nat} (h : k < l.length) : (l.take (k + 1)).any S = ((l.take k).any S || S (l[k]?.getD 0)) := by
  rw [List.take_succ_eq_append_getElem h, List.any_append, List.getElem?_eq_getElem h]
  simp
end Go.Proofs.Ytidiljnonbkpjaa
