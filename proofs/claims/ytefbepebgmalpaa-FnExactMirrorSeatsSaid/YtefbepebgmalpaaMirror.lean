/- Small facts for spec.MirrorSeats. -/
import Derived.Test.YtefbepebgmalpaaNe
import Derived.Test.YtefbepebgmalpaaMade
namespace Go.Proofs.Ytefbepebgmalpaa
open Go.RowKit

theorem mirror_get {n : Nat} {l : List Nat} {j : Nat} (h : j < l.length) : ((ints l).reverse.map (fun x => (n : Int) - 1 - x))[j]?.getD 0 = (n : Int) - 1 - ((l[l.length - 1 - j]?.getD 0 : Nat) : Int) := by
  have h1 : j < (ints l).length := by rw [ints_length]; exact h
  rw [List.getElem?_map, List.getElem?_reverse h1, ints_length]
  have h2 : l.length - 1 - j < l.length := by omega
  simp [ints, h2]
theorem take_next {L : List Int} {j : Nat} {x : Int} (h : j < L.length) (hx : L[j]?.getD 0 = x) : L.take (j + 1) = L.take j ++ [x] := by
  rw [List.take_succ_eq_append_getElem h, ← hx, List.getElem?_eq_getElem h]; rfl

end Go.Proofs.Ytefbepebgmalpaa
