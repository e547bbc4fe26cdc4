/- A Row filled by an order: mathematics. Plain lemmas. -/
import Derived.Test.YtidiljnonbkpjaaLonM
import Derived.Test.YtidiljnonbkpjaaMade0
namespace Go.Proofs.Ytidiljnonbkpjaa
open Go.RowKit

/-- one seat more of an order -/
def fillS (n : Nat) (ring : Bool) (S : Nat → Bool) (p : Nat) : Nat → Bool := if lonM n ring S p = true then (fun i => if i = p then true else S i) else S
/-- a Row filled by an order -/
def fillM (n : Nat) (ring : Bool) (S : Nat → Bool) (l : List Nat) : Nat → Bool := l.foldl (fillS n ring) S
theorem fillM_step (n : Nat) (ring : Bool) (S : Nat → Bool) {l : List Nat} {j : Nat} (h : j < l.length) :
    fillM n ring S (l.take (j + 1)) = if lonM n ring (fillM n ring S (l.take j)) (l[j]?.getD 0) = true then (fun i => if i = l[j]?.getD 0 then true else fillM n ring S (l.take j) i) else fillM n ring S (l.take j) := by
  rw [List.take_succ_eq_append_getElem h, List.getElem?_eq_getElem h]
  unfold fillM
  rw [List.foldl_append]
  rfl
theorem Beg.bel2 {w : World} {n : Int} {ring : Bool} {p : Option Addr} {m cap : Nat} {wb : World} (_ : Beg w n ring p m cap wb) : Below (w.heap.size + 2) wb wb := Below.refl _ _
theorem Out.riP {B : Nat} {w : World} {q : Option Addr} {k c : Nat} {xs : List Int} (h : Out B w (.slice q k c) xs) : Ri B w.heap.size w q xs := by
  obtain ⟨p', c', e, -, -, h, -⟩ := h.rd
  simp only [Value.slice.injEq] at e
  obtain ⟨rfl, -⟩ := e
  exact h
end Go.Proofs.Ytidiljnonbkpjaa
