/- impl's neighbors: nearM, for every valid Row. -/
import Derived.Test.YtidiljnonbkpjaaNb
namespace Go.Proofs.Ytidiljnonbkpjaa
open Go.RowKit

theorem nearI_any (n : Nat) (ring : Bool) (p : Option Addr) (m cap : Nat) (a : Nat) (w : World) (h2 : 2 ≤ n) (hn : n ≤ 24) (h3 : ring = true → 3 ≤ n) (ha : a < n) :
    Calls Try.prog 102 #[rowV n ring p m cap, .int .i64 a] w fun e w' => ∃ v, e = .returned v ∧ Out w.heap.size w' v (ints (nearM n ring a)) ∧ Below w.heap.size w w' := by
  cases ring with
  | true => exact neighbors_ring n p m cap a w hn (h3 rfl) ha
  | false => exact neighbors_line n p m cap a w hn h2 ha
end Go.Proofs.Ytidiljnonbkpjaa
