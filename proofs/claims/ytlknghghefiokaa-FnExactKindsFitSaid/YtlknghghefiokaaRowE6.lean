/- What a call holds that boxes a Row. Plain lemmas. -/
import Derived.Test.YtlknghghefiokaaRowHelp
import Derived.Test.YtlknghghefiokaaHas0
import Derived.Test.YtlknghghefiokaaOut
namespace Go.Proofs.Ytlknghghefiokaa
open Go.RowKit

theorem Rd.pfxK {lo hi : Nat} {w : World} {p : Option Addr} {xs : List Int} (h : Ri lo hi w p xs) (k : Nat) : Ri lo hi w p (xs.take k) := by
  have := Rd.pfx h k
  unfold iv at this
  rw [← List.map_take] at this
  exact this
/-- a call with a Row of its own -/
structure RowE (w : World) (s : Int) (ring : Bool) (p : Option Addr) (m cap : Nat) (wr : World) : Prop where
  row : OwnArr wr w.heap.size 36 [.int .i64 s, .bool ring, .slice p m cap]
  bel : Below w.heap.size w wr
theorem RowE.start (w : World) (s : Int) (ring : Bool) (p : Option Addr) (m cap : Nat) : RowE w s ring p m cap (w.alloc (.cells #[.int .i64 s, .bool ring, .slice p m cap] 36)) :=
  ⟨OwnArr.made w _ [_, _, _], box_below w s ring p m cap _⟩
theorem RowE.next {w : World} {s : Int} {ring : Bool} {p : Option Addr} {m cap : Nat} {wr w' : World} (h : RowE w s ring p m cap wr) (hb : Below wr.heap.size wr w') : RowE w s ring p m cap w' :=
  ⟨h.row.below hb h.row.lt, h.bel.trans (hb.mono h.bel.size)⟩
theorem RowE.next1 {w : World} {s : Int} {ring : Bool} {p : Option Addr} {m cap : Nat} {wr w' : World} (h : RowE w s ring p m cap wr) (hb : Below (w.heap.size + 1) wr w') : RowE w s ring p m cap w' :=
  ⟨h.row.below hb (Nat.lt_succ_self _), h.bel.trans (hb.mono (Nat.le_succ _))⟩
end Go.Proofs.Ytlknghghefiokaa
