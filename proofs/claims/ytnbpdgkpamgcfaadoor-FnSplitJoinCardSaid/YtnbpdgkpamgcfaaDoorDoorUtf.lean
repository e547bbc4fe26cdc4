/- The witness' world of the rows that list unicode/utf8's two tables. -/
import Derived.Test.YtnbpdgkpamgcfaaDoorDoorTab
namespace Go.Proofs.YtnbpdgkpamgcfaaDoor
open Go.ChangeShapes Go.WideShapes Go.ChangeAt Go.RowKit

def utfLit (x : DataW Unit) : Value := match x with | .lit (.int k n) => Value.int k n | _ => Value.int .u8 0
def utfFlat (x : DataW Unit) : List Value := match x with | .agg l => l.map utfLit | y => [utfLit y]
def utfCells (d : DataW Unit) : Array Value := match d with | .agg l => (l.flatMap utfFlat).toArray | _ => #[]
def layUtf (d : DataW Unit) : Obj → Obj
  | .cells _ t frozen => .cells (utfCells d) t frozen
  | o => o
/-- the settled world, the two tables holding what their initialisers lay -/
noncomputable def utfWorld (os : Os) : World :=
  { World.holding Tryd.prog os ⟨#[], #[], []⟩ with heap := ((World.holding Tryd.prog os ⟨#[], #[], []⟩).heap.modify 3 (layUtf Rows.laid_unicode_utf8_acceptRanges)).modify 2 (layUtf Rows.laid_unicode_utf8_first) }
end Go.Proofs.YtnbpdgkpamgcfaaDoor
