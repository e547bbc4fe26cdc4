/- The witness' world of the rows that list the library's three tables, and what the list gives the walks. -/
import Derived.Test.YtnbpdgkpamgcfaaDoorCards
import Derived.Test.YtnbpdgkpamgcfaaDoorTie
import Derived.Test.YtnbpdgkpamgcfaaDoorFrame
import Derived.Test.YtnbpdgkpamgcfaaDoorFmt
import Derived.Lib.LaidTab
import Derived.Stop.LaidErr
namespace Go.Proofs.YtnbpdgkpamgcfaaDoor
open Go.ChangeShapes Go.WideShapes Go.ChangeAt Go.RowKit

theorem doorOwn : ownKnob Tryd.prog.godebug = none := by kernel_rfl
theorem doorOut : laidOutB Tryd.prog = true := by kernel_rfl
def tabCells (d : DataW Unit) : Array Value := match d with
  | .agg l => (l.map fun x => match x with | .lit (.int k n) => Value.int k n | _ => Value.int .u8 0).toArray
  | _ => #[]
def layTab (d : DataW Unit) : Obj → Obj
  | .cells _ t frozen => .cells (tabCells d) t frozen
  | o => o
/-- the settled world, the three tables holding what their initialisers lay -/
noncomputable def tabWorld (os : Os) : World :=
  { World.holding Tryd.prog os ⟨#[], #[], []⟩ with heap := (((World.holding Tryd.prog os ⟨#[], #[], []⟩).heap.modify 4 (layTab Rows.laid_math_bits_deBruijn32tab)).modify 5 (layTab Rows.laid_math_bits_deBruijn64tab)).modify 1 (layTab Rows.laid_internal_strconv_uint64pow10) }
theorem pow_is : (Rows.laid_internal_strconv_uint64pow10 : DataW Unit) = Lib.tabData .u64 Lib.pow10Tab := by kernel_rfl
theorem powType : (Tryd.prog.globals[1]?).map (·.type) = some 92 := by kernel_rfl
theorem powCells : Tryd.prog.cellsOf 92 = 20 := by kernel_rfl
theorem u64Cells : Tryd.prog.cellsOf 46 = 1 := by kernel_rfl
theorem tabs_of {W : World} (h : laidMetH Tryd.prog Rows.fnExactFormatIntRow.laid W) : TabOk W := by
  have h1 : laidMet Tryd.prog [("math/bits.deBruijn32tab", Rows.laid_math_bits_deBruijn32tab), ("math/bits.deBruijn64tab", Rows.laid_math_bits_deBruijn64tab), ("internal/strconv.uint64pow10", Rows.laid_internal_strconv_uint64pow10)] W := h
  have h2 := laidMet.tail (laidMet.tail h1)
  rw [pow_is] at h2
  exact tabOk_of (Lib.tabIs_of_head (rest := []) gPow powType Tryd.underlying92 Tryd.underlying46 u64Cells powCells h2)
end Go.Proofs.YtnbpdgkpamgcfaaDoor
