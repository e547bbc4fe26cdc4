/- A Row among a law's arguments, opened: its fields and the numbers that its slice shows. No condition. -/
import Derived.Test.YtkbpfjhikabbmaaRowHelp
import Derived.Lib.SmallJoins
namespace Go.Proofs.Ytkbpfjhikabbmaa
open Go.Joins Go.ChangeShapes Go.WideShapes Go.RowKit Go.Deep

theorem cellsInt : Try.prog.cellsOf 3 = 1 := by kernel_rfl

theorem lit_i64 {z : Int} (h : (Lit.int .i64 z).wf = true) : -9223372036854775808 ≤ z ∧ z ≤ 9223372036854775807 := by
  have e1 : IntKind.i64.min = -9223372036854775808 := by decide
  have e2 : IntKind.i64.max = 9223372036854775807 := by decide
  simp only [Lit.wf, Bool.and_eq_true, decide_eq_true_eq, e1, e2] at h
  exact h

end Go.Proofs.Ytkbpfjhikabbmaa
