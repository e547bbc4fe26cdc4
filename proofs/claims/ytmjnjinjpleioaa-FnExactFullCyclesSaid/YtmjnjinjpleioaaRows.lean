/-
  No cell of these rows narrows 'for every input' (looked for: loops, veiled, ifaces, maps, wideKeys, modest, calm, conditions, laid).
  DERIVED. THE GIVEN ROWS OF THIS SEAT. 6 by the template 'for every input the law returns true; each argument reads behind the call as it read before'; 0 by the template 'total and deterministic' (their statements: YtmjnjinjpleioaaTotals.lean).
  GIVEN WITH THE SEED: the statements are not yours to turn. If you find one false, say at which input.
  Laid BY PROGRAM, IN A SANDBOX (cutbox-rows.mjs): the forced cells as the released guide's own fill.sh prints them over the translation 5e8d763c2913f420… (all of the seat's roots in one cut). By AI agents, Wed Nov 11 2026. No macro, syntax, notation, axiom, sorry.
-/
import Derived.Test.YtmjnjinjpleioaaChecked
import GoSem.Claim
import GoSem.ClaimJoined
import GoSem.ClaimMapViews
import Derived.JoinedTies
import Derived.KernelRfl
namespace Go.Proofs.Ytmjnjinjpleioaa
/- THE CELL 'sum', in the pinned program and in every row, IS THE sha256 OF THE DUMP (.gsa) THAT YtmjnjinjpleioaaProg.lean LOADS. Nothing in Lean hashes anything: it is a label: what it is worth is what the hold of that sum in a sandbox is worth. -/
noncomputable def Try.pinned : Pinned := { name := "ytmjnjinjpleioaa", sum := "5e8d763c2913f42044e11454e9ed4b070b6c40c05d5a6e6e776b2dab415943d7", checked := Try.checked }
namespace Rows
def none {H : Type} : Left H := { results := [], args := [] }

/-- 'laws.FnExactMovesOf': WHATEVER THE INPUT: true; the input reads as it did. -/
def fnExactMovesOfSpec : ChangeSpec := { name := "fnExactMovesOf", fn := fun _ => fun
  | [d1, d2, d3] => { results := [.lit (.bool true)], args := [d1, d2, d3] }
  | _ => none }
def fnExactMovesOfRow : OpenClaim := { program := "ytmjnjinjpleioaa", sum := "5e8d763c2913f42044e11454e9ed4b070b6c40c05d5a6e6e776b2dab415943d7", func := "loop.example/g01167/laws.FnExactMovesOf", spec := "fnExactMovesOf", apart := false }
def FnExactMovesOfSaid : Prop := fnExactMovesOfRow.holds Try.pinned (OpenSpec.ofChange fnExactMovesOfSpec)

/-- ITS FALSE NEIGHBOUR: 'it returns false'. Refute it at one input. -/
def fnExactMovesOfWrong : ChangeSpec := { name := "fnExactMovesOf", fn := fun _ => fun
  | [d1, d2, d3] => { results := [.lit (.bool false)], args := [d1, d2, d3] }
  | _ => none }
def FnExactMovesOfWrongFalsely : Prop := fnExactMovesOfRow.holds Try.pinned (OpenSpec.ofChange fnExactMovesOfWrong)

/-- 'laws.FnExactTrailOf': WHATEVER THE INPUT: true; the input reads as it did. -/
def fnExactTrailOfSpec : ChangeSpec := { name := "fnExactTrailOf", fn := fun _ => fun
  | [d1, d2, d3, d4] => { results := [.lit (.bool true)], args := [d1, d2, d3, d4] }
  | _ => none }
def fnExactTrailOfRow : OpenClaim := { program := "ytmjnjinjpleioaa", sum := "5e8d763c2913f42044e11454e9ed4b070b6c40c05d5a6e6e776b2dab415943d7", func := "loop.example/g01167/laws.FnExactTrailOf", spec := "fnExactTrailOf", apart := false }
def FnExactTrailOfSaid : Prop := fnExactTrailOfRow.holds Try.pinned (OpenSpec.ofChange fnExactTrailOfSpec)

/-- ITS FALSE NEIGHBOUR: 'it returns false'. Refute it at one input. -/
def fnExactTrailOfWrong : ChangeSpec := { name := "fnExactTrailOf", fn := fun _ => fun
  | [d1, d2, d3, d4] => { results := [.lit (.bool false)], args := [d1, d2, d3, d4] }
  | _ => none }
def FnExactTrailOfWrongFalsely : Prop := fnExactTrailOfRow.holds Try.pinned (OpenSpec.ofChange fnExactTrailOfWrong)

/-- 'laws.FnExactFreeWhen': WHATEVER THE INPUT: true; the input reads as it did. -/
def fnExactFreeWhenSpec : ChangeSpec := { name := "fnExactFreeWhen", fn := fun _ => fun
  | [d1, d2, d3, d4] => { results := [.lit (.bool true)], args := [d1, d2, d3, d4] }
  | _ => none }
def fnExactFreeWhenRow : OpenClaim := { program := "ytmjnjinjpleioaa", sum := "5e8d763c2913f42044e11454e9ed4b070b6c40c05d5a6e6e776b2dab415943d7", func := "loop.example/g01167/laws.FnExactFreeWhen", spec := "fnExactFreeWhen", apart := false }
def FnExactFreeWhenSaid : Prop := fnExactFreeWhenRow.holds Try.pinned (OpenSpec.ofChange fnExactFreeWhenSpec)

/-- ITS FALSE NEIGHBOUR: 'it returns false'. Refute it at one input. -/
def fnExactFreeWhenWrong : ChangeSpec := { name := "fnExactFreeWhen", fn := fun _ => fun
  | [d1, d2, d3, d4] => { results := [.lit (.bool false)], args := [d1, d2, d3, d4] }
  | _ => none }
def FnExactFreeWhenWrongFalsely : Prop := fnExactFreeWhenRow.holds Try.pinned (OpenSpec.ofChange fnExactFreeWhenWrong)

/-- 'laws.FnExactFullCycles': WHATEVER THE INPUT: true; the input reads as it did. -/
def fnExactFullCyclesSpec : ChangeSpec := { name := "fnExactFullCycles", fn := fun _ => fun
  | [d1, d2, d3] => { results := [.lit (.bool true)], args := [d1, d2, d3] }
  | _ => none }
def fnExactFullCyclesRow : OpenClaim := { program := "ytmjnjinjpleioaa", sum := "5e8d763c2913f42044e11454e9ed4b070b6c40c05d5a6e6e776b2dab415943d7", func := "loop.example/g01167/laws.FnExactFullCycles", spec := "fnExactFullCycles", apart := false }
def FnExactFullCyclesSaid : Prop := fnExactFullCyclesRow.holds Try.pinned (OpenSpec.ofChange fnExactFullCyclesSpec)

/-- ITS FALSE NEIGHBOUR: 'it returns false'. Refute it at one input. -/
def fnExactFullCyclesWrong : ChangeSpec := { name := "fnExactFullCycles", fn := fun _ => fun
  | [d1, d2, d3] => { results := [.lit (.bool false)], args := [d1, d2, d3] }
  | _ => none }
def FnExactFullCyclesWrongFalsely : Prop := fnExactFullCyclesRow.holds Try.pinned (OpenSpec.ofChange fnExactFullCyclesWrong)

/-- 'laws.FnExactAllSeatings': WHATEVER THE INPUT: true; the input reads as it did. -/
def fnExactAllSeatingsSpec : ChangeSpec := { name := "fnExactAllSeatings", fn := fun _ => fun
  | [d1, d2] => { results := [.lit (.bool true)], args := [d1, d2] }
  | _ => none }
def fnExactAllSeatingsRow : OpenClaim := { program := "ytmjnjinjpleioaa", sum := "5e8d763c2913f42044e11454e9ed4b070b6c40c05d5a6e6e776b2dab415943d7", func := "loop.example/g01167/laws.FnExactAllSeatings", spec := "fnExactAllSeatings", unfollowed := true, recurses := true, apart := false }
def FnExactAllSeatingsSaid : Prop := fnExactAllSeatingsRow.holds Try.pinned (OpenSpec.ofChange fnExactAllSeatingsSpec)

/-- ITS FALSE NEIGHBOUR: 'it returns false'. Refute it at one input. -/
def fnExactAllSeatingsWrong : ChangeSpec := { name := "fnExactAllSeatings", fn := fun _ => fun
  | [d1, d2] => { results := [.lit (.bool false)], args := [d1, d2] }
  | _ => none }
def FnExactAllSeatingsWrongFalsely : Prop := fnExactAllSeatingsRow.holds Try.pinned (OpenSpec.ofChange fnExactAllSeatingsWrong)

/-- 'laws.FnExactOwnTable': WHATEVER THE INPUT: true; the input reads as it did. -/
def fnExactOwnTableSpec : ChangeSpec := { name := "fnExactOwnTable", fn := fun _ => fun
  | [d1, d2] => { results := [.lit (.bool true)], args := [d1, d2] }
  | _ => none }
def fnExactOwnTableRow : OpenClaim := { program := "ytmjnjinjpleioaa", sum := "5e8d763c2913f42044e11454e9ed4b070b6c40c05d5a6e6e776b2dab415943d7", func := "loop.example/g01167/laws.FnExactOwnTable", spec := "fnExactOwnTable", unfollowed := true, recurses := true, apart := false }
def FnExactOwnTableSaid : Prop := fnExactOwnTableRow.holds Try.pinned (OpenSpec.ofChange fnExactOwnTableSpec)

/-- ITS FALSE NEIGHBOUR: 'it returns false'. Refute it at one input. -/
def fnExactOwnTableWrong : ChangeSpec := { name := "fnExactOwnTable", fn := fun _ => fun
  | [d1, d2] => { results := [.lit (.bool false)], args := [d1, d2] }
  | _ => none }
def FnExactOwnTableWrongFalsely : Prop := fnExactOwnTableRow.holds Try.pinned (OpenSpec.ofChange fnExactOwnTableWrong)

/- THE SECOND FORM. 'bulk': how many values and letters a reading holds, each counted each time it is reached (what is shared counts as often as it is met; a slice's spare places count too). A statement '..UptoSaid' is the law's where the arguments, and the package variables that the reading takes, are together of bulk at most 1048576: NARROWER than '..Said'. Prove '..Said' where nothing that the law and all that it calls make is longer than what came in: it says more and counts as full. Else prove '..UptoSaid'. A law counts once. -/
mutual
def uptoBulk {H : Type} : DataW H → Nat
  | .lit (.string bytes) => bytes.length + 1
  | .lit _ => 1
  | .nil => 1
  | .ptr d => uptoBulk d + 1
  | .slice elems spare => uptoBulkAll elems + uptoBulkAll spare + 1
  | .agg parts => uptoBulkAll parts + 1
  | .iface _ d => uptoBulk d + 1
  | .map entries => uptoBulkEntries entries + 1
  | .held _ => 1
def uptoBulkAll {H : Type} : List (DataW H) → Nat
  | [] => 0
  | d :: r => uptoBulk d + uptoBulkAll r
def uptoBulkEntries {H : Type} : List (Lit × DataW H) → Nat
  | [] => 0
  | x :: r => uptoBulkEntry x + uptoBulkEntries r
def uptoBulkEntry {H : Type} : Lit × DataW H → Nat
  | (.string bytes, d) => bytes.length + uptoBulk d + 1
  | (_, d) => uptoBulk d + 1
 end
def uptoSmall : (H : Type) → List (DataW H) → Bool := fun _ ds => decide (uptoBulkAll ds ≤ 1048576)
def OpenSpec.upto (s : _root_.Go.ChangeSpec) : _root_.Go.OpenSpec := { _root_.Go.OpenSpec.ofChange s with cond := some uptoSmall }

/-- 'laws.FnExactMovesOf', WHERE WHAT IT READS IS OF BULK AT MOST 1048576: true; the input reads as it did. -/
def fnExactMovesOfUptoRow : OpenClaim := { program := "ytmjnjinjpleioaa", sum := "5e8d763c2913f42044e11454e9ed4b070b6c40c05d5a6e6e776b2dab415943d7", func := "loop.example/g01167/laws.FnExactMovesOf", spec := "fnExactMovesOf", apart := false, narrowed := true }
def FnExactMovesOfUptoSaid : Prop := fnExactMovesOfUptoRow.holds Try.pinned (OpenSpec.upto fnExactMovesOfSpec)

/-- 'laws.FnExactTrailOf', WHERE WHAT IT READS IS OF BULK AT MOST 1048576: true; the input reads as it did. -/
def fnExactTrailOfUptoRow : OpenClaim := { program := "ytmjnjinjpleioaa", sum := "5e8d763c2913f42044e11454e9ed4b070b6c40c05d5a6e6e776b2dab415943d7", func := "loop.example/g01167/laws.FnExactTrailOf", spec := "fnExactTrailOf", apart := false, narrowed := true }
def FnExactTrailOfUptoSaid : Prop := fnExactTrailOfUptoRow.holds Try.pinned (OpenSpec.upto fnExactTrailOfSpec)

/-- 'laws.FnExactFreeWhen', WHERE WHAT IT READS IS OF BULK AT MOST 1048576: true; the input reads as it did. -/
def fnExactFreeWhenUptoRow : OpenClaim := { program := "ytmjnjinjpleioaa", sum := "5e8d763c2913f42044e11454e9ed4b070b6c40c05d5a6e6e776b2dab415943d7", func := "loop.example/g01167/laws.FnExactFreeWhen", spec := "fnExactFreeWhen", apart := false, narrowed := true }
def FnExactFreeWhenUptoSaid : Prop := fnExactFreeWhenUptoRow.holds Try.pinned (OpenSpec.upto fnExactFreeWhenSpec)

/-- 'laws.FnExactFullCycles', WHERE WHAT IT READS IS OF BULK AT MOST 1048576: true; the input reads as it did. -/
def fnExactFullCyclesUptoRow : OpenClaim := { program := "ytmjnjinjpleioaa", sum := "5e8d763c2913f42044e11454e9ed4b070b6c40c05d5a6e6e776b2dab415943d7", func := "loop.example/g01167/laws.FnExactFullCycles", spec := "fnExactFullCycles", apart := false, narrowed := true }
def FnExactFullCyclesUptoSaid : Prop := fnExactFullCyclesUptoRow.holds Try.pinned (OpenSpec.upto fnExactFullCyclesSpec)

/-- 'laws.FnExactAllSeatings', WHERE WHAT IT READS IS OF BULK AT MOST 1048576: true; the input reads as it did. -/
def fnExactAllSeatingsUptoRow : OpenClaim := { program := "ytmjnjinjpleioaa", sum := "5e8d763c2913f42044e11454e9ed4b070b6c40c05d5a6e6e776b2dab415943d7", func := "loop.example/g01167/laws.FnExactAllSeatings", spec := "fnExactAllSeatings", unfollowed := true, recurses := true, apart := false, narrowed := true }
def FnExactAllSeatingsUptoSaid : Prop := fnExactAllSeatingsUptoRow.holds Try.pinned (OpenSpec.upto fnExactAllSeatingsSpec)

/-- 'laws.FnExactOwnTable', WHERE WHAT IT READS IS OF BULK AT MOST 1048576: true; the input reads as it did. -/
def fnExactOwnTableUptoRow : OpenClaim := { program := "ytmjnjinjpleioaa", sum := "5e8d763c2913f42044e11454e9ed4b070b6c40c05d5a6e6e776b2dab415943d7", func := "loop.example/g01167/laws.FnExactOwnTable", spec := "fnExactOwnTable", unfollowed := true, recurses := true, apart := false, narrowed := true }
def FnExactOwnTableUptoSaid : Prop := fnExactOwnTableUptoRow.holds Try.pinned (OpenSpec.upto fnExactOwnTableSpec)

end Rows
end Go.Proofs.Ytmjnjinjpleioaa
