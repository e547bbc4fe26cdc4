/-
  No cell of these rows narrows 'for every input' (looked for: loops, veiled, ifaces, maps, wideKeys, modest, calm, conditions, laid).
  DERIVED. THE GIVEN ROWS OF THIS SEAT. 6 by the template 'for every input the law returns true; each argument reads behind the call as it read before'; 0 by the template 'total and deterministic' (their statements: YtoedcklgpmhnnaaTotals.lean).
  GIVEN WITH THE SEED: the statements are not yours to turn. If you find one false, say at which input.
  Laid BY PROGRAM, IN A SANDBOX (cutbox-rows.mjs): the forced cells as the released guide's own fill.sh prints them over the translation c85b25004c57d0dd… (all of the seat's roots in one cut). By AI agents, Wed Nov 11 2026. No macro, syntax, notation, axiom, sorry.
-/
import Derived.Test.YtoedcklgpmhnnaaChecked
import GoSem.Claim
import GoSem.ClaimJoined
import GoSem.ClaimMapViews
import Derived.JoinedTies
import Derived.KernelRfl
namespace Go.Proofs.Ytoedcklgpmhnnaa
/- THE CELL 'sum', in the pinned program and in every row, IS THE sha256 OF THE DUMP (.gsa) THAT YtoedcklgpmhnnaaProg.lean LOADS. Nothing in Lean hashes anything: it is a label: what it is worth is what the hold of that sum in a sandbox is worth. -/
noncomputable def Try.pinned : Pinned := { name := "ytoedcklgpmhnnaa", sum := "c85b25004c57d0dd82075ffa678038aeba11bb5c514310f3d3fe487780b2da95", checked := Try.checked }
namespace Rows
def none {H : Type} : Left H := { results := [], args := [] }

/-- 'laws.FnExactIsSpaced': WHATEVER THE INPUT: true; the input reads as it did. -/
def fnExactIsSpacedSpec : ChangeSpec := { name := "fnExactIsSpaced", fn := fun _ => fun
  | [d1, d2, d3] => { results := [.lit (.bool true)], args := [d1, d2, d3] }
  | _ => none }
def fnExactIsSpacedRow : OpenClaim := { program := "ytoedcklgpmhnnaa", sum := "c85b25004c57d0dd82075ffa678038aeba11bb5c514310f3d3fe487780b2da95", func := "loop.example/g01167/laws.FnExactIsSpaced", spec := "fnExactIsSpaced", unfollowed := true, recurses := true, apart := false }
def FnExactIsSpacedSaid : Prop := fnExactIsSpacedRow.holds Try.pinned (OpenSpec.ofChange fnExactIsSpacedSpec)

/-- ITS FALSE NEIGHBOUR: 'it returns false'. Refute it at one input. -/
def fnExactIsSpacedWrong : ChangeSpec := { name := "fnExactIsSpaced", fn := fun _ => fun
  | [d1, d2, d3] => { results := [.lit (.bool false)], args := [d1, d2, d3] }
  | _ => none }
def FnExactIsSpacedWrongFalsely : Prop := fnExactIsSpacedRow.holds Try.pinned (OpenSpec.ofChange fnExactIsSpacedWrong)

/-- 'laws.FnExactCountSpaced': WHATEVER THE INPUT: true; the input reads as it did. -/
def fnExactCountSpacedSpec : ChangeSpec := { name := "fnExactCountSpaced", fn := fun _ => fun
  | [d1, d2, d3] => { results := [.lit (.bool true)], args := [d1, d2, d3] }
  | _ => none }
def fnExactCountSpacedRow : OpenClaim := { program := "ytoedcklgpmhnnaa", sum := "c85b25004c57d0dd82075ffa678038aeba11bb5c514310f3d3fe487780b2da95", func := "loop.example/g01167/laws.FnExactCountSpaced", spec := "fnExactCountSpaced", unfollowed := true, recurses := true, apart := false }
def FnExactCountSpacedSaid : Prop := fnExactCountSpacedRow.holds Try.pinned (OpenSpec.ofChange fnExactCountSpacedSpec)

/-- ITS FALSE NEIGHBOUR: 'it returns false'. Refute it at one input. -/
def fnExactCountSpacedWrong : ChangeSpec := { name := "fnExactCountSpaced", fn := fun _ => fun
  | [d1, d2, d3] => { results := [.lit (.bool false)], args := [d1, d2, d3] }
  | _ => none }
def FnExactCountSpacedWrongFalsely : Prop := fnExactCountSpacedRow.holds Try.pinned (OpenSpec.ofChange fnExactCountSpacedWrong)

/-- 'laws.FnExactFirstSpaced': WHATEVER THE INPUT: true; the input reads as it did. -/
def fnExactFirstSpacedSpec : ChangeSpec := { name := "fnExactFirstSpaced", fn := fun _ => fun
  | [d1, d2, d3] => { results := [.lit (.bool true)], args := [d1, d2, d3] }
  | _ => none }
def fnExactFirstSpacedRow : OpenClaim := { program := "ytoedcklgpmhnnaa", sum := "c85b25004c57d0dd82075ffa678038aeba11bb5c514310f3d3fe487780b2da95", func := "loop.example/g01167/laws.FnExactFirstSpaced", spec := "fnExactFirstSpaced", unfollowed := true, recurses := true, apart := false }
def FnExactFirstSpacedSaid : Prop := fnExactFirstSpacedRow.holds Try.pinned (OpenSpec.ofChange fnExactFirstSpacedSpec)

/-- ITS FALSE NEIGHBOUR: 'it returns false'. Refute it at one input. -/
def fnExactFirstSpacedWrong : ChangeSpec := { name := "fnExactFirstSpaced", fn := fun _ => fun
  | [d1, d2, d3] => { results := [.lit (.bool false)], args := [d1, d2, d3] }
  | _ => none }
def FnExactFirstSpacedWrongFalsely : Prop := fnExactFirstSpacedRow.holds Try.pinned (OpenSpec.ofChange fnExactFirstSpacedWrong)

/-- 'laws.FnExactMostSpaced': WHATEVER THE INPUT: true; the input reads as it did. -/
def fnExactMostSpacedSpec : ChangeSpec := { name := "fnExactMostSpaced", fn := fun _ => fun
  | [d1, d2] => { results := [.lit (.bool true)], args := [d1, d2] }
  | _ => none }
def fnExactMostSpacedRow : OpenClaim := { program := "ytoedcklgpmhnnaa", sum := "c85b25004c57d0dd82075ffa678038aeba11bb5c514310f3d3fe487780b2da95", func := "loop.example/g01167/laws.FnExactMostSpaced", spec := "fnExactMostSpaced", unfollowed := true, recurses := true, apart := false }
def FnExactMostSpacedSaid : Prop := fnExactMostSpacedRow.holds Try.pinned (OpenSpec.ofChange fnExactMostSpacedSpec)

/-- ITS FALSE NEIGHBOUR: 'it returns false'. Refute it at one input. -/
def fnExactMostSpacedWrong : ChangeSpec := { name := "fnExactMostSpaced", fn := fun _ => fun
  | [d1, d2] => { results := [.lit (.bool false)], args := [d1, d2] }
  | _ => none }
def FnExactMostSpacedWrongFalsely : Prop := fnExactMostSpacedRow.holds Try.pinned (OpenSpec.ofChange fnExactMostSpacedWrong)

/-- 'laws.FnExactGreatestSpread': WHATEVER THE INPUT: true; the input reads as it did. -/
def fnExactGreatestSpreadSpec : ChangeSpec := { name := "fnExactGreatestSpread", fn := fun _ => fun
  | [d1, d2] => { results := [.lit (.bool true)], args := [d1, d2] }
  | _ => none }
def fnExactGreatestSpreadRow : OpenClaim := { program := "ytoedcklgpmhnnaa", sum := "c85b25004c57d0dd82075ffa678038aeba11bb5c514310f3d3fe487780b2da95", func := "loop.example/g01167/laws.FnExactGreatestSpread", spec := "fnExactGreatestSpread", unfollowed := true, recurses := true, apart := false }
def FnExactGreatestSpreadSaid : Prop := fnExactGreatestSpreadRow.holds Try.pinned (OpenSpec.ofChange fnExactGreatestSpreadSpec)

/-- ITS FALSE NEIGHBOUR: 'it returns false'. Refute it at one input. -/
def fnExactGreatestSpreadWrong : ChangeSpec := { name := "fnExactGreatestSpread", fn := fun _ => fun
  | [d1, d2] => { results := [.lit (.bool false)], args := [d1, d2] }
  | _ => none }
def FnExactGreatestSpreadWrongFalsely : Prop := fnExactGreatestSpreadRow.holds Try.pinned (OpenSpec.ofChange fnExactGreatestSpreadWrong)

/-- 'laws.FnExactBestWorth': WHATEVER THE INPUT: true; the input reads as it did. -/
def fnExactBestWorthSpec : ChangeSpec := { name := "fnExactBestWorth", fn := fun _ => fun
  | [d1, d2, d3] => { results := [.lit (.bool true)], args := [d1, d2, d3] }
  | _ => none }
def fnExactBestWorthRow : OpenClaim := { program := "ytoedcklgpmhnnaa", sum := "c85b25004c57d0dd82075ffa678038aeba11bb5c514310f3d3fe487780b2da95", func := "loop.example/g01167/laws.FnExactBestWorth", spec := "fnExactBestWorth", unfollowed := true, recurses := true, apart := false }
def FnExactBestWorthSaid : Prop := fnExactBestWorthRow.holds Try.pinned (OpenSpec.ofChange fnExactBestWorthSpec)

/-- ITS FALSE NEIGHBOUR: 'it returns false'. Refute it at one input. -/
def fnExactBestWorthWrong : ChangeSpec := { name := "fnExactBestWorth", fn := fun _ => fun
  | [d1, d2, d3] => { results := [.lit (.bool false)], args := [d1, d2, d3] }
  | _ => none }
def FnExactBestWorthWrongFalsely : Prop := fnExactBestWorthRow.holds Try.pinned (OpenSpec.ofChange fnExactBestWorthWrong)

/- THE SECOND FORM. 'bulk': how many values and letters a reading holds, each counted each time it is reached (what is shared counts as often as it is met; a slice's spare places count too). A statement '..UptoSaid' is the law's where the arguments, and the package variables that the reading takes, are together of bulk at most 1048576: NARROWER than '..Said'. Prove '..Said' where nothing that the law and all that it calls make is longer than what came in: it says more and counts as full. Else prove '..UptoSaid'. A law counts once. -/
mutual
def uptoBulk {H : Type} : DataW H → Nat
  | .lit (.string bytes) => bytes.length + 1
  | .lit _ => 1
  | .nil => 1
  | .ptr d => uptoBulk d + 1
  | .slice elems spare => uptoBulkAll elems + uptoBulkAll spare + 1
  | .agg parts => uptoBulkAll parts + 1
  | .iface _ d => uptoBulk d + 1
  | .map entries => uptoBulkEntries entries + 1
  | .held _ => 1
def uptoBulkAll {H : Type} : List (DataW H) → Nat
  | [] => 0
  | d :: r => uptoBulk d + uptoBulkAll r
def uptoBulkEntries {H : Type} : List (Lit × DataW H) → Nat
  | [] => 0
  | x :: r => uptoBulkEntry x + uptoBulkEntries r
def uptoBulkEntry {H : Type} : Lit × DataW H → Nat
  | (.string bytes, d) => bytes.length + uptoBulk d + 1
  | (_, d) => uptoBulk d + 1
 end
def uptoSmall : (H : Type) → List (DataW H) → Bool := fun _ ds => decide (uptoBulkAll ds ≤ 1048576)
def OpenSpec.upto (s : _root_.Go.ChangeSpec) : _root_.Go.OpenSpec := { _root_.Go.OpenSpec.ofChange s with cond := some uptoSmall }

/-- 'laws.FnExactIsSpaced', WHERE WHAT IT READS IS OF BULK AT MOST 1048576: true; the input reads as it did. -/
def fnExactIsSpacedUptoRow : OpenClaim := { program := "ytoedcklgpmhnnaa", sum := "c85b25004c57d0dd82075ffa678038aeba11bb5c514310f3d3fe487780b2da95", func := "loop.example/g01167/laws.FnExactIsSpaced", spec := "fnExactIsSpaced", unfollowed := true, recurses := true, apart := false, narrowed := true }
def FnExactIsSpacedUptoSaid : Prop := fnExactIsSpacedUptoRow.holds Try.pinned (OpenSpec.upto fnExactIsSpacedSpec)

/-- 'laws.FnExactCountSpaced', WHERE WHAT IT READS IS OF BULK AT MOST 1048576: true; the input reads as it did. -/
def fnExactCountSpacedUptoRow : OpenClaim := { program := "ytoedcklgpmhnnaa", sum := "c85b25004c57d0dd82075ffa678038aeba11bb5c514310f3d3fe487780b2da95", func := "loop.example/g01167/laws.FnExactCountSpaced", spec := "fnExactCountSpaced", unfollowed := true, recurses := true, apart := false, narrowed := true }
def FnExactCountSpacedUptoSaid : Prop := fnExactCountSpacedUptoRow.holds Try.pinned (OpenSpec.upto fnExactCountSpacedSpec)

/-- 'laws.FnExactFirstSpaced', WHERE WHAT IT READS IS OF BULK AT MOST 1048576: true; the input reads as it did. -/
def fnExactFirstSpacedUptoRow : OpenClaim := { program := "ytoedcklgpmhnnaa", sum := "c85b25004c57d0dd82075ffa678038aeba11bb5c514310f3d3fe487780b2da95", func := "loop.example/g01167/laws.FnExactFirstSpaced", spec := "fnExactFirstSpaced", unfollowed := true, recurses := true, apart := false, narrowed := true }
def FnExactFirstSpacedUptoSaid : Prop := fnExactFirstSpacedUptoRow.holds Try.pinned (OpenSpec.upto fnExactFirstSpacedSpec)

/-- 'laws.FnExactMostSpaced', WHERE WHAT IT READS IS OF BULK AT MOST 1048576: true; the input reads as it did. -/
def fnExactMostSpacedUptoRow : OpenClaim := { program := "ytoedcklgpmhnnaa", sum := "c85b25004c57d0dd82075ffa678038aeba11bb5c514310f3d3fe487780b2da95", func := "loop.example/g01167/laws.FnExactMostSpaced", spec := "fnExactMostSpaced", unfollowed := true, recurses := true, apart := false, narrowed := true }
def FnExactMostSpacedUptoSaid : Prop := fnExactMostSpacedUptoRow.holds Try.pinned (OpenSpec.upto fnExactMostSpacedSpec)

/-- 'laws.FnExactGreatestSpread', WHERE WHAT IT READS IS OF BULK AT MOST 1048576: true; the input reads as it did. -/
def fnExactGreatestSpreadUptoRow : OpenClaim := { program := "ytoedcklgpmhnnaa", sum := "c85b25004c57d0dd82075ffa678038aeba11bb5c514310f3d3fe487780b2da95", func := "loop.example/g01167/laws.FnExactGreatestSpread", spec := "fnExactGreatestSpread", unfollowed := true, recurses := true, apart := false, narrowed := true }
def FnExactGreatestSpreadUptoSaid : Prop := fnExactGreatestSpreadUptoRow.holds Try.pinned (OpenSpec.upto fnExactGreatestSpreadSpec)

/-- 'laws.FnExactBestWorth', WHERE WHAT IT READS IS OF BULK AT MOST 1048576: true; the input reads as it did. -/
def fnExactBestWorthUptoRow : OpenClaim := { program := "ytoedcklgpmhnnaa", sum := "c85b25004c57d0dd82075ffa678038aeba11bb5c514310f3d3fe487780b2da95", func := "loop.example/g01167/laws.FnExactBestWorth", spec := "fnExactBestWorth", unfollowed := true, recurses := true, apart := false, narrowed := true }
def FnExactBestWorthUptoSaid : Prop := fnExactBestWorthUptoRow.holds Try.pinned (OpenSpec.upto fnExactBestWorthSpec)

end Rows
end Go.Proofs.Ytoedcklgpmhnnaa
