/-
  No cell of these rows narrows 'for every input' (looked for: loops, veiled, ifaces, maps, wideKeys, modest, calm, conditions, laid).
  DERIVED. THE GIVEN ROWS OF THIS SEAT. 6 by the template 'for every input the law returns true; each argument reads behind the call as it read before'; 0 by the template 'total and deterministic' (their statements: YtadonbnnolfbdaaTotals.lean).
  GIVEN WITH THE SEED: the statements are not yours to turn. If you find one false, say at which input.
  Laid BY PROGRAM, IN A SANDBOX (cutbox-rows.mjs): the forced cells as the released guide's own fill.sh prints them over the translation 07647b5a5d2131ae… (all of the seat's roots in one cut). By AI agents, Wed Nov 11 2026. No macro, syntax, notation, axiom, sorry.
-/
import Derived.Test.YtadonbnnolfbdaaChecked
import GoSem.Claim
import GoSem.ClaimJoined
import GoSem.ClaimMapViews
import Derived.JoinedTies
import Derived.KernelRfl
namespace Go.Proofs.Ytadonbnnolfbdaa
/- THE CELL 'sum', in the pinned program and in every row, IS THE sha256 OF THE DUMP (.gsa) THAT YtadonbnnolfbdaaProg.lean LOADS. Nothing in Lean hashes anything: it is a label: what it is worth is what the hold of that sum in a sandbox is worth. -/
noncomputable def Try.pinned : Pinned := { name := "ytadonbnnolfbdaa", sum := "07647b5a5d2131ae081d5aa97b170608c573b5982122b28c5d22c4f5a4e1daaa", checked := Try.checked }
namespace Rows
def none {H : Type} : Left H := { results := [], args := [] }

/-- 'laws.FnExactOwnChance': WHATEVER THE INPUT: true; the input reads as it did. -/
def fnExactOwnChanceSpec : ChangeSpec := { name := "fnExactOwnChance", fn := fun _ => fun
  | [d1, d2, d3] => { results := [.lit (.bool true)], args := [d1, d2, d3] }
  | _ => none }
def fnExactOwnChanceRow : OpenClaim := { program := "ytadonbnnolfbdaa", sum := "07647b5a5d2131ae081d5aa97b170608c573b5982122b28c5d22c4f5a4e1daaa", func := "loop.example/g01167/laws.FnExactOwnChance", spec := "fnExactOwnChance", apart := false }
def FnExactOwnChanceSaid : Prop := fnExactOwnChanceRow.holds Try.pinned (OpenSpec.ofChange fnExactOwnChanceSpec)

/-- ITS FALSE NEIGHBOUR: 'it returns false'. Refute it at one input. -/
def fnExactOwnChanceWrong : ChangeSpec := { name := "fnExactOwnChance", fn := fun _ => fun
  | [d1, d2, d3] => { results := [.lit (.bool false)], args := [d1, d2, d3] }
  | _ => none }
def FnExactOwnChanceWrongFalsely : Prop := fnExactOwnChanceRow.holds Try.pinned (OpenSpec.ofChange fnExactOwnChanceWrong)

/-- 'laws.FnExactWrongMean': WHATEVER THE INPUT: true; the input reads as it did. -/
def fnExactWrongMeanSpec : ChangeSpec := { name := "fnExactWrongMean", fn := fun _ => fun
  | [d1, d2] => { results := [.lit (.bool true)], args := [d1, d2] }
  | _ => none }
def fnExactWrongMeanRow : OpenClaim := { program := "ytadonbnnolfbdaa", sum := "07647b5a5d2131ae081d5aa97b170608c573b5982122b28c5d22c4f5a4e1daaa", func := "loop.example/g01167/laws.FnExactWrongMean", spec := "fnExactWrongMean", apart := false }
def FnExactWrongMeanSaid : Prop := fnExactWrongMeanRow.holds Try.pinned (OpenSpec.ofChange fnExactWrongMeanSpec)

/-- ITS FALSE NEIGHBOUR: 'it returns false'. Refute it at one input. -/
def fnExactWrongMeanWrong : ChangeSpec := { name := "fnExactWrongMean", fn := fun _ => fun
  | [d1, d2] => { results := [.lit (.bool false)], args := [d1, d2] }
  | _ => none }
def FnExactWrongMeanWrongFalsely : Prop := fnExactWrongMeanRow.holds Try.pinned (OpenSpec.ofChange fnExactWrongMeanWrong)

/-- 'laws.FnExactCountSeatings': WHATEVER THE INPUT: true; the input reads as it did. -/
def fnExactCountSeatingsSpec : ChangeSpec := { name := "fnExactCountSeatings", fn := fun _ => fun
  | [d1, d2] => { results := [.lit (.bool true)], args := [d1, d2] }
  | _ => none }
def fnExactCountSeatingsRow : OpenClaim := { program := "ytadonbnnolfbdaa", sum := "07647b5a5d2131ae081d5aa97b170608c573b5982122b28c5d22c4f5a4e1daaa", func := "loop.example/g01167/laws.FnExactCountSeatings", spec := "fnExactCountSeatings", apart := false }
def FnExactCountSeatingsSaid : Prop := fnExactCountSeatingsRow.holds Try.pinned (OpenSpec.ofChange fnExactCountSeatingsSpec)

/-- ITS FALSE NEIGHBOUR: 'it returns false'. Refute it at one input. -/
def fnExactCountSeatingsWrong : ChangeSpec := { name := "fnExactCountSeatings", fn := fun _ => fun
  | [d1, d2] => { results := [.lit (.bool false)], args := [d1, d2] }
  | _ => none }
def FnExactCountSeatingsWrongFalsely : Prop := fnExactCountSeatingsRow.holds Try.pinned (OpenSpec.ofChange fnExactCountSeatingsWrong)

/-- 'laws.FnExactLastSeats': WHATEVER THE INPUT: true; the input reads as it did. -/
def fnExactLastSeatsSpec : ChangeSpec := { name := "fnExactLastSeats", fn := fun _ => fun
  | [d1, d2] => { results := [.lit (.bool true)], args := [d1, d2] }
  | _ => none }
def fnExactLastSeatsRow : OpenClaim := { program := "ytadonbnnolfbdaa", sum := "07647b5a5d2131ae081d5aa97b170608c573b5982122b28c5d22c4f5a4e1daaa", func := "loop.example/g01167/laws.FnExactLastSeats", spec := "fnExactLastSeats", apart := false }
def FnExactLastSeatsSaid : Prop := fnExactLastSeatsRow.holds Try.pinned (OpenSpec.ofChange fnExactLastSeatsSpec)

/-- ITS FALSE NEIGHBOUR: 'it returns false'. Refute it at one input. -/
def fnExactLastSeatsWrong : ChangeSpec := { name := "fnExactLastSeats", fn := fun _ => fun
  | [d1, d2] => { results := [.lit (.bool false)], args := [d1, d2] }
  | _ => none }
def FnExactLastSeatsWrongFalsely : Prop := fnExactLastSeatsRow.holds Try.pinned (OpenSpec.ofChange fnExactLastSeatsWrong)

/-- 'laws.FnExactIsPossible': WHATEVER THE INPUT: true; the input reads as it did. -/
def fnExactIsPossibleSpec : ChangeSpec := { name := "fnExactIsPossible", fn := fun _ => fun
  | [d1, d2, d3] => { results := [.lit (.bool true)], args := [d1, d2, d3] }
  | _ => none }
def fnExactIsPossibleRow : OpenClaim := { program := "ytadonbnnolfbdaa", sum := "07647b5a5d2131ae081d5aa97b170608c573b5982122b28c5d22c4f5a4e1daaa", func := "loop.example/g01167/laws.FnExactIsPossible", spec := "fnExactIsPossible", apart := false }
def FnExactIsPossibleSaid : Prop := fnExactIsPossibleRow.holds Try.pinned (OpenSpec.ofChange fnExactIsPossibleSpec)

/-- ITS FALSE NEIGHBOUR: 'it returns false'. Refute it at one input. -/
def fnExactIsPossibleWrong : ChangeSpec := { name := "fnExactIsPossible", fn := fun _ => fun
  | [d1, d2, d3] => { results := [.lit (.bool false)], args := [d1, d2, d3] }
  | _ => none }
def FnExactIsPossibleWrongFalsely : Prop := fnExactIsPossibleRow.holds Try.pinned (OpenSpec.ofChange fnExactIsPossibleWrong)

/-- 'laws.FnExactSeatingChance': WHATEVER THE INPUT: true; the input reads as it did. -/
def fnExactSeatingChanceSpec : ChangeSpec := { name := "fnExactSeatingChance", fn := fun _ => fun
  | [d1, d2, d3] => { results := [.lit (.bool true)], args := [d1, d2, d3] }
  | _ => none }
def fnExactSeatingChanceRow : OpenClaim := { program := "ytadonbnnolfbdaa", sum := "07647b5a5d2131ae081d5aa97b170608c573b5982122b28c5d22c4f5a4e1daaa", func := "loop.example/g01167/laws.FnExactSeatingChance", spec := "fnExactSeatingChance", apart := false }
def FnExactSeatingChanceSaid : Prop := fnExactSeatingChanceRow.holds Try.pinned (OpenSpec.ofChange fnExactSeatingChanceSpec)

/-- ITS FALSE NEIGHBOUR: 'it returns false'. Refute it at one input. -/
def fnExactSeatingChanceWrong : ChangeSpec := { name := "fnExactSeatingChance", fn := fun _ => fun
  | [d1, d2, d3] => { results := [.lit (.bool false)], args := [d1, d2, d3] }
  | _ => none }
def FnExactSeatingChanceWrongFalsely : Prop := fnExactSeatingChanceRow.holds Try.pinned (OpenSpec.ofChange fnExactSeatingChanceWrong)

/- THE SECOND FORM. 'bulk': how many values and letters a reading holds, each counted each time it is reached (what is shared counts as often as it is met; a slice's spare places count too). A statement '..UptoSaid' is the law's where the arguments, and the package variables that the reading takes, are together of bulk at most 1048576: NARROWER than '..Said'. Prove '..Said' where nothing that the law and all that it calls make is longer than what came in: it says more and counts as full. Else prove '..UptoSaid'. A law counts once. -/
mutual
def uptoBulk {H : Type} : DataW H → Nat
  | .lit (.string bytes) => bytes.length + 1
  | .lit _ => 1
  | .nil => 1
  | .ptr d => uptoBulk d + 1
  | .slice elems spare => uptoBulkAll elems + uptoBulkAll spare + 1
  | .agg parts => uptoBulkAll parts + 1
  | .iface _ d => uptoBulk d + 1
  | .map entries => uptoBulkEntries entries + 1
  | .held _ => 1
def uptoBulkAll {H : Type} : List (DataW H) → Nat
  | [] => 0
  | d :: r => uptoBulk d + uptoBulkAll r
def uptoBulkEntries {H : Type} : List (Lit × DataW H) → Nat
  | [] => 0
  | x :: r => uptoBulkEntry x + uptoBulkEntries r
def uptoBulkEntry {H : Type} : Lit × DataW H → Nat
  | (.string bytes, d) => bytes.length + uptoBulk d + 1
  | (_, d) => uptoBulk d + 1
 end
def uptoSmall : (H : Type) → List (DataW H) → Bool := fun _ ds => decide (uptoBulkAll ds ≤ 1048576)
def OpenSpec.upto (s : _root_.Go.ChangeSpec) : _root_.Go.OpenSpec := { _root_.Go.OpenSpec.ofChange s with cond := some uptoSmall }

/-- 'laws.FnExactOwnChance', WHERE WHAT IT READS IS OF BULK AT MOST 1048576: true; the input reads as it did. -/
def fnExactOwnChanceUptoRow : OpenClaim := { program := "ytadonbnnolfbdaa", sum := "07647b5a5d2131ae081d5aa97b170608c573b5982122b28c5d22c4f5a4e1daaa", func := "loop.example/g01167/laws.FnExactOwnChance", spec := "fnExactOwnChance", apart := false, narrowed := true }
def FnExactOwnChanceUptoSaid : Prop := fnExactOwnChanceUptoRow.holds Try.pinned (OpenSpec.upto fnExactOwnChanceSpec)

/-- 'laws.FnExactWrongMean', WHERE WHAT IT READS IS OF BULK AT MOST 1048576: true; the input reads as it did. -/
def fnExactWrongMeanUptoRow : OpenClaim := { program := "ytadonbnnolfbdaa", sum := "07647b5a5d2131ae081d5aa97b170608c573b5982122b28c5d22c4f5a4e1daaa", func := "loop.example/g01167/laws.FnExactWrongMean", spec := "fnExactWrongMean", apart := false, narrowed := true }
def FnExactWrongMeanUptoSaid : Prop := fnExactWrongMeanUptoRow.holds Try.pinned (OpenSpec.upto fnExactWrongMeanSpec)

/-- 'laws.FnExactCountSeatings', WHERE WHAT IT READS IS OF BULK AT MOST 1048576: true; the input reads as it did. -/
def fnExactCountSeatingsUptoRow : OpenClaim := { program := "ytadonbnnolfbdaa", sum := "07647b5a5d2131ae081d5aa97b170608c573b5982122b28c5d22c4f5a4e1daaa", func := "loop.example/g01167/laws.FnExactCountSeatings", spec := "fnExactCountSeatings", apart := false, narrowed := true }
def FnExactCountSeatingsUptoSaid : Prop := fnExactCountSeatingsUptoRow.holds Try.pinned (OpenSpec.upto fnExactCountSeatingsSpec)

/-- 'laws.FnExactLastSeats', WHERE WHAT IT READS IS OF BULK AT MOST 1048576: true; the input reads as it did. -/
def fnExactLastSeatsUptoRow : OpenClaim := { program := "ytadonbnnolfbdaa", sum := "07647b5a5d2131ae081d5aa97b170608c573b5982122b28c5d22c4f5a4e1daaa", func := "loop.example/g01167/laws.FnExactLastSeats", spec := "fnExactLastSeats", apart := false, narrowed := true }
def FnExactLastSeatsUptoSaid : Prop := fnExactLastSeatsUptoRow.holds Try.pinned (OpenSpec.upto fnExactLastSeatsSpec)

/-- 'laws.FnExactIsPossible', WHERE WHAT IT READS IS OF BULK AT MOST 1048576: true; the input reads as it did. -/
def fnExactIsPossibleUptoRow : OpenClaim := { program := "ytadonbnnolfbdaa", sum := "07647b5a5d2131ae081d5aa97b170608c573b5982122b28c5d22c4f5a4e1daaa", func := "loop.example/g01167/laws.FnExactIsPossible", spec := "fnExactIsPossible", apart := false, narrowed := true }
def FnExactIsPossibleUptoSaid : Prop := fnExactIsPossibleUptoRow.holds Try.pinned (OpenSpec.upto fnExactIsPossibleSpec)

/-- 'laws.FnExactSeatingChance', WHERE WHAT IT READS IS OF BULK AT MOST 1048576: true; the input reads as it did. -/
def fnExactSeatingChanceUptoRow : OpenClaim := { program := "ytadonbnnolfbdaa", sum := "07647b5a5d2131ae081d5aa97b170608c573b5982122b28c5d22c4f5a4e1daaa", func := "loop.example/g01167/laws.FnExactSeatingChance", spec := "fnExactSeatingChance", apart := false, narrowed := true }
def FnExactSeatingChanceUptoSaid : Prop := fnExactSeatingChanceUptoRow.holds Try.pinned (OpenSpec.upto fnExactSeatingChanceSpec)

end Rows
end Go.Proofs.Ytadonbnnolfbdaa
