/-
  No cell of these rows narrows 'for every input' (looked for: loops, veiled, ifaces, maps, wideKeys, modest, calm, conditions, laid).
  DERIVED. THE GIVEN ROWS OF THIS SEAT. 6 by the template 'for every input the law returns true; each argument reads behind the call as it read before'; 0 by the template 'total and deterministic' (their statements: YtgalopbpbhlcdaaTotals.lean).
  GIVEN WITH THE SEED: the statements are not yours to turn. If you find one false, say at which input.
  Laid BY PROGRAM, IN A SANDBOX (cutbox-rows.mjs): the forced cells as the released guide's own fill.sh prints them over the translation ef485bda6c7fbf34… (all of the seat's roots in one cut). By AI agents, Wed Nov 11 2026. No macro, syntax, notation, axiom, sorry.
-/
import Derived.Test.YtgalopbpbhlcdaaChecked
import GoSem.Claim
import GoSem.ClaimJoined
import GoSem.ClaimMapViews
import Derived.JoinedTies
import Derived.KernelRfl
namespace Go.Proofs.Ytgalopbpbhlcdaa
/- THE CELL 'sum', in the pinned program and in every row, IS THE sha256 OF THE DUMP (.gsa) THAT YtgalopbpbhlcdaaProg.lean LOADS. Nothing in Lean hashes anything: it is a label: what it is worth is what the hold of that sum in a sandbox is worth. -/
noncomputable def Try.pinned : Pinned := { name := "ytgalopbpbhlcdaa", sum := "ef485bda6c7fbf34efdd54200a62151b34d8c259ea2e4dcffa721f11fdaf5d31", checked := Try.checked }
namespace Rows
def none {H : Type} : Left H := { results := [], args := [] }

/-- 'laws.FnExactParkCars': WHATEVER THE INPUT: true; the input reads as it did. -/
def fnExactParkCarsSpec : ChangeSpec := { name := "fnExactParkCars", fn := fun _ => fun
  | [d1, d2] => { results := [.lit (.bool true)], args := [d1, d2] }
  | _ => none }
def fnExactParkCarsRow : OpenClaim := { program := "ytgalopbpbhlcdaa", sum := "ef485bda6c7fbf34efdd54200a62151b34d8c259ea2e4dcffa721f11fdaf5d31", func := "loop.example/g01167/laws.FnExactParkCars", spec := "fnExactParkCars", inPlace := ["slices.overlaps[int]"], unfollowed := true, recurses := true, apart := false }
def FnExactParkCarsSaid : Prop := fnExactParkCarsRow.holds Try.pinned (OpenSpec.ofChange fnExactParkCarsSpec)

/-- ITS FALSE NEIGHBOUR: 'it returns false'. Refute it at one input. -/
def fnExactParkCarsWrong : ChangeSpec := { name := "fnExactParkCars", fn := fun _ => fun
  | [d1, d2] => { results := [.lit (.bool false)], args := [d1, d2] }
  | _ => none }
def FnExactParkCarsWrongFalsely : Prop := fnExactParkCarsRow.holds Try.pinned (OpenSpec.ofChange fnExactParkCarsWrong)

/-- 'laws.FnExactParkBack': WHATEVER THE INPUT: true; the input reads as it did. -/
def fnExactParkBackSpec : ChangeSpec := { name := "fnExactParkBack", fn := fun _ => fun
  | [d1, d2, d3] => { results := [.lit (.bool true)], args := [d1, d2, d3] }
  | _ => none }
def fnExactParkBackRow : OpenClaim := { program := "ytgalopbpbhlcdaa", sum := "ef485bda6c7fbf34efdd54200a62151b34d8c259ea2e4dcffa721f11fdaf5d31", func := "loop.example/g01167/laws.FnExactParkBack", spec := "fnExactParkBack", inPlace := ["slices.overlaps[int]"], unfollowed := true, recurses := true, apart := false }
def FnExactParkBackSaid : Prop := fnExactParkBackRow.holds Try.pinned (OpenSpec.ofChange fnExactParkBackSpec)

/-- ITS FALSE NEIGHBOUR: 'it returns false'. Refute it at one input. -/
def fnExactParkBackWrong : ChangeSpec := { name := "fnExactParkBack", fn := fun _ => fun
  | [d1, d2, d3] => { results := [.lit (.bool false)], args := [d1, d2, d3] }
  | _ => none }
def FnExactParkBackWrongFalsely : Prop := fnExactParkBackRow.holds Try.pinned (OpenSpec.ofChange fnExactParkBackWrong)

/-- 'laws.FnExactAllPark': WHATEVER THE INPUT: true; the input reads as it did. -/
def fnExactAllParkSpec : ChangeSpec := { name := "fnExactAllPark", fn := fun _ => fun
  | [d1, d2] => { results := [.lit (.bool true)], args := [d1, d2] }
  | _ => none }
def fnExactAllParkRow : OpenClaim := { program := "ytgalopbpbhlcdaa", sum := "ef485bda6c7fbf34efdd54200a62151b34d8c259ea2e4dcffa721f11fdaf5d31", func := "loop.example/g01167/laws.FnExactAllPark", spec := "fnExactAllPark", inPlace := ["slices.overlaps[int]"], unfollowed := true, recurses := true, apart := false }
def FnExactAllParkSaid : Prop := fnExactAllParkRow.holds Try.pinned (OpenSpec.ofChange fnExactAllParkSpec)

/-- ITS FALSE NEIGHBOUR: 'it returns false'. Refute it at one input. -/
def fnExactAllParkWrong : ChangeSpec := { name := "fnExactAllPark", fn := fun _ => fun
  | [d1, d2] => { results := [.lit (.bool false)], args := [d1, d2] }
  | _ => none }
def FnExactAllParkWrongFalsely : Prop := fnExactAllParkRow.holds Try.pinned (OpenSpec.ofChange fnExactAllParkWrong)

/-- 'laws.FnExactParkSteps': WHATEVER THE INPUT: true; the input reads as it did. -/
def fnExactParkStepsSpec : ChangeSpec := { name := "fnExactParkSteps", fn := fun _ => fun
  | [d1, d2] => { results := [.lit (.bool true)], args := [d1, d2] }
  | _ => none }
def fnExactParkStepsRow : OpenClaim := { program := "ytgalopbpbhlcdaa", sum := "ef485bda6c7fbf34efdd54200a62151b34d8c259ea2e4dcffa721f11fdaf5d31", func := "loop.example/g01167/laws.FnExactParkSteps", spec := "fnExactParkSteps", inPlace := ["slices.overlaps[int]"], unfollowed := true, recurses := true, apart := false }
def FnExactParkStepsSaid : Prop := fnExactParkStepsRow.holds Try.pinned (OpenSpec.ofChange fnExactParkStepsSpec)

/-- ITS FALSE NEIGHBOUR: 'it returns false'. Refute it at one input. -/
def fnExactParkStepsWrong : ChangeSpec := { name := "fnExactParkSteps", fn := fun _ => fun
  | [d1, d2] => { results := [.lit (.bool false)], args := [d1, d2] }
  | _ => none }
def FnExactParkStepsWrongFalsely : Prop := fnExactParkStepsRow.holds Try.pinned (OpenSpec.ofChange fnExactParkStepsWrong)

/-- 'laws.FnExactLuckyCars': WHATEVER THE INPUT: true; the input reads as it did. -/
def fnExactLuckyCarsSpec : ChangeSpec := { name := "fnExactLuckyCars", fn := fun _ => fun
  | [d1, d2] => { results := [.lit (.bool true)], args := [d1, d2] }
  | _ => none }
def fnExactLuckyCarsRow : OpenClaim := { program := "ytgalopbpbhlcdaa", sum := "ef485bda6c7fbf34efdd54200a62151b34d8c259ea2e4dcffa721f11fdaf5d31", func := "loop.example/g01167/laws.FnExactLuckyCars", spec := "fnExactLuckyCars", inPlace := ["slices.overlaps[int]"], unfollowed := true, recurses := true, apart := false }
def FnExactLuckyCarsSaid : Prop := fnExactLuckyCarsRow.holds Try.pinned (OpenSpec.ofChange fnExactLuckyCarsSpec)

/-- ITS FALSE NEIGHBOUR: 'it returns false'. Refute it at one input. -/
def fnExactLuckyCarsWrong : ChangeSpec := { name := "fnExactLuckyCars", fn := fun _ => fun
  | [d1, d2] => { results := [.lit (.bool false)], args := [d1, d2] }
  | _ => none }
def FnExactLuckyCarsWrongFalsely : Prop := fnExactLuckyCarsRow.holds Try.pinned (OpenSpec.ofChange fnExactLuckyCarsWrong)

/-- 'laws.FnExactCarsAtSeats': WHATEVER THE INPUT: true; the input reads as it did. -/
def fnExactCarsAtSeatsSpec : ChangeSpec := { name := "fnExactCarsAtSeats", fn := fun _ => fun
  | [d1, d2] => { results := [.lit (.bool true)], args := [d1, d2] }
  | _ => none }
def fnExactCarsAtSeatsRow : OpenClaim := { program := "ytgalopbpbhlcdaa", sum := "ef485bda6c7fbf34efdd54200a62151b34d8c259ea2e4dcffa721f11fdaf5d31", func := "loop.example/g01167/laws.FnExactCarsAtSeats", spec := "fnExactCarsAtSeats", inPlace := ["slices.overlaps[int]"], unfollowed := true, recurses := true, apart := false }
def FnExactCarsAtSeatsSaid : Prop := fnExactCarsAtSeatsRow.holds Try.pinned (OpenSpec.ofChange fnExactCarsAtSeatsSpec)

/-- ITS FALSE NEIGHBOUR: 'it returns false'. Refute it at one input. -/
def fnExactCarsAtSeatsWrong : ChangeSpec := { name := "fnExactCarsAtSeats", fn := fun _ => fun
  | [d1, d2] => { results := [.lit (.bool false)], args := [d1, d2] }
  | _ => none }
def FnExactCarsAtSeatsWrongFalsely : Prop := fnExactCarsAtSeatsRow.holds Try.pinned (OpenSpec.ofChange fnExactCarsAtSeatsWrong)

/- THE SECOND FORM. 'bulk': how many values and letters a reading holds, each counted each time it is reached (what is shared counts as often as it is met; a slice's spare places count too). A statement '..UptoSaid' is the law's where the arguments, and the package variables that the reading takes, are together of bulk at most 1048576: NARROWER than '..Said'. Prove '..Said' where nothing that the law and all that it calls make is longer than what came in: it says more and counts as full. Else prove '..UptoSaid'. A law counts once. -/
mutual
def uptoBulk {H : Type} : DataW H → Nat
  | .lit (.string bytes) => bytes.length + 1
  | .lit _ => 1
  | .nil => 1
  | .ptr d => uptoBulk d + 1
  | .slice elems spare => uptoBulkAll elems + uptoBulkAll spare + 1
  | .agg parts => uptoBulkAll parts + 1
  | .iface _ d => uptoBulk d + 1
  | .map entries => uptoBulkEntries entries + 1
  | .held _ => 1
def uptoBulkAll {H : Type} : List (DataW H) → Nat
  | [] => 0
  | d :: r => uptoBulk d + uptoBulkAll r
def uptoBulkEntries {H : Type} : List (Lit × DataW H) → Nat
  | [] => 0
  | x :: r => uptoBulkEntry x + uptoBulkEntries r
def uptoBulkEntry {H : Type} : Lit × DataW H → Nat
  | (.string bytes, d) => bytes.length + uptoBulk d + 1
  | (_, d) => uptoBulk d + 1
 end
def uptoSmall : (H : Type) → List (DataW H) → Bool := fun _ ds => decide (uptoBulkAll ds ≤ 1048576)
def OpenSpec.upto (s : _root_.Go.ChangeSpec) : _root_.Go.OpenSpec := { _root_.Go.OpenSpec.ofChange s with cond := some uptoSmall }

/-- 'laws.FnExactParkCars', WHERE WHAT IT READS IS OF BULK AT MOST 1048576: true; the input reads as it did. -/
def fnExactParkCarsUptoRow : OpenClaim := { program := "ytgalopbpbhlcdaa", sum := "ef485bda6c7fbf34efdd54200a62151b34d8c259ea2e4dcffa721f11fdaf5d31", func := "loop.example/g01167/laws.FnExactParkCars", spec := "fnExactParkCars", inPlace := ["slices.overlaps[int]"], unfollowed := true, recurses := true, apart := false, narrowed := true }
def FnExactParkCarsUptoSaid : Prop := fnExactParkCarsUptoRow.holds Try.pinned (OpenSpec.upto fnExactParkCarsSpec)

/-- 'laws.FnExactParkBack', WHERE WHAT IT READS IS OF BULK AT MOST 1048576: true; the input reads as it did. -/
def fnExactParkBackUptoRow : OpenClaim := { program := "ytgalopbpbhlcdaa", sum := "ef485bda6c7fbf34efdd54200a62151b34d8c259ea2e4dcffa721f11fdaf5d31", func := "loop.example/g01167/laws.FnExactParkBack", spec := "fnExactParkBack", inPlace := ["slices.overlaps[int]"], unfollowed := true, recurses := true, apart := false, narrowed := true }
def FnExactParkBackUptoSaid : Prop := fnExactParkBackUptoRow.holds Try.pinned (OpenSpec.upto fnExactParkBackSpec)

/-- 'laws.FnExactAllPark', WHERE WHAT IT READS IS OF BULK AT MOST 1048576: true; the input reads as it did. -/
def fnExactAllParkUptoRow : OpenClaim := { program := "ytgalopbpbhlcdaa", sum := "ef485bda6c7fbf34efdd54200a62151b34d8c259ea2e4dcffa721f11fdaf5d31", func := "loop.example/g01167/laws.FnExactAllPark", spec := "fnExactAllPark", inPlace := ["slices.overlaps[int]"], unfollowed := true, recurses := true, apart := false, narrowed := true }
def FnExactAllParkUptoSaid : Prop := fnExactAllParkUptoRow.holds Try.pinned (OpenSpec.upto fnExactAllParkSpec)

/-- 'laws.FnExactParkSteps', WHERE WHAT IT READS IS OF BULK AT MOST 1048576: true; the input reads as it did. -/
def fnExactParkStepsUptoRow : OpenClaim := { program := "ytgalopbpbhlcdaa", sum := "ef485bda6c7fbf34efdd54200a62151b34d8c259ea2e4dcffa721f11fdaf5d31", func := "loop.example/g01167/laws.FnExactParkSteps", spec := "fnExactParkSteps", inPlace := ["slices.overlaps[int]"], unfollowed := true, recurses := true, apart := false, narrowed := true }
def FnExactParkStepsUptoSaid : Prop := fnExactParkStepsUptoRow.holds Try.pinned (OpenSpec.upto fnExactParkStepsSpec)

/-- 'laws.FnExactLuckyCars', WHERE WHAT IT READS IS OF BULK AT MOST 1048576: true; the input reads as it did. -/
def fnExactLuckyCarsUptoRow : OpenClaim := { program := "ytgalopbpbhlcdaa", sum := "ef485bda6c7fbf34efdd54200a62151b34d8c259ea2e4dcffa721f11fdaf5d31", func := "loop.example/g01167/laws.FnExactLuckyCars", spec := "fnExactLuckyCars", inPlace := ["slices.overlaps[int]"], unfollowed := true, recurses := true, apart := false, narrowed := true }
def FnExactLuckyCarsUptoSaid : Prop := fnExactLuckyCarsUptoRow.holds Try.pinned (OpenSpec.upto fnExactLuckyCarsSpec)

/-- 'laws.FnExactCarsAtSeats', WHERE WHAT IT READS IS OF BULK AT MOST 1048576: true; the input reads as it did. -/
def fnExactCarsAtSeatsUptoRow : OpenClaim := { program := "ytgalopbpbhlcdaa", sum := "ef485bda6c7fbf34efdd54200a62151b34d8c259ea2e4dcffa721f11fdaf5d31", func := "loop.example/g01167/laws.FnExactCarsAtSeats", spec := "fnExactCarsAtSeats", inPlace := ["slices.overlaps[int]"], unfollowed := true, recurses := true, apart := false, narrowed := true }
def FnExactCarsAtSeatsUptoSaid : Prop := fnExactCarsAtSeatsUptoRow.holds Try.pinned (OpenSpec.upto fnExactCarsAtSeatsSpec)

end Rows
end Go.Proofs.Ytgalopbpbhlcdaa
