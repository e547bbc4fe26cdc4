/-
  No cell of these rows narrows 'for every input' (looked for: loops, veiled, ifaces, maps, wideKeys, modest, calm, conditions, laid).
  DERIVED. THE GIVEN ROWS OF THIS SEAT. 6 by the template 'for every input the law returns true; each argument reads behind the call as it read before'; 0 by the template 'total and deterministic' (their statements: YtogdiahojbonaaaTotals.lean).
  GIVEN WITH THE SEED: the statements are not yours to turn. If you find one false, say at which input.
  Laid BY PROGRAM, IN A SANDBOX (cutbox-rows.mjs): the forced cells as the released guide's own fill.sh prints them over the translation 836c8e90f15c8379… (all of the seat's roots in one cut). By AI agents, Wed Nov 11 2026. No macro, syntax, notation, axiom, sorry.
-/
import Derived.Test.YtogdiahojbonaaaChecked
import GoSem.Claim
import GoSem.ClaimJoined
import GoSem.ClaimMapViews
import Derived.JoinedTies
import Derived.KernelRfl
namespace Go.Proofs.Ytogdiahojbonaaa
/- THE CELL 'sum', in the pinned program and in every row, IS THE sha256 OF THE DUMP (.gsa) THAT YtogdiahojbonaaaProg.lean LOADS. Nothing in Lean hashes anything: it is a label: what it is worth is what the hold of that sum in a sandbox is worth. -/
noncomputable def Try.pinned : Pinned := { name := "ytogdiahojbonaaa", sum := "836c8e90f15c8379ccac72e505ad642628f994b043987a9ba7c60e35b225fe4f", checked := Try.checked }
namespace Rows
def none {H : Type} : Left H := { results := [], args := [] }

/-- 'laws.FnExactFewestGuards': WHATEVER THE INPUT: true; the input reads as it did. -/
def fnExactFewestGuardsSpec : ChangeSpec := { name := "fnExactFewestGuards", fn := fun _ => fun
  | [d1, d2] => { results := [.lit (.bool true)], args := [d1, d2] }
  | _ => none }
def fnExactFewestGuardsRow : OpenClaim := { program := "ytogdiahojbonaaa", sum := "836c8e90f15c8379ccac72e505ad642628f994b043987a9ba7c60e35b225fe4f", func := "loop.example/g01167/laws.FnExactFewestGuards", spec := "fnExactFewestGuards", recurses := true, apart := false }
def FnExactFewestGuardsSaid : Prop := fnExactFewestGuardsRow.holds Try.pinned (OpenSpec.ofChange fnExactFewestGuardsSpec)

/-- ITS FALSE NEIGHBOUR: 'it returns false'. Refute it at one input. -/
def fnExactFewestGuardsWrong : ChangeSpec := { name := "fnExactFewestGuards", fn := fun _ => fun
  | [d1, d2] => { results := [.lit (.bool false)], args := [d1, d2] }
  | _ => none }
def FnExactFewestGuardsWrongFalsely : Prop := fnExactFewestGuardsRow.holds Try.pinned (OpenSpec.ofChange fnExactFewestGuardsWrong)

/-- 'laws.FnExactIsGuarded': WHATEVER THE INPUT: true; the input reads as it did. -/
def fnExactIsGuardedSpec : ChangeSpec := { name := "fnExactIsGuarded", fn := fun _ => fun
  | [d1, d2, d3] => { results := [.lit (.bool true)], args := [d1, d2, d3] }
  | _ => none }
def fnExactIsGuardedRow : OpenClaim := { program := "ytogdiahojbonaaa", sum := "836c8e90f15c8379ccac72e505ad642628f994b043987a9ba7c60e35b225fe4f", func := "loop.example/g01167/laws.FnExactIsGuarded", spec := "fnExactIsGuarded", apart := false }
def FnExactIsGuardedSaid : Prop := fnExactIsGuardedRow.holds Try.pinned (OpenSpec.ofChange fnExactIsGuardedSpec)

/-- ITS FALSE NEIGHBOUR: 'it returns false'. Refute it at one input. -/
def fnExactIsGuardedWrong : ChangeSpec := { name := "fnExactIsGuarded", fn := fun _ => fun
  | [d1, d2, d3] => { results := [.lit (.bool false)], args := [d1, d2, d3] }
  | _ => none }
def FnExactIsGuardedWrongFalsely : Prop := fnExactIsGuardedRow.holds Try.pinned (OpenSpec.ofChange fnExactIsGuardedWrong)

/-- 'laws.FnExactIsPlacing': WHATEVER THE INPUT: true; the input reads as it did. -/
def fnExactIsPlacingSpec : ChangeSpec := { name := "fnExactIsPlacing", fn := fun _ => fun
  | [d1, d2, d3, d4] => { results := [.lit (.bool true)], args := [d1, d2, d3, d4] }
  | _ => none }
def fnExactIsPlacingRow : OpenClaim := { program := "ytogdiahojbonaaa", sum := "836c8e90f15c8379ccac72e505ad642628f994b043987a9ba7c60e35b225fe4f", func := "loop.example/g01167/laws.FnExactIsPlacing", spec := "fnExactIsPlacing", unfollowed := true, recurses := true, apart := false }
def FnExactIsPlacingSaid : Prop := fnExactIsPlacingRow.holds Try.pinned (OpenSpec.ofChange fnExactIsPlacingSpec)

/-- ITS FALSE NEIGHBOUR: 'it returns false'. Refute it at one input. -/
def fnExactIsPlacingWrong : ChangeSpec := { name := "fnExactIsPlacing", fn := fun _ => fun
  | [d1, d2, d3, d4] => { results := [.lit (.bool false)], args := [d1, d2, d3, d4] }
  | _ => none }
def FnExactIsPlacingWrongFalsely : Prop := fnExactIsPlacingRow.holds Try.pinned (OpenSpec.ofChange fnExactIsPlacingWrong)

/-- 'laws.FnExactFirstPlacing': WHATEVER THE INPUT: true; the input reads as it did. -/
def fnExactFirstPlacingSpec : ChangeSpec := { name := "fnExactFirstPlacing", fn := fun _ => fun
  | [d1, d2, d3] => { results := [.lit (.bool true)], args := [d1, d2, d3] }
  | _ => none }
def fnExactFirstPlacingRow : OpenClaim := { program := "ytogdiahojbonaaa", sum := "836c8e90f15c8379ccac72e505ad642628f994b043987a9ba7c60e35b225fe4f", func := "loop.example/g01167/laws.FnExactFirstPlacing", spec := "fnExactFirstPlacing", unfollowed := true, recurses := true, apart := false }
def FnExactFirstPlacingSaid : Prop := fnExactFirstPlacingRow.holds Try.pinned (OpenSpec.ofChange fnExactFirstPlacingSpec)

/-- ITS FALSE NEIGHBOUR: 'it returns false'. Refute it at one input. -/
def fnExactFirstPlacingWrong : ChangeSpec := { name := "fnExactFirstPlacing", fn := fun _ => fun
  | [d1, d2, d3] => { results := [.lit (.bool false)], args := [d1, d2, d3] }
  | _ => none }
def FnExactFirstPlacingWrongFalsely : Prop := fnExactFirstPlacingRow.holds Try.pinned (OpenSpec.ofChange fnExactFirstPlacingWrong)

/-- 'laws.FnExactCountPlacings': WHATEVER THE INPUT: true; the input reads as it did. -/
def fnExactCountPlacingsSpec : ChangeSpec := { name := "fnExactCountPlacings", fn := fun _ => fun
  | [d1, d2, d3] => { results := [.lit (.bool true)], args := [d1, d2, d3] }
  | _ => none }
def fnExactCountPlacingsRow : OpenClaim := { program := "ytogdiahojbonaaa", sum := "836c8e90f15c8379ccac72e505ad642628f994b043987a9ba7c60e35b225fe4f", func := "loop.example/g01167/laws.FnExactCountPlacings", spec := "fnExactCountPlacings", unfollowed := true, recurses := true, apart := false }
def FnExactCountPlacingsSaid : Prop := fnExactCountPlacingsRow.holds Try.pinned (OpenSpec.ofChange fnExactCountPlacingsSpec)

/-- ITS FALSE NEIGHBOUR: 'it returns false'. Refute it at one input. -/
def fnExactCountPlacingsWrong : ChangeSpec := { name := "fnExactCountPlacings", fn := fun _ => fun
  | [d1, d2, d3] => { results := [.lit (.bool false)], args := [d1, d2, d3] }
  | _ => none }
def FnExactCountPlacingsWrongFalsely : Prop := fnExactCountPlacingsRow.holds Try.pinned (OpenSpec.ofChange fnExactCountPlacingsWrong)

/-- 'laws.FnExactPlaceRow': WHATEVER THE INPUT: true; the input reads as it did. -/
def fnExactPlaceRowSpec : ChangeSpec := { name := "fnExactPlaceRow", fn := fun _ => fun
  | [d1, d2, d3, d4] => { results := [.lit (.bool true)], args := [d1, d2, d3, d4] }
  | _ => none }
def fnExactPlaceRowRow : OpenClaim := { program := "ytogdiahojbonaaa", sum := "836c8e90f15c8379ccac72e505ad642628f994b043987a9ba7c60e35b225fe4f", func := "loop.example/g01167/laws.FnExactPlaceRow", spec := "fnExactPlaceRow", unfollowed := true, recurses := true, apart := false }
def FnExactPlaceRowSaid : Prop := fnExactPlaceRowRow.holds Try.pinned (OpenSpec.ofChange fnExactPlaceRowSpec)

/-- ITS FALSE NEIGHBOUR: 'it returns false'. Refute it at one input. -/
def fnExactPlaceRowWrong : ChangeSpec := { name := "fnExactPlaceRow", fn := fun _ => fun
  | [d1, d2, d3, d4] => { results := [.lit (.bool false)], args := [d1, d2, d3, d4] }
  | _ => none }
def FnExactPlaceRowWrongFalsely : Prop := fnExactPlaceRowRow.holds Try.pinned (OpenSpec.ofChange fnExactPlaceRowWrong)

/- THE SECOND FORM. 'bulk': how many values and letters a reading holds, each counted each time it is reached (what is shared counts as often as it is met; a slice's spare places count too). A statement '..UptoSaid' is the law's where the arguments, and the package variables that the reading takes, are together of bulk at most 1048576: NARROWER than '..Said'. Prove '..Said' where nothing that the law and all that it calls make is longer than what came in: it says more and counts as full. Else prove '..UptoSaid'. A law counts once. -/
mutual
def uptoBulk {H : Type} : DataW H → Nat
  | .lit (.string bytes) => bytes.length + 1
  | .lit _ => 1
  | .nil => 1
  | .ptr d => uptoBulk d + 1
  | .slice elems spare => uptoBulkAll elems + uptoBulkAll spare + 1
  | .agg parts => uptoBulkAll parts + 1
  | .iface _ d => uptoBulk d + 1
  | .map entries => uptoBulkEntries entries + 1
  | .held _ => 1
def uptoBulkAll {H : Type} : List (DataW H) → Nat
  | [] => 0
  | d :: r => uptoBulk d + uptoBulkAll r
def uptoBulkEntries {H : Type} : List (Lit × DataW H) → Nat
  | [] => 0
  | x :: r => uptoBulkEntry x + uptoBulkEntries r
def uptoBulkEntry {H : Type} : Lit × DataW H → Nat
  | (.string bytes, d) => bytes.length + uptoBulk d + 1
  | (_, d) => uptoBulk d + 1
 end
def uptoSmall : (H : Type) → List (DataW H) → Bool := fun _ ds => decide (uptoBulkAll ds ≤ 1048576)
def OpenSpec.upto (s : _root_.Go.ChangeSpec) : _root_.Go.OpenSpec := { _root_.Go.OpenSpec.ofChange s with cond := some uptoSmall }

/-- 'laws.FnExactFewestGuards', WHERE WHAT IT READS IS OF BULK AT MOST 1048576: true; the input reads as it did. -/
def fnExactFewestGuardsUptoRow : OpenClaim := { program := "ytogdiahojbonaaa", sum := "836c8e90f15c8379ccac72e505ad642628f994b043987a9ba7c60e35b225fe4f", func := "loop.example/g01167/laws.FnExactFewestGuards", spec := "fnExactFewestGuards", recurses := true, apart := false, narrowed := true }
def FnExactFewestGuardsUptoSaid : Prop := fnExactFewestGuardsUptoRow.holds Try.pinned (OpenSpec.upto fnExactFewestGuardsSpec)

/-- 'laws.FnExactIsGuarded', WHERE WHAT IT READS IS OF BULK AT MOST 1048576: true; the input reads as it did. -/
def fnExactIsGuardedUptoRow : OpenClaim := { program := "ytogdiahojbonaaa", sum := "836c8e90f15c8379ccac72e505ad642628f994b043987a9ba7c60e35b225fe4f", func := "loop.example/g01167/laws.FnExactIsGuarded", spec := "fnExactIsGuarded", apart := false, narrowed := true }
def FnExactIsGuardedUptoSaid : Prop := fnExactIsGuardedUptoRow.holds Try.pinned (OpenSpec.upto fnExactIsGuardedSpec)

/-- 'laws.FnExactIsPlacing', WHERE WHAT IT READS IS OF BULK AT MOST 1048576: true; the input reads as it did. -/
def fnExactIsPlacingUptoRow : OpenClaim := { program := "ytogdiahojbonaaa", sum := "836c8e90f15c8379ccac72e505ad642628f994b043987a9ba7c60e35b225fe4f", func := "loop.example/g01167/laws.FnExactIsPlacing", spec := "fnExactIsPlacing", unfollowed := true, recurses := true, apart := false, narrowed := true }
def FnExactIsPlacingUptoSaid : Prop := fnExactIsPlacingUptoRow.holds Try.pinned (OpenSpec.upto fnExactIsPlacingSpec)

/-- 'laws.FnExactFirstPlacing', WHERE WHAT IT READS IS OF BULK AT MOST 1048576: true; the input reads as it did. -/
def fnExactFirstPlacingUptoRow : OpenClaim := { program := "ytogdiahojbonaaa", sum := "836c8e90f15c8379ccac72e505ad642628f994b043987a9ba7c60e35b225fe4f", func := "loop.example/g01167/laws.FnExactFirstPlacing", spec := "fnExactFirstPlacing", unfollowed := true, recurses := true, apart := false, narrowed := true }
def FnExactFirstPlacingUptoSaid : Prop := fnExactFirstPlacingUptoRow.holds Try.pinned (OpenSpec.upto fnExactFirstPlacingSpec)

/-- 'laws.FnExactCountPlacings', WHERE WHAT IT READS IS OF BULK AT MOST 1048576: true; the input reads as it did. -/
def fnExactCountPlacingsUptoRow : OpenClaim := { program := "ytogdiahojbonaaa", sum := "836c8e90f15c8379ccac72e505ad642628f994b043987a9ba7c60e35b225fe4f", func := "loop.example/g01167/laws.FnExactCountPlacings", spec := "fnExactCountPlacings", unfollowed := true, recurses := true, apart := false, narrowed := true }
def FnExactCountPlacingsUptoSaid : Prop := fnExactCountPlacingsUptoRow.holds Try.pinned (OpenSpec.upto fnExactCountPlacingsSpec)

/-- 'laws.FnExactPlaceRow', WHERE WHAT IT READS IS OF BULK AT MOST 1048576: true; the input reads as it did. -/
def fnExactPlaceRowUptoRow : OpenClaim := { program := "ytogdiahojbonaaa", sum := "836c8e90f15c8379ccac72e505ad642628f994b043987a9ba7c60e35b225fe4f", func := "loop.example/g01167/laws.FnExactPlaceRow", spec := "fnExactPlaceRow", unfollowed := true, recurses := true, apart := false, narrowed := true }
def FnExactPlaceRowUptoSaid : Prop := fnExactPlaceRowUptoRow.holds Try.pinned (OpenSpec.upto fnExactPlaceRowSpec)

end Rows
end Go.Proofs.Ytogdiahojbonaaa
