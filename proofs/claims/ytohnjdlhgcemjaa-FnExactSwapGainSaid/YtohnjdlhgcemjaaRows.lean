/-
  No cell of these rows narrows 'for every input' (looked for: loops, veiled, ifaces, maps, wideKeys, modest, calm, conditions, laid).
  DERIVED. THE GIVEN ROWS OF THIS SEAT. 6 by the template 'for every input the law returns true; each argument reads behind the call as it read before'; 0 by the template 'total and deterministic' (their statements: YtohnjdlhgcemjaaTotals.lean).
  GIVEN WITH THE SEED: the statements are not yours to turn. If you find one false, say at which input.
  Laid BY PROGRAM, IN A SANDBOX (cutbox-rows.mjs): the forced cells as the released guide's own fill.sh prints them over the translation 6f35c2c89b0b6e5d… (all of the seat's roots in one cut). By AI agents, Wed Nov 11 2026. No macro, syntax, notation, axiom, sorry.
-/
import Derived.Test.YtohnjdlhgcemjaaChecked
import GoSem.Claim
import GoSem.ClaimJoined
import GoSem.ClaimMapViews
import Derived.JoinedTies
import Derived.KernelRfl
namespace Go.Proofs.Ytohnjdlhgcemjaa
/- THE CELL 'sum', in the pinned program and in every row, IS THE sha256 OF THE DUMP (.gsa) THAT YtohnjdlhgcemjaaProg.lean LOADS. Nothing in Lean hashes anything: it is a label: what it is worth is what the hold of that sum in a sandbox is worth. -/
noncomputable def Try.pinned : Pinned := { name := "ytohnjdlhgcemjaa", sum := "6f35c2c89b0b6e5dd7e97291ec46ff532ff34bf896abfff77c8fdf59c5dc035c", checked := Try.checked }
namespace Rows
def none {H : Type} : Left H := { results := [], args := [] }

/-- 'laws.FnExactBoardTime': WHATEVER THE INPUT: true; the input reads as it did. -/
def fnExactBoardTimeSpec : ChangeSpec := { name := "fnExactBoardTime", fn := fun _ => fun
  | [d1, d2, d3] => { results := [.lit (.bool true)], args := [d1, d2, d3] }
  | _ => none }
def fnExactBoardTimeRow : OpenClaim := { program := "ytohnjdlhgcemjaa", sum := "6f35c2c89b0b6e5dd7e97291ec46ff532ff34bf896abfff77c8fdf59c5dc035c", func := "loop.example/g01167/laws.FnExactBoardTime", spec := "fnExactBoardTime", unfollowed := true, recurses := true, apart := false }
def FnExactBoardTimeSaid : Prop := fnExactBoardTimeRow.holds Try.pinned (OpenSpec.ofChange fnExactBoardTimeSpec)

/-- ITS FALSE NEIGHBOUR: 'it returns false'. Refute it at one input. -/
def fnExactBoardTimeWrong : ChangeSpec := { name := "fnExactBoardTime", fn := fun _ => fun
  | [d1, d2, d3] => { results := [.lit (.bool false)], args := [d1, d2, d3] }
  | _ => none }
def FnExactBoardTimeWrongFalsely : Prop := fnExactBoardTimeRow.holds Try.pinned (OpenSpec.ofChange fnExactBoardTimeWrong)

/-- 'laws.FnExactSitTimes': WHATEVER THE INPUT: true; the input reads as it did. -/
def fnExactSitTimesSpec : ChangeSpec := { name := "fnExactSitTimes", fn := fun _ => fun
  | [d1, d2, d3] => { results := [.lit (.bool true)], args := [d1, d2, d3] }
  | _ => none }
def fnExactSitTimesRow : OpenClaim := { program := "ytohnjdlhgcemjaa", sum := "6f35c2c89b0b6e5dd7e97291ec46ff532ff34bf896abfff77c8fdf59c5dc035c", func := "loop.example/g01167/laws.FnExactSitTimes", spec := "fnExactSitTimes", unfollowed := true, recurses := true, apart := false }
def FnExactSitTimesSaid : Prop := fnExactSitTimesRow.holds Try.pinned (OpenSpec.ofChange fnExactSitTimesSpec)

/-- ITS FALSE NEIGHBOUR: 'it returns false'. Refute it at one input. -/
def fnExactSitTimesWrong : ChangeSpec := { name := "fnExactSitTimes", fn := fun _ => fun
  | [d1, d2, d3] => { results := [.lit (.bool false)], args := [d1, d2, d3] }
  | _ => none }
def FnExactSitTimesWrongFalsely : Prop := fnExactSitTimesRow.holds Try.pinned (OpenSpec.ofChange fnExactSitTimesWrong)

/-- 'laws.FnExactEnterTimes': WHATEVER THE INPUT: true; the input reads as it did. -/
def fnExactEnterTimesSpec : ChangeSpec := { name := "fnExactEnterTimes", fn := fun _ => fun
  | [d1, d2, d3] => { results := [.lit (.bool true)], args := [d1, d2, d3] }
  | _ => none }
def fnExactEnterTimesRow : OpenClaim := { program := "ytohnjdlhgcemjaa", sum := "6f35c2c89b0b6e5dd7e97291ec46ff532ff34bf896abfff77c8fdf59c5dc035c", func := "loop.example/g01167/laws.FnExactEnterTimes", spec := "fnExactEnterTimes", unfollowed := true, recurses := true, apart := false }
def FnExactEnterTimesSaid : Prop := fnExactEnterTimesRow.holds Try.pinned (OpenSpec.ofChange fnExactEnterTimesSpec)

/-- ITS FALSE NEIGHBOUR: 'it returns false'. Refute it at one input. -/
def fnExactEnterTimesWrong : ChangeSpec := { name := "fnExactEnterTimes", fn := fun _ => fun
  | [d1, d2, d3] => { results := [.lit (.bool false)], args := [d1, d2, d3] }
  | _ => none }
def FnExactEnterTimesWrongFalsely : Prop := fnExactEnterTimesRow.holds Try.pinned (OpenSpec.ofChange fnExactEnterTimesWrong)

/-- 'laws.FnExactWaitTimes': WHATEVER THE INPUT: true; the input reads as it did. -/
def fnExactWaitTimesSpec : ChangeSpec := { name := "fnExactWaitTimes", fn := fun _ => fun
  | [d1, d2, d3] => { results := [.lit (.bool true)], args := [d1, d2, d3] }
  | _ => none }
def fnExactWaitTimesRow : OpenClaim := { program := "ytohnjdlhgcemjaa", sum := "6f35c2c89b0b6e5dd7e97291ec46ff532ff34bf896abfff77c8fdf59c5dc035c", func := "loop.example/g01167/laws.FnExactWaitTimes", spec := "fnExactWaitTimes", unfollowed := true, recurses := true, apart := false }
def FnExactWaitTimesSaid : Prop := fnExactWaitTimesRow.holds Try.pinned (OpenSpec.ofChange fnExactWaitTimesSpec)

/-- ITS FALSE NEIGHBOUR: 'it returns false'. Refute it at one input. -/
def fnExactWaitTimesWrong : ChangeSpec := { name := "fnExactWaitTimes", fn := fun _ => fun
  | [d1, d2, d3] => { results := [.lit (.bool false)], args := [d1, d2, d3] }
  | _ => none }
def FnExactWaitTimesWrongFalsely : Prop := fnExactWaitTimesRow.holds Try.pinned (OpenSpec.ofChange fnExactWaitTimesWrong)

/-- 'laws.FnExactAisleAt': WHATEVER THE INPUT: true; the input reads as it did. -/
def fnExactAisleAtSpec : ChangeSpec := { name := "fnExactAisleAt", fn := fun _ => fun
  | [d1, d2, d3, d4] => { results := [.lit (.bool true)], args := [d1, d2, d3, d4] }
  | _ => none }
def fnExactAisleAtRow : OpenClaim := { program := "ytohnjdlhgcemjaa", sum := "6f35c2c89b0b6e5dd7e97291ec46ff532ff34bf896abfff77c8fdf59c5dc035c", func := "loop.example/g01167/laws.FnExactAisleAt", spec := "fnExactAisleAt", unfollowed := true, recurses := true, apart := false }
def FnExactAisleAtSaid : Prop := fnExactAisleAtRow.holds Try.pinned (OpenSpec.ofChange fnExactAisleAtSpec)

/-- ITS FALSE NEIGHBOUR: 'it returns false'. Refute it at one input. -/
def fnExactAisleAtWrong : ChangeSpec := { name := "fnExactAisleAt", fn := fun _ => fun
  | [d1, d2, d3, d4] => { results := [.lit (.bool false)], args := [d1, d2, d3, d4] }
  | _ => none }
def FnExactAisleAtWrongFalsely : Prop := fnExactAisleAtRow.holds Try.pinned (OpenSpec.ofChange fnExactAisleAtWrong)

/-- 'laws.FnExactSwapGain': WHATEVER THE INPUT: true; the input reads as it did. -/
def fnExactSwapGainSpec : ChangeSpec := { name := "fnExactSwapGain", fn := fun _ => fun
  | [d1, d2, d3, d4] => { results := [.lit (.bool true)], args := [d1, d2, d3, d4] }
  | _ => none }
def fnExactSwapGainRow : OpenClaim := { program := "ytohnjdlhgcemjaa", sum := "6f35c2c89b0b6e5dd7e97291ec46ff532ff34bf896abfff77c8fdf59c5dc035c", func := "loop.example/g01167/laws.FnExactSwapGain", spec := "fnExactSwapGain", unfollowed := true, recurses := true, apart := false }
def FnExactSwapGainSaid : Prop := fnExactSwapGainRow.holds Try.pinned (OpenSpec.ofChange fnExactSwapGainSpec)

/-- ITS FALSE NEIGHBOUR: 'it returns false'. Refute it at one input. -/
def fnExactSwapGainWrong : ChangeSpec := { name := "fnExactSwapGain", fn := fun _ => fun
  | [d1, d2, d3, d4] => { results := [.lit (.bool false)], args := [d1, d2, d3, d4] }
  | _ => none }
def FnExactSwapGainWrongFalsely : Prop := fnExactSwapGainRow.holds Try.pinned (OpenSpec.ofChange fnExactSwapGainWrong)

/- THE SECOND FORM. 'bulk': how many values and letters a reading holds, each counted each time it is reached (what is shared counts as often as it is met; a slice's spare places count too). A statement '..UptoSaid' is the law's where the arguments, and the package variables that the reading takes, are together of bulk at most 1048576: NARROWER than '..Said'. Prove '..Said' where nothing that the law and all that it calls make is longer than what came in: it says more and counts as full. Else prove '..UptoSaid'. A law counts once. -/
mutual
def uptoBulk {H : Type} : DataW H → Nat
  | .lit (.string bytes) => bytes.length + 1
  | .lit _ => 1
  | .nil => 1
  | .ptr d => uptoBulk d + 1
  | .slice elems spare => uptoBulkAll elems + uptoBulkAll spare + 1
  | .agg parts => uptoBulkAll parts + 1
  | .iface _ d => uptoBulk d + 1
  | .map entries => uptoBulkEntries entries + 1
  | .held _ => 1
def uptoBulkAll {H : Type} : List (DataW H) → Nat
  | [] => 0
  | d :: r => uptoBulk d + uptoBulkAll r
def uptoBulkEntries {H : Type} : List (Lit × DataW H) → Nat
  | [] => 0
  | x :: r => uptoBulkEntry x + uptoBulkEntries r
def uptoBulkEntry {H : Type} : Lit × DataW H → Nat
  | (.string bytes, d) => bytes.length + uptoBulk d + 1
  | (_, d) => uptoBulk d + 1
 end
def uptoSmall : (H : Type) → List (DataW H) → Bool := fun _ ds => decide (uptoBulkAll ds ≤ 1048576)
def OpenSpec.upto (s : _root_.Go.ChangeSpec) : _root_.Go.OpenSpec := { _root_.Go.OpenSpec.ofChange s with cond := some uptoSmall }

/-- 'laws.FnExactBoardTime', WHERE WHAT IT READS IS OF BULK AT MOST 1048576: true; the input reads as it did. -/
def fnExactBoardTimeUptoRow : OpenClaim := { program := "ytohnjdlhgcemjaa", sum := "6f35c2c89b0b6e5dd7e97291ec46ff532ff34bf896abfff77c8fdf59c5dc035c", func := "loop.example/g01167/laws.FnExactBoardTime", spec := "fnExactBoardTime", unfollowed := true, recurses := true, apart := false, narrowed := true }
def FnExactBoardTimeUptoSaid : Prop := fnExactBoardTimeUptoRow.holds Try.pinned (OpenSpec.upto fnExactBoardTimeSpec)

/-- 'laws.FnExactSitTimes', WHERE WHAT IT READS IS OF BULK AT MOST 1048576: true; the input reads as it did. -/
def fnExactSitTimesUptoRow : OpenClaim := { program := "ytohnjdlhgcemjaa", sum := "6f35c2c89b0b6e5dd7e97291ec46ff532ff34bf896abfff77c8fdf59c5dc035c", func := "loop.example/g01167/laws.FnExactSitTimes", spec := "fnExactSitTimes", unfollowed := true, recurses := true, apart := false, narrowed := true }
def FnExactSitTimesUptoSaid : Prop := fnExactSitTimesUptoRow.holds Try.pinned (OpenSpec.upto fnExactSitTimesSpec)

/-- 'laws.FnExactEnterTimes', WHERE WHAT IT READS IS OF BULK AT MOST 1048576: true; the input reads as it did. -/
def fnExactEnterTimesUptoRow : OpenClaim := { program := "ytohnjdlhgcemjaa", sum := "6f35c2c89b0b6e5dd7e97291ec46ff532ff34bf896abfff77c8fdf59c5dc035c", func := "loop.example/g01167/laws.FnExactEnterTimes", spec := "fnExactEnterTimes", unfollowed := true, recurses := true, apart := false, narrowed := true }
def FnExactEnterTimesUptoSaid : Prop := fnExactEnterTimesUptoRow.holds Try.pinned (OpenSpec.upto fnExactEnterTimesSpec)

/-- 'laws.FnExactWaitTimes', WHERE WHAT IT READS IS OF BULK AT MOST 1048576: true; the input reads as it did. -/
def fnExactWaitTimesUptoRow : OpenClaim := { program := "ytohnjdlhgcemjaa", sum := "6f35c2c89b0b6e5dd7e97291ec46ff532ff34bf896abfff77c8fdf59c5dc035c", func := "loop.example/g01167/laws.FnExactWaitTimes", spec := "fnExactWaitTimes", unfollowed := true, recurses := true, apart := false, narrowed := true }
def FnExactWaitTimesUptoSaid : Prop := fnExactWaitTimesUptoRow.holds Try.pinned (OpenSpec.upto fnExactWaitTimesSpec)

/-- 'laws.FnExactAisleAt', WHERE WHAT IT READS IS OF BULK AT MOST 1048576: true; the input reads as it did. -/
def fnExactAisleAtUptoRow : OpenClaim := { program := "ytohnjdlhgcemjaa", sum := "6f35c2c89b0b6e5dd7e97291ec46ff532ff34bf896abfff77c8fdf59c5dc035c", func := "loop.example/g01167/laws.FnExactAisleAt", spec := "fnExactAisleAt", unfollowed := true, recurses := true, apart := false, narrowed := true }
def FnExactAisleAtUptoSaid : Prop := fnExactAisleAtUptoRow.holds Try.pinned (OpenSpec.upto fnExactAisleAtSpec)

/-- 'laws.FnExactSwapGain', WHERE WHAT IT READS IS OF BULK AT MOST 1048576: true; the input reads as it did. -/
def fnExactSwapGainUptoRow : OpenClaim := { program := "ytohnjdlhgcemjaa", sum := "6f35c2c89b0b6e5dd7e97291ec46ff532ff34bf896abfff77c8fdf59c5dc035c", func := "loop.example/g01167/laws.FnExactSwapGain", spec := "fnExactSwapGain", unfollowed := true, recurses := true, apart := false, narrowed := true }
def FnExactSwapGainUptoSaid : Prop := fnExactSwapGainUptoRow.holds Try.pinned (OpenSpec.upto fnExactSwapGainSpec)

end Rows
end Go.Proofs.Ytohnjdlhgcemjaa
