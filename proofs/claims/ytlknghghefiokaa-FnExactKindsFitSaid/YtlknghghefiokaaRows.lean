/-
  No cell of these rows narrows 'for every input' (looked for: loops, veiled, ifaces, maps, wideKeys, modest, calm, conditions, laid).
  DERIVED. THE GIVEN ROWS OF THIS SEAT. 5 by the template 'for every input the law returns true; each argument reads behind the call as it read before'; 0 by the template 'total and deterministic' (their statements: YtlknghghefiokaaTotals.lean).
  GIVEN WITH THE SEED: the statements are not yours to turn. If you find one false, say at which input.
  Laid BY PROGRAM, IN A SANDBOX (cutbox-rows.mjs): the forced cells as the released guide's own fill.sh prints them over the translation 0c2e9178b008f587… (all of the seat's roots in one cut). By AI agents, Wed Nov 11 2026. No macro, syntax, notation, axiom, sorry.
-/
import Derived.Test.YtlknghghefiokaaChecked
import GoSem.Claim
import GoSem.ClaimJoined
import GoSem.ClaimMapViews
import Derived.JoinedTies
import Derived.KernelRfl
namespace Go.Proofs.Ytlknghghefiokaa
/- THE CELL 'sum', in the pinned program and in every row, IS THE sha256 OF THE DUMP (.gsa) THAT YtlknghghefiokaaProg.lean LOADS. Nothing in Lean hashes anything: it is a label: what it is worth is what the hold of that sum in a sandbox is worth. -/
noncomputable def Try.pinned : Pinned := { name := "ytlknghghefiokaa", sum := "0c2e9178b008f587ee3d2a9b36d90234295da1f9f61b7646f46cd782a70daaa4", checked := Try.checked }
namespace Rows
def none {H : Type} : Left H := { results := [], args := [] }

/-- 'laws.FnExactIsRule': WHATEVER THE INPUT: true; the input reads as it did. -/
def fnExactIsRuleSpec : ChangeSpec := { name := "fnExactIsRule", fn := fun _ => fun
  | [d] => { results := [.lit (.bool true)], args := [d] }
  | _ => none }
def fnExactIsRuleRow : OpenClaim := { program := "ytlknghghefiokaa", sum := "0c2e9178b008f587ee3d2a9b36d90234295da1f9f61b7646f46cd782a70daaa4", func := "loop.example/g01167/laws.FnExactIsRule", spec := "fnExactIsRule", plainKeys := false, apart := false }
def FnExactIsRuleSaid : Prop := fnExactIsRuleRow.holds Try.pinned (OpenSpec.ofChange fnExactIsRuleSpec)

/-- ITS FALSE NEIGHBOUR: 'it returns false'. Refute it at one input. -/
def fnExactIsRuleWrong : ChangeSpec := { name := "fnExactIsRule", fn := fun _ => fun
  | [d] => { results := [.lit (.bool false)], args := [d] }
  | _ => none }
def FnExactIsRuleWrongFalsely : Prop := fnExactIsRuleRow.holds Try.pinned (OpenSpec.ofChange fnExactIsRuleWrong)

/-- 'laws.FnExactKindsFit': WHATEVER THE INPUT: true; the input reads as it did. -/
def fnExactKindsFitSpec : ChangeSpec := { name := "fnExactKindsFit", fn := fun _ => fun
  | [d1, d2, d3] => { results := [.lit (.bool true)], args := [d1, d2, d3] }
  | _ => none }
def fnExactKindsFitRow : OpenClaim := { program := "ytlknghghefiokaa", sum := "0c2e9178b008f587ee3d2a9b36d90234295da1f9f61b7646f46cd782a70daaa4", func := "loop.example/g01167/laws.FnExactKindsFit", spec := "fnExactKindsFit", unfollowed := true, recurses := true, plainKeys := false, apart := false }
def FnExactKindsFitSaid : Prop := fnExactKindsFitRow.holds Try.pinned (OpenSpec.ofChange fnExactKindsFitSpec)

/-- ITS FALSE NEIGHBOUR: 'it returns false'. Refute it at one input. -/
def fnExactKindsFitWrong : ChangeSpec := { name := "fnExactKindsFit", fn := fun _ => fun
  | [d1, d2, d3] => { results := [.lit (.bool false)], args := [d1, d2, d3] }
  | _ => none }
def FnExactKindsFitWrongFalsely : Prop := fnExactKindsFitRow.holds Try.pinned (OpenSpec.ofChange fnExactKindsFitWrong)

/-- 'laws.FnExactCountKinds': WHATEVER THE INPUT: true; the input reads as it did. -/
def fnExactCountKindsSpec : ChangeSpec := { name := "fnExactCountKinds", fn := fun _ => fun
  | [d1, d2, d3] => { results := [.lit (.bool true)], args := [d1, d2, d3] }
  | _ => none }
def fnExactCountKindsRow : OpenClaim := { program := "ytlknghghefiokaa", sum := "0c2e9178b008f587ee3d2a9b36d90234295da1f9f61b7646f46cd782a70daaa4", func := "loop.example/g01167/laws.FnExactCountKinds", spec := "fnExactCountKinds", unfollowed := true, recurses := true, plainKeys := false, apart := false }
def FnExactCountKindsSaid : Prop := fnExactCountKindsRow.holds Try.pinned (OpenSpec.ofChange fnExactCountKindsSpec)

/-- ITS FALSE NEIGHBOUR: 'it returns false'. Refute it at one input. -/
def fnExactCountKindsWrong : ChangeSpec := { name := "fnExactCountKinds", fn := fun _ => fun
  | [d1, d2, d3] => { results := [.lit (.bool false)], args := [d1, d2, d3] }
  | _ => none }
def FnExactCountKindsWrongFalsely : Prop := fnExactCountKindsRow.holds Try.pinned (OpenSpec.ofChange fnExactCountKindsWrong)

/-- 'laws.FnExactFirstKinds': WHATEVER THE INPUT: true; the input reads as it did. -/
def fnExactFirstKindsSpec : ChangeSpec := { name := "fnExactFirstKinds", fn := fun _ => fun
  | [d1, d2, d3] => { results := [.lit (.bool true)], args := [d1, d2, d3] }
  | _ => none }
def fnExactFirstKindsRow : OpenClaim := { program := "ytlknghghefiokaa", sum := "0c2e9178b008f587ee3d2a9b36d90234295da1f9f61b7646f46cd782a70daaa4", func := "loop.example/g01167/laws.FnExactFirstKinds", spec := "fnExactFirstKinds", unfollowed := true, recurses := true, plainKeys := false, apart := false }
def FnExactFirstKindsSaid : Prop := fnExactFirstKindsRow.holds Try.pinned (OpenSpec.ofChange fnExactFirstKindsSpec)

/-- ITS FALSE NEIGHBOUR: 'it returns false'. Refute it at one input. -/
def fnExactFirstKindsWrong : ChangeSpec := { name := "fnExactFirstKinds", fn := fun _ => fun
  | [d1, d2, d3] => { results := [.lit (.bool false)], args := [d1, d2, d3] }
  | _ => none }
def FnExactFirstKindsWrongFalsely : Prop := fnExactFirstKindsRow.holds Try.pinned (OpenSpec.ofChange fnExactFirstKindsWrong)

/-- 'laws.FnExactCountFitting': WHATEVER THE INPUT: true; the input reads as it did. -/
def fnExactCountFittingSpec : ChangeSpec := { name := "fnExactCountFitting", fn := fun _ => fun
  | [d1, d2] => { results := [.lit (.bool true)], args := [d1, d2] }
  | _ => none }
def fnExactCountFittingRow : OpenClaim := { program := "ytlknghghefiokaa", sum := "0c2e9178b008f587ee3d2a9b36d90234295da1f9f61b7646f46cd782a70daaa4", func := "loop.example/g01167/laws.FnExactCountFitting", spec := "fnExactCountFitting", unfollowed := true, recurses := true, plainKeys := false, apart := false }
def FnExactCountFittingSaid : Prop := fnExactCountFittingRow.holds Try.pinned (OpenSpec.ofChange fnExactCountFittingSpec)

/-- ITS FALSE NEIGHBOUR: 'it returns false'. Refute it at one input. -/
def fnExactCountFittingWrong : ChangeSpec := { name := "fnExactCountFitting", fn := fun _ => fun
  | [d1, d2] => { results := [.lit (.bool false)], args := [d1, d2] }
  | _ => none }
def FnExactCountFittingWrongFalsely : Prop := fnExactCountFittingRow.holds Try.pinned (OpenSpec.ofChange fnExactCountFittingWrong)

/- THE SECOND FORM. 'bulk': how many values and letters a reading holds, each counted each time it is reached (what is shared counts as often as it is met; a slice's spare places count too). A statement '..UptoSaid' is the law's where the arguments, and the package variables that the reading takes, are together of bulk at most 1048576: NARROWER than '..Said'. Prove '..Said' where nothing that the law and all that it calls make is longer than what came in: it says more and counts as full. Else prove '..UptoSaid'. A law counts once. -/
mutual
def uptoBulk {H : Type} : DataW H → Nat
  | .lit (.string bytes) => bytes.length + 1
  | .lit _ => 1
  | .nil => 1
  | .ptr d => uptoBulk d + 1
  | .slice elems spare => uptoBulkAll elems + uptoBulkAll spare + 1
  | .agg parts => uptoBulkAll parts + 1
  | .iface _ d => uptoBulk d + 1
  | .map entries => uptoBulkEntries entries + 1
  | .held _ => 1
def uptoBulkAll {H : Type} : List (DataW H) → Nat
  | [] => 0
  | d :: r => uptoBulk d + uptoBulkAll r
def uptoBulkEntries {H : Type} : List (Lit × DataW H) → Nat
  | [] => 0
  | x :: r => uptoBulkEntry x + uptoBulkEntries r
def uptoBulkEntry {H : Type} : Lit × DataW H → Nat
  | (.string bytes, d) => bytes.length + uptoBulk d + 1
  | (_, d) => uptoBulk d + 1
 end
def uptoSmall : (H : Type) → List (DataW H) → Bool := fun _ ds => decide (uptoBulkAll ds ≤ 1048576)
def OpenSpec.upto (s : _root_.Go.ChangeSpec) : _root_.Go.OpenSpec := { _root_.Go.OpenSpec.ofChange s with cond := some uptoSmall }

/-- 'laws.FnExactIsRule', WHERE WHAT IT READS IS OF BULK AT MOST 1048576: true; the input reads as it did. -/
def fnExactIsRuleUptoRow : OpenClaim := { program := "ytlknghghefiokaa", sum := "0c2e9178b008f587ee3d2a9b36d90234295da1f9f61b7646f46cd782a70daaa4", func := "loop.example/g01167/laws.FnExactIsRule", spec := "fnExactIsRule", plainKeys := false, apart := false, narrowed := true }
def FnExactIsRuleUptoSaid : Prop := fnExactIsRuleUptoRow.holds Try.pinned (OpenSpec.upto fnExactIsRuleSpec)

/-- 'laws.FnExactKindsFit', WHERE WHAT IT READS IS OF BULK AT MOST 1048576: true; the input reads as it did. -/
def fnExactKindsFitUptoRow : OpenClaim := { program := "ytlknghghefiokaa", sum := "0c2e9178b008f587ee3d2a9b36d90234295da1f9f61b7646f46cd782a70daaa4", func := "loop.example/g01167/laws.FnExactKindsFit", spec := "fnExactKindsFit", unfollowed := true, recurses := true, plainKeys := false, apart := false, narrowed := true }
def FnExactKindsFitUptoSaid : Prop := fnExactKindsFitUptoRow.holds Try.pinned (OpenSpec.upto fnExactKindsFitSpec)

/-- 'laws.FnExactCountKinds', WHERE WHAT IT READS IS OF BULK AT MOST 1048576: true; the input reads as it did. -/
def fnExactCountKindsUptoRow : OpenClaim := { program := "ytlknghghefiokaa", sum := "0c2e9178b008f587ee3d2a9b36d90234295da1f9f61b7646f46cd782a70daaa4", func := "loop.example/g01167/laws.FnExactCountKinds", spec := "fnExactCountKinds", unfollowed := true, recurses := true, plainKeys := false, apart := false, narrowed := true }
def FnExactCountKindsUptoSaid : Prop := fnExactCountKindsUptoRow.holds Try.pinned (OpenSpec.upto fnExactCountKindsSpec)

/-- 'laws.FnExactFirstKinds', WHERE WHAT IT READS IS OF BULK AT MOST 1048576: true; the input reads as it did. -/
def fnExactFirstKindsUptoRow : OpenClaim := { program := "ytlknghghefiokaa", sum := "0c2e9178b008f587ee3d2a9b36d90234295da1f9f61b7646f46cd782a70daaa4", func := "loop.example/g01167/laws.FnExactFirstKinds", spec := "fnExactFirstKinds", unfollowed := true, recurses := true, plainKeys := false, apart := false, narrowed := true }
def FnExactFirstKindsUptoSaid : Prop := fnExactFirstKindsUptoRow.holds Try.pinned (OpenSpec.upto fnExactFirstKindsSpec)

/-- 'laws.FnExactCountFitting', WHERE WHAT IT READS IS OF BULK AT MOST 1048576: true; the input reads as it did. -/
def fnExactCountFittingUptoRow : OpenClaim := { program := "ytlknghghefiokaa", sum := "0c2e9178b008f587ee3d2a9b36d90234295da1f9f61b7646f46cd782a70daaa4", func := "loop.example/g01167/laws.FnExactCountFitting", spec := "fnExactCountFitting", unfollowed := true, recurses := true, plainKeys := false, apart := false, narrowed := true }
def FnExactCountFittingUptoSaid : Prop := fnExactCountFittingUptoRow.holds Try.pinned (OpenSpec.upto fnExactCountFittingSpec)

end Rows
end Go.Proofs.Ytlknghghefiokaa
