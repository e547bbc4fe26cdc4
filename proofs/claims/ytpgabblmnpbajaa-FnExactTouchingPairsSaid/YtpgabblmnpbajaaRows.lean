/-
  No cell of these rows narrows 'for every input' (looked for: loops, veiled, ifaces, maps, wideKeys, modest, calm, conditions, laid).
  DERIVED. THE GIVEN ROWS OF THIS SEAT. 5 by the template 'for every input the law returns true; each argument reads behind the call as it read before'; 0 by the template 'total and deterministic' (their statements: YtpgabblmnpbajaaTotals.lean).
  GIVEN WITH THE SEED: the statements are not yours to turn. If you find one false, say at which input.
  Laid BY PROGRAM, IN A SANDBOX (cutbox-rows.mjs): the forced cells as the released guide's own fill.sh prints them over the translation 4b837b5febf84f51… (all of the seat's roots in one cut). By AI agents, Wed Nov 11 2026. No macro, syntax, notation, axiom, sorry.
-/
import Derived.Test.YtpgabblmnpbajaaChecked
import GoSem.Claim
import GoSem.ClaimJoined
import GoSem.ClaimMapViews
import Derived.JoinedTies
import Derived.KernelRfl
namespace Go.Proofs.Ytpgabblmnpbajaa
/- THE CELL 'sum', in the pinned program and in every row, IS THE sha256 OF THE DUMP (.gsa) THAT YtpgabblmnpbajaaProg.lean LOADS. Nothing in Lean hashes anything: it is a label: what it is worth is what the hold of that sum in a sandbox is worth. -/
noncomputable def Try.pinned : Pinned := { name := "ytpgabblmnpbajaa", sum := "4b837b5febf84f51898b5b727a176071e056c0eed6079e09e70430cba1885818", checked := Try.checked }
namespace Rows
def none {H : Type} : Left H := { results := [], args := [] }

/-- 'laws.FnExactRowText': WHATEVER THE INPUT: true; the input reads as it did. -/
def fnExactRowTextSpec : ChangeSpec := { name := "fnExactRowText", fn := fun _ => fun
  | [d] => { results := [.lit (.bool true)], args := [d] }
  | _ => none }
def fnExactRowTextRow : OpenClaim := { program := "ytpgabblmnpbajaa", sum := "4b837b5febf84f51898b5b727a176071e056c0eed6079e09e70430cba1885818", func := "loop.example/g01167/laws.FnExactRowText", spec := "fnExactRowText", apart := false }
def FnExactRowTextSaid : Prop := fnExactRowTextRow.holds Try.pinned (OpenSpec.ofChange fnExactRowTextSpec)

/-- ITS FALSE NEIGHBOUR: 'it returns false'. Refute it at one input. -/
def fnExactRowTextWrong : ChangeSpec := { name := "fnExactRowText", fn := fun _ => fun
  | [d] => { results := [.lit (.bool false)], args := [d] }
  | _ => none }
def FnExactRowTextWrongFalsely : Prop := fnExactRowTextRow.holds Try.pinned (OpenSpec.ofChange fnExactRowTextWrong)

/-- 'laws.FnExactParseRow': WHATEVER THE INPUT: true; the input reads as it did. -/
def fnExactParseRowSpec : ChangeSpec := { name := "fnExactParseRow", fn := fun _ => fun
  | [d] => { results := [.lit (.bool true)], args := [d] }
  | _ => none }
def fnExactParseRowRow : OpenClaim := { program := "ytpgabblmnpbajaa", sum := "4b837b5febf84f51898b5b727a176071e056c0eed6079e09e70430cba1885818", func := "loop.example/g01167/laws.FnExactParseRow", spec := "fnExactParseRow", apart := false }
def FnExactParseRowSaid : Prop := fnExactParseRowRow.holds Try.pinned (OpenSpec.ofChange fnExactParseRowSpec)

/-- ITS FALSE NEIGHBOUR: 'it returns false'. Refute it at one input. -/
def fnExactParseRowWrong : ChangeSpec := { name := "fnExactParseRow", fn := fun _ => fun
  | [d] => { results := [.lit (.bool false)], args := [d] }
  | _ => none }
def FnExactParseRowWrongFalsely : Prop := fnExactParseRowRow.holds Try.pinned (OpenSpec.ofChange fnExactParseRowWrong)

/-- 'laws.FnExactRunsOf': WHATEVER THE INPUT: true; the input reads as it did. -/
def fnExactRunsOfSpec : ChangeSpec := { name := "fnExactRunsOf", fn := fun _ => fun
  | [d] => { results := [.lit (.bool true)], args := [d] }
  | _ => none }
def fnExactRunsOfRow : OpenClaim := { program := "ytpgabblmnpbajaa", sum := "4b837b5febf84f51898b5b727a176071e056c0eed6079e09e70430cba1885818", func := "loop.example/g01167/laws.FnExactRunsOf", spec := "fnExactRunsOf", unfollowed := true, recurses := true, apart := false }
def FnExactRunsOfSaid : Prop := fnExactRunsOfRow.holds Try.pinned (OpenSpec.ofChange fnExactRunsOfSpec)

/-- ITS FALSE NEIGHBOUR: 'it returns false'. Refute it at one input. -/
def fnExactRunsOfWrong : ChangeSpec := { name := "fnExactRunsOf", fn := fun _ => fun
  | [d] => { results := [.lit (.bool false)], args := [d] }
  | _ => none }
def FnExactRunsOfWrongFalsely : Prop := fnExactRunsOfRow.holds Try.pinned (OpenSpec.ofChange fnExactRunsOfWrong)

/-- 'laws.FnExactSeatNeighbors': WHATEVER THE INPUT: true; the input reads as it did. -/
def fnExactSeatNeighborsSpec : ChangeSpec := { name := "fnExactSeatNeighbors", fn := fun _ => fun
  | [d1, d2] => { results := [.lit (.bool true)], args := [d1, d2] }
  | _ => none }
def fnExactSeatNeighborsRow : OpenClaim := { program := "ytpgabblmnpbajaa", sum := "4b837b5febf84f51898b5b727a176071e056c0eed6079e09e70430cba1885818", func := "loop.example/g01167/laws.FnExactSeatNeighbors", spec := "fnExactSeatNeighbors", recurses := true, apart := false }
def FnExactSeatNeighborsSaid : Prop := fnExactSeatNeighborsRow.holds Try.pinned (OpenSpec.ofChange fnExactSeatNeighborsSpec)

/-- ITS FALSE NEIGHBOUR: 'it returns false'. Refute it at one input. -/
def fnExactSeatNeighborsWrong : ChangeSpec := { name := "fnExactSeatNeighbors", fn := fun _ => fun
  | [d1, d2] => { results := [.lit (.bool false)], args := [d1, d2] }
  | _ => none }
def FnExactSeatNeighborsWrongFalsely : Prop := fnExactSeatNeighborsRow.holds Try.pinned (OpenSpec.ofChange fnExactSeatNeighborsWrong)

/-- 'laws.FnExactTouchingPairs': WHATEVER THE INPUT: true; the input reads as it did. -/
def fnExactTouchingPairsSpec : ChangeSpec := { name := "fnExactTouchingPairs", fn := fun _ => fun
  | [d] => { results := [.lit (.bool true)], args := [d] }
  | _ => none }
def fnExactTouchingPairsRow : OpenClaim := { program := "ytpgabblmnpbajaa", sum := "4b837b5febf84f51898b5b727a176071e056c0eed6079e09e70430cba1885818", func := "loop.example/g01167/laws.FnExactTouchingPairs", spec := "fnExactTouchingPairs", recurses := true, apart := false }
def FnExactTouchingPairsSaid : Prop := fnExactTouchingPairsRow.holds Try.pinned (OpenSpec.ofChange fnExactTouchingPairsSpec)

/-- ITS FALSE NEIGHBOUR: 'it returns false'. Refute it at one input. -/
def fnExactTouchingPairsWrong : ChangeSpec := { name := "fnExactTouchingPairs", fn := fun _ => fun
  | [d] => { results := [.lit (.bool false)], args := [d] }
  | _ => none }
def FnExactTouchingPairsWrongFalsely : Prop := fnExactTouchingPairsRow.holds Try.pinned (OpenSpec.ofChange fnExactTouchingPairsWrong)

/- THE SECOND FORM. 'bulk': how many values and letters a reading holds, each counted each time it is reached (what is shared counts as often as it is met; a slice's spare places count too). A statement '..UptoSaid' is the law's where the arguments, and the package variables that the reading takes, are together of bulk at most 1048576: NARROWER than '..Said'. Prove '..Said' where nothing that the law and all that it calls make is longer than what came in: it says more and counts as full. Else prove '..UptoSaid'. A law counts once. -/
mutual
def uptoBulk {H : Type} : DataW H → Nat
  | .lit (.string bytes) => bytes.length + 1
  | .lit _ => 1
  | .nil => 1
  | .ptr d => uptoBulk d + 1
  | .slice elems spare => uptoBulkAll elems + uptoBulkAll spare + 1
  | .agg parts => uptoBulkAll parts + 1
  | .iface _ d => uptoBulk d + 1
  | .map entries => uptoBulkEntries entries + 1
  | .held _ => 1
def uptoBulkAll {H : Type} : List (DataW H) → Nat
  | [] => 0
  | d :: r => uptoBulk d + uptoBulkAll r
def uptoBulkEntries {H : Type} : List (Lit × DataW H) → Nat
  | [] => 0
  | x :: r => uptoBulkEntry x + uptoBulkEntries r
def uptoBulkEntry {H : Type} : Lit × DataW H → Nat
  | (.string bytes, d) => bytes.length + uptoBulk d + 1
  | (_, d) => uptoBulk d + 1
 end
def uptoSmall : (H : Type) → List (DataW H) → Bool := fun _ ds => decide (uptoBulkAll ds ≤ 1048576)
def OpenSpec.upto (s : _root_.Go.ChangeSpec) : _root_.Go.OpenSpec := { _root_.Go.OpenSpec.ofChange s with cond := some uptoSmall }

/-- 'laws.FnExactRowText', WHERE WHAT IT READS IS OF BULK AT MOST 1048576: true; the input reads as it did. -/
def fnExactRowTextUptoRow : OpenClaim := { program := "ytpgabblmnpbajaa", sum := "4b837b5febf84f51898b5b727a176071e056c0eed6079e09e70430cba1885818", func := "loop.example/g01167/laws.FnExactRowText", spec := "fnExactRowText", apart := false, narrowed := true }
def FnExactRowTextUptoSaid : Prop := fnExactRowTextUptoRow.holds Try.pinned (OpenSpec.upto fnExactRowTextSpec)

/-- 'laws.FnExactParseRow', WHERE WHAT IT READS IS OF BULK AT MOST 1048576: true; the input reads as it did. -/
def fnExactParseRowUptoRow : OpenClaim := { program := "ytpgabblmnpbajaa", sum := "4b837b5febf84f51898b5b727a176071e056c0eed6079e09e70430cba1885818", func := "loop.example/g01167/laws.FnExactParseRow", spec := "fnExactParseRow", apart := false, narrowed := true }
def FnExactParseRowUptoSaid : Prop := fnExactParseRowUptoRow.holds Try.pinned (OpenSpec.upto fnExactParseRowSpec)

/-- 'laws.FnExactRunsOf', WHERE WHAT IT READS IS OF BULK AT MOST 1048576: true; the input reads as it did. -/
def fnExactRunsOfUptoRow : OpenClaim := { program := "ytpgabblmnpbajaa", sum := "4b837b5febf84f51898b5b727a176071e056c0eed6079e09e70430cba1885818", func := "loop.example/g01167/laws.FnExactRunsOf", spec := "fnExactRunsOf", unfollowed := true, recurses := true, apart := false, narrowed := true }
def FnExactRunsOfUptoSaid : Prop := fnExactRunsOfUptoRow.holds Try.pinned (OpenSpec.upto fnExactRunsOfSpec)

/-- 'laws.FnExactSeatNeighbors', WHERE WHAT IT READS IS OF BULK AT MOST 1048576: true; the input reads as it did. -/
def fnExactSeatNeighborsUptoRow : OpenClaim := { program := "ytpgabblmnpbajaa", sum := "4b837b5febf84f51898b5b727a176071e056c0eed6079e09e70430cba1885818", func := "loop.example/g01167/laws.FnExactSeatNeighbors", spec := "fnExactSeatNeighbors", recurses := true, apart := false, narrowed := true }
def FnExactSeatNeighborsUptoSaid : Prop := fnExactSeatNeighborsUptoRow.holds Try.pinned (OpenSpec.upto fnExactSeatNeighborsSpec)

/-- 'laws.FnExactTouchingPairs', WHERE WHAT IT READS IS OF BULK AT MOST 1048576: true; the input reads as it did. -/
def fnExactTouchingPairsUptoRow : OpenClaim := { program := "ytpgabblmnpbajaa", sum := "4b837b5febf84f51898b5b727a176071e056c0eed6079e09e70430cba1885818", func := "loop.example/g01167/laws.FnExactTouchingPairs", spec := "fnExactTouchingPairs", recurses := true, apart := false, narrowed := true }
def FnExactTouchingPairsUptoSaid : Prop := fnExactTouchingPairsUptoRow.holds Try.pinned (OpenSpec.upto fnExactTouchingPairsSpec)

end Rows
end Go.Proofs.Ytpgabblmnpbajaa
