/-
  No cell of these rows narrows 'for every input' (looked for: loops, veiled, ifaces, maps, wideKeys, modest, calm, conditions, laid).
  DERIVED. THE GIVEN ROWS OF THIS SEAT. 6 by the template 'for every input the law returns true; each argument reads behind the call as it read before'; 0 by the template 'total and deterministic' (their statements: YtbgmfjhcgfnfoaaTotals.lean).
  GIVEN WITH THE SEED: the statements are not yours to turn. If you find one false, say at which input.
  Laid BY PROGRAM, IN A SANDBOX (cutbox-rows.mjs): the forced cells as the released guide's own fill.sh prints them over the translation 07012f50c8303e89… (all of the seat's roots in one cut). By AI agents, Wed Nov 11 2026. No macro, syntax, notation, axiom, sorry.
-/
import Derived.Test.YtbgmfjhcgfnfoaaChecked
import GoSem.Claim
import GoSem.ClaimJoined
import GoSem.ClaimMapViews
import Derived.JoinedTies
import Derived.KernelRfl
namespace Go.Proofs.Ytbgmfjhcgfnfoaa
/- THE CELL 'sum', in the pinned program and in every row, IS THE sha256 OF THE DUMP (.gsa) THAT YtbgmfjhcgfnfoaaProg.lean LOADS. Nothing in Lean hashes anything: it is a label: what it is worth is what the hold of that sum in a sandbox is worth. -/
noncomputable def Try.pinned : Pinned := { name := "ytbgmfjhcgfnfoaa", sum := "07012f50c8303e8976b499a08fb86d61dfbbb68533b3a76dac4c9bb6c7b07e96", checked := Try.checked }
namespace Rows
def none {H : Type} : Left H := { results := [], args := [] }

/-- 'laws.FnExactLonelySeats': WHATEVER THE INPUT: true; the input reads as it did. -/
def fnExactLonelySeatsSpec : ChangeSpec := { name := "fnExactLonelySeats", fn := fun _ => fun
  | [d] => { results := [.lit (.bool true)], args := [d] }
  | _ => none }
def fnExactLonelySeatsRow : OpenClaim := { program := "ytbgmfjhcgfnfoaa", sum := "07012f50c8303e8976b499a08fb86d61dfbbb68533b3a76dac4c9bb6c7b07e96", func := "loop.example/g01167/laws.FnExactLonelySeats", spec := "fnExactLonelySeats", unfollowed := true, recurses := true, apart := false }
def FnExactLonelySeatsSaid : Prop := fnExactLonelySeatsRow.holds Try.pinned (OpenSpec.ofChange fnExactLonelySeatsSpec)

/-- ITS FALSE NEIGHBOUR: 'it returns false'. Refute it at one input. -/
def fnExactLonelySeatsWrong : ChangeSpec := { name := "fnExactLonelySeats", fn := fun _ => fun
  | [d] => { results := [.lit (.bool false)], args := [d] }
  | _ => none }
def FnExactLonelySeatsWrongFalsely : Prop := fnExactLonelySeatsRow.holds Try.pinned (OpenSpec.ofChange fnExactLonelySeatsWrong)

/-- 'laws.FnExactRunsOf': WHATEVER THE INPUT: true; the input reads as it did. -/
def fnExactRunsOfSpec : ChangeSpec := { name := "fnExactRunsOf", fn := fun _ => fun
  | [d] => { results := [.lit (.bool true)], args := [d] }
  | _ => none }
def fnExactRunsOfRow : OpenClaim := { program := "ytbgmfjhcgfnfoaa", sum := "07012f50c8303e8976b499a08fb86d61dfbbb68533b3a76dac4c9bb6c7b07e96", func := "loop.example/g01167/laws.FnExactRunsOf", spec := "fnExactRunsOf", unfollowed := true, recurses := true, apart := false }
def FnExactRunsOfSaid : Prop := fnExactRunsOfRow.holds Try.pinned (OpenSpec.ofChange fnExactRunsOfSpec)

/-- ITS FALSE NEIGHBOUR: 'it returns false'. Refute it at one input. -/
def fnExactRunsOfWrong : ChangeSpec := { name := "fnExactRunsOf", fn := fun _ => fun
  | [d] => { results := [.lit (.bool false)], args := [d] }
  | _ => none }
def FnExactRunsOfWrongFalsely : Prop := fnExactRunsOfRow.holds Try.pinned (OpenSpec.ofChange fnExactRunsOfWrong)

/-- 'laws.FnExactBlocksOf': WHATEVER THE INPUT: true; the input reads as it did. -/
def fnExactBlocksOfSpec : ChangeSpec := { name := "fnExactBlocksOf", fn := fun _ => fun
  | [d] => { results := [.lit (.bool true)], args := [d] }
  | _ => none }
def fnExactBlocksOfRow : OpenClaim := { program := "ytbgmfjhcgfnfoaa", sum := "07012f50c8303e8976b499a08fb86d61dfbbb68533b3a76dac4c9bb6c7b07e96", func := "loop.example/g01167/laws.FnExactBlocksOf", spec := "fnExactBlocksOf", unfollowed := true, recurses := true, apart := false }
def FnExactBlocksOfSaid : Prop := fnExactBlocksOfRow.holds Try.pinned (OpenSpec.ofChange fnExactBlocksOfSpec)

/-- ITS FALSE NEIGHBOUR: 'it returns false'. Refute it at one input. -/
def fnExactBlocksOfWrong : ChangeSpec := { name := "fnExactBlocksOf", fn := fun _ => fun
  | [d] => { results := [.lit (.bool false)], args := [d] }
  | _ => none }
def FnExactBlocksOfWrongFalsely : Prop := fnExactBlocksOfRow.holds Try.pinned (OpenSpec.ofChange fnExactBlocksOfWrong)

/-- 'laws.FnExactFewestFilled': WHATEVER THE INPUT: true; the input reads as it did. -/
def fnExactFewestFilledSpec : ChangeSpec := { name := "fnExactFewestFilled", fn := fun _ => fun
  | [d] => { results := [.lit (.bool true)], args := [d] }
  | _ => none }
def fnExactFewestFilledRow : OpenClaim := { program := "ytbgmfjhcgfnfoaa", sum := "07012f50c8303e8976b499a08fb86d61dfbbb68533b3a76dac4c9bb6c7b07e96", func := "loop.example/g01167/laws.FnExactFewestFilled", spec := "fnExactFewestFilled", unfollowed := true, recurses := true, apart := false }
def FnExactFewestFilledSaid : Prop := fnExactFewestFilledRow.holds Try.pinned (OpenSpec.ofChange fnExactFewestFilledSpec)

/-- ITS FALSE NEIGHBOUR: 'it returns false'. Refute it at one input. -/
def fnExactFewestFilledWrong : ChangeSpec := { name := "fnExactFewestFilled", fn := fun _ => fun
  | [d] => { results := [.lit (.bool false)], args := [d] }
  | _ => none }
def FnExactFewestFilledWrongFalsely : Prop := fnExactFewestFilledRow.holds Try.pinned (OpenSpec.ofChange fnExactFewestFilledWrong)

/-- 'laws.FnExactJoinSeats': WHATEVER THE INPUT: true; the input reads as it did. -/
def fnExactJoinSeatsSpec : ChangeSpec := { name := "fnExactJoinSeats", fn := fun _ => fun
  | [d1, d2] => { results := [.lit (.bool true)], args := [d1, d2] }
  | _ => none }
def fnExactJoinSeatsRow : OpenClaim := { program := "ytbgmfjhcgfnfoaa", sum := "07012f50c8303e8976b499a08fb86d61dfbbb68533b3a76dac4c9bb6c7b07e96", func := "loop.example/g01167/laws.FnExactJoinSeats", spec := "fnExactJoinSeats", apart := false }
def FnExactJoinSeatsSaid : Prop := fnExactJoinSeatsRow.holds Try.pinned (OpenSpec.ofChange fnExactJoinSeatsSpec)

/-- ITS FALSE NEIGHBOUR: 'it returns false'. Refute it at one input. -/
def fnExactJoinSeatsWrong : ChangeSpec := { name := "fnExactJoinSeats", fn := fun _ => fun
  | [d1, d2] => { results := [.lit (.bool false)], args := [d1, d2] }
  | _ => none }
def FnExactJoinSeatsWrongFalsely : Prop := fnExactJoinSeatsRow.holds Try.pinned (OpenSpec.ofChange fnExactJoinSeatsWrong)

/-- 'laws.FnExactParseRow': WHATEVER THE INPUT: true; the input reads as it did. -/
def fnExactParseRowSpec : ChangeSpec := { name := "fnExactParseRow", fn := fun _ => fun
  | [d] => { results := [.lit (.bool true)], args := [d] }
  | _ => none }
def fnExactParseRowRow : OpenClaim := { program := "ytbgmfjhcgfnfoaa", sum := "07012f50c8303e8976b499a08fb86d61dfbbb68533b3a76dac4c9bb6c7b07e96", func := "loop.example/g01167/laws.FnExactParseRow", spec := "fnExactParseRow", apart := false }
def FnExactParseRowSaid : Prop := fnExactParseRowRow.holds Try.pinned (OpenSpec.ofChange fnExactParseRowSpec)

/-- ITS FALSE NEIGHBOUR: 'it returns false'. Refute it at one input. -/
def fnExactParseRowWrong : ChangeSpec := { name := "fnExactParseRow", fn := fun _ => fun
  | [d] => { results := [.lit (.bool false)], args := [d] }
  | _ => none }
def FnExactParseRowWrongFalsely : Prop := fnExactParseRowRow.holds Try.pinned (OpenSpec.ofChange fnExactParseRowWrong)

/- THE SECOND FORM. 'bulk': how many values and letters a reading holds, each counted each time it is reached (what is shared counts as often as it is met; a slice's spare places count too). A statement '..UptoSaid' is the law's where the arguments, and the package variables that the reading takes, are together of bulk at most 1048576: NARROWER than '..Said'. Prove '..Said' where nothing that the law and all that it calls make is longer than what came in: it says more and counts as full. Else prove '..UptoSaid'. A law counts once. -/
mutual
def uptoBulk {H : Type} : DataW H → Nat
  | .lit (.string bytes) => bytes.length + 1
  | .lit _ => 1
  | .nil => 1
  | .ptr d => uptoBulk d + 1
  | .slice elems spare => uptoBulkAll elems + uptoBulkAll spare + 1
  | .agg parts => uptoBulkAll parts + 1
  | .iface _ d => uptoBulk d + 1
  | .map entries => uptoBulkEntries entries + 1
  | .held _ => 1
def uptoBulkAll {H : Type} : List (DataW H) → Nat
  | [] => 0
  | d :: r => uptoBulk d + uptoBulkAll r
def uptoBulkEntries {H : Type} : List (Lit × DataW H) → Nat
  | [] => 0
  | x :: r => uptoBulkEntry x + uptoBulkEntries r
def uptoBulkEntry {H : Type} : Lit × DataW H → Nat
  | (.string bytes, d) => bytes.length + uptoBulk d + 1
  | (_, d) => uptoBulk d + 1
 end
def uptoSmall : (H : Type) → List (DataW H) → Bool := fun _ ds => decide (uptoBulkAll ds ≤ 1048576)
def OpenSpec.upto (s : _root_.Go.ChangeSpec) : _root_.Go.OpenSpec := { _root_.Go.OpenSpec.ofChange s with cond := some uptoSmall }

/-- 'laws.FnExactLonelySeats', WHERE WHAT IT READS IS OF BULK AT MOST 1048576: true; the input reads as it did. -/
def fnExactLonelySeatsUptoRow : OpenClaim := { program := "ytbgmfjhcgfnfoaa", sum := "07012f50c8303e8976b499a08fb86d61dfbbb68533b3a76dac4c9bb6c7b07e96", func := "loop.example/g01167/laws.FnExactLonelySeats", spec := "fnExactLonelySeats", unfollowed := true, recurses := true, apart := false, narrowed := true }
def FnExactLonelySeatsUptoSaid : Prop := fnExactLonelySeatsUptoRow.holds Try.pinned (OpenSpec.upto fnExactLonelySeatsSpec)

/-- 'laws.FnExactRunsOf', WHERE WHAT IT READS IS OF BULK AT MOST 1048576: true; the input reads as it did. -/
def fnExactRunsOfUptoRow : OpenClaim := { program := "ytbgmfjhcgfnfoaa", sum := "07012f50c8303e8976b499a08fb86d61dfbbb68533b3a76dac4c9bb6c7b07e96", func := "loop.example/g01167/laws.FnExactRunsOf", spec := "fnExactRunsOf", unfollowed := true, recurses := true, apart := false, narrowed := true }
def FnExactRunsOfUptoSaid : Prop := fnExactRunsOfUptoRow.holds Try.pinned (OpenSpec.upto fnExactRunsOfSpec)

/-- 'laws.FnExactBlocksOf', WHERE WHAT IT READS IS OF BULK AT MOST 1048576: true; the input reads as it did. -/
def fnExactBlocksOfUptoRow : OpenClaim := { program := "ytbgmfjhcgfnfoaa", sum := "07012f50c8303e8976b499a08fb86d61dfbbb68533b3a76dac4c9bb6c7b07e96", func := "loop.example/g01167/laws.FnExactBlocksOf", spec := "fnExactBlocksOf", unfollowed := true, recurses := true, apart := false, narrowed := true }
def FnExactBlocksOfUptoSaid : Prop := fnExactBlocksOfUptoRow.holds Try.pinned (OpenSpec.upto fnExactBlocksOfSpec)

/-- 'laws.FnExactFewestFilled', WHERE WHAT IT READS IS OF BULK AT MOST 1048576: true; the input reads as it did. -/
def fnExactFewestFilledUptoRow : OpenClaim := { program := "ytbgmfjhcgfnfoaa", sum := "07012f50c8303e8976b499a08fb86d61dfbbb68533b3a76dac4c9bb6c7b07e96", func := "loop.example/g01167/laws.FnExactFewestFilled", spec := "fnExactFewestFilled", unfollowed := true, recurses := true, apart := false, narrowed := true }
def FnExactFewestFilledUptoSaid : Prop := fnExactFewestFilledUptoRow.holds Try.pinned (OpenSpec.upto fnExactFewestFilledSpec)

/-- 'laws.FnExactJoinSeats', WHERE WHAT IT READS IS OF BULK AT MOST 1048576: true; the input reads as it did. -/
def fnExactJoinSeatsUptoRow : OpenClaim := { program := "ytbgmfjhcgfnfoaa", sum := "07012f50c8303e8976b499a08fb86d61dfbbb68533b3a76dac4c9bb6c7b07e96", func := "loop.example/g01167/laws.FnExactJoinSeats", spec := "fnExactJoinSeats", apart := false, narrowed := true }
def FnExactJoinSeatsUptoSaid : Prop := fnExactJoinSeatsUptoRow.holds Try.pinned (OpenSpec.upto fnExactJoinSeatsSpec)

/-- 'laws.FnExactParseRow', WHERE WHAT IT READS IS OF BULK AT MOST 1048576: true; the input reads as it did. -/
def fnExactParseRowUptoRow : OpenClaim := { program := "ytbgmfjhcgfnfoaa", sum := "07012f50c8303e8976b499a08fb86d61dfbbb68533b3a76dac4c9bb6c7b07e96", func := "loop.example/g01167/laws.FnExactParseRow", spec := "fnExactParseRow", apart := false, narrowed := true }
def FnExactParseRowUptoSaid : Prop := fnExactParseRowUptoRow.holds Try.pinned (OpenSpec.upto fnExactParseRowSpec)

end Rows
end Go.Proofs.Ytbgmfjhcgfnfoaa
