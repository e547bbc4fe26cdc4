/-
  No cell of these rows narrows 'for every input' (looked for: loops, veiled, ifaces, maps, wideKeys, modest, calm, conditions, laid).
  DERIVED. THE GIVEN ROWS OF THIS SEAT. 7 by the template 'for every input the law returns true; each argument reads behind the call as it read before'; 0 by the template 'total and deterministic' (their statements: YtlapbdiiolaefaaTotals.lean).
  GIVEN WITH THE SEED: the statements are not yours to turn. If you find one false, say at which input.
  Laid BY PROGRAM, IN A SANDBOX (cutbox-rows.mjs): the forced cells as the released guide's own fill.sh prints them over the translation 67d456cef77ad5da… (all of the seat's roots in one cut). By AI agents, Wed Nov 11 2026. No macro, syntax, notation, axiom, sorry.
-/
import Derived.Test.YtlapbdiiolaefaaChecked
import GoSem.Claim
import GoSem.ClaimJoined
import GoSem.ClaimMapViews
import Derived.JoinedTies
import Derived.KernelRfl
namespace Go.Proofs.Ytlapbdiiolaefaa
/- THE CELL 'sum', in the pinned program and in every row, IS THE sha256 OF THE DUMP (.gsa) THAT YtlapbdiiolaefaaProg.lean LOADS. Nothing in Lean hashes anything: it is a label: what it is worth is what the hold of that sum in a sandbox is worth. -/
noncomputable def Try.pinned : Pinned := { name := "ytlapbdiiolaefaa", sum := "67d456cef77ad5daea67736d6ae18354c64c4278cbb5e8998df8d7794219a803", checked := Try.checked }
namespace Rows
def none {H : Type} : Left H := { results := [], args := [] }

/-- 'laws.FnExactIsRow': WHATEVER THE INPUT: true; the input reads as it did. -/
def fnExactIsRowSpec : ChangeSpec := { name := "fnExactIsRow", fn := fun _ => fun
  | [d] => { results := [.lit (.bool true)], args := [d] }
  | _ => none }
def fnExactIsRowRow : OpenClaim := { program := "ytlapbdiiolaefaa", sum := "67d456cef77ad5daea67736d6ae18354c64c4278cbb5e8998df8d7794219a803", func := "loop.example/g01167/laws.FnExactIsRow", spec := "fnExactIsRow", apart := false }
def FnExactIsRowSaid : Prop := fnExactIsRowRow.holds Try.pinned (OpenSpec.ofChange fnExactIsRowSpec)

/-- ITS FALSE NEIGHBOUR: 'it returns false'. Refute it at one input. -/
def fnExactIsRowWrong : ChangeSpec := { name := "fnExactIsRow", fn := fun _ => fun
  | [d] => { results := [.lit (.bool false)], args := [d] }
  | _ => none }
def FnExactIsRowWrongFalsely : Prop := fnExactIsRowRow.holds Try.pinned (OpenSpec.ofChange fnExactIsRowWrong)

/-- 'laws.FnExactSeatGap': WHATEVER THE INPUT: true; the input reads as it did. -/
def fnExactSeatGapSpec : ChangeSpec := { name := "fnExactSeatGap", fn := fun _ => fun
  | [d1, d2, d3] => { results := [.lit (.bool true)], args := [d1, d2, d3] }
  | _ => none }
def fnExactSeatGapRow : OpenClaim := { program := "ytlapbdiiolaefaa", sum := "67d456cef77ad5daea67736d6ae18354c64c4278cbb5e8998df8d7794219a803", func := "loop.example/g01167/laws.FnExactSeatGap", spec := "fnExactSeatGap", apart := false }
def FnExactSeatGapSaid : Prop := fnExactSeatGapRow.holds Try.pinned (OpenSpec.ofChange fnExactSeatGapSpec)

/-- ITS FALSE NEIGHBOUR: 'it returns false'. Refute it at one input. -/
def fnExactSeatGapWrong : ChangeSpec := { name := "fnExactSeatGap", fn := fun _ => fun
  | [d1, d2, d3] => { results := [.lit (.bool false)], args := [d1, d2, d3] }
  | _ => none }
def FnExactSeatGapWrongFalsely : Prop := fnExactSeatGapRow.holds Try.pinned (OpenSpec.ofChange fnExactSeatGapWrong)

/-- 'laws.FnExactNearestTaken': WHATEVER THE INPUT: true; the input reads as it did. -/
def fnExactNearestTakenSpec : ChangeSpec := { name := "fnExactNearestTaken", fn := fun _ => fun
  | [d1, d2] => { results := [.lit (.bool true)], args := [d1, d2] }
  | _ => none }
def fnExactNearestTakenRow : OpenClaim := { program := "ytlapbdiiolaefaa", sum := "67d456cef77ad5daea67736d6ae18354c64c4278cbb5e8998df8d7794219a803", func := "loop.example/g01167/laws.FnExactNearestTaken", spec := "fnExactNearestTaken", unfollowed := true, recurses := true, apart := false }
def FnExactNearestTakenSaid : Prop := fnExactNearestTakenRow.holds Try.pinned (OpenSpec.ofChange fnExactNearestTakenSpec)

/-- ITS FALSE NEIGHBOUR: 'it returns false'. Refute it at one input. -/
def fnExactNearestTakenWrong : ChangeSpec := { name := "fnExactNearestTaken", fn := fun _ => fun
  | [d1, d2] => { results := [.lit (.bool false)], args := [d1, d2] }
  | _ => none }
def FnExactNearestTakenWrongFalsely : Prop := fnExactNearestTakenRow.holds Try.pinned (OpenSpec.ofChange fnExactNearestTakenWrong)

/-- 'laws.FnExactNearestFree': WHATEVER THE INPUT: true; the input reads as it did. -/
def fnExactNearestFreeSpec : ChangeSpec := { name := "fnExactNearestFree", fn := fun _ => fun
  | [d1, d2] => { results := [.lit (.bool true)], args := [d1, d2] }
  | _ => none }
def fnExactNearestFreeRow : OpenClaim := { program := "ytlapbdiiolaefaa", sum := "67d456cef77ad5daea67736d6ae18354c64c4278cbb5e8998df8d7794219a803", func := "loop.example/g01167/laws.FnExactNearestFree", spec := "fnExactNearestFree", unfollowed := true, recurses := true, apart := false }
def FnExactNearestFreeSaid : Prop := fnExactNearestFreeRow.holds Try.pinned (OpenSpec.ofChange fnExactNearestFreeSpec)

/-- ITS FALSE NEIGHBOUR: 'it returns false'. Refute it at one input. -/
def fnExactNearestFreeWrong : ChangeSpec := { name := "fnExactNearestFree", fn := fun _ => fun
  | [d1, d2] => { results := [.lit (.bool false)], args := [d1, d2] }
  | _ => none }
def FnExactNearestFreeWrongFalsely : Prop := fnExactNearestFreeRow.holds Try.pinned (OpenSpec.ofChange fnExactNearestFreeWrong)

/-- 'laws.FnExactFreeSeats': WHATEVER THE INPUT: true; the input reads as it did. -/
def fnExactFreeSeatsSpec : ChangeSpec := { name := "fnExactFreeSeats", fn := fun _ => fun
  | [d] => { results := [.lit (.bool true)], args := [d] }
  | _ => none }
def fnExactFreeSeatsRow : OpenClaim := { program := "ytlapbdiiolaefaa", sum := "67d456cef77ad5daea67736d6ae18354c64c4278cbb5e8998df8d7794219a803", func := "loop.example/g01167/laws.FnExactFreeSeats", spec := "fnExactFreeSeats", unfollowed := true, recurses := true, apart := false }
def FnExactFreeSeatsSaid : Prop := fnExactFreeSeatsRow.holds Try.pinned (OpenSpec.ofChange fnExactFreeSeatsSpec)

/-- ITS FALSE NEIGHBOUR: 'it returns false'. Refute it at one input. -/
def fnExactFreeSeatsWrong : ChangeSpec := { name := "fnExactFreeSeats", fn := fun _ => fun
  | [d] => { results := [.lit (.bool false)], args := [d] }
  | _ => none }
def FnExactFreeSeatsWrongFalsely : Prop := fnExactFreeSeatsRow.holds Try.pinned (OpenSpec.ofChange fnExactFreeSeatsWrong)

/-- 'laws.FnExactLonelySeats': WHATEVER THE INPUT: true; the input reads as it did. -/
def fnExactLonelySeatsSpec : ChangeSpec := { name := "fnExactLonelySeats", fn := fun _ => fun
  | [d] => { results := [.lit (.bool true)], args := [d] }
  | _ => none }
def fnExactLonelySeatsRow : OpenClaim := { program := "ytlapbdiiolaefaa", sum := "67d456cef77ad5daea67736d6ae18354c64c4278cbb5e8998df8d7794219a803", func := "loop.example/g01167/laws.FnExactLonelySeats", spec := "fnExactLonelySeats", unfollowed := true, recurses := true, apart := false }
def FnExactLonelySeatsSaid : Prop := fnExactLonelySeatsRow.holds Try.pinned (OpenSpec.ofChange fnExactLonelySeatsSpec)

/-- ITS FALSE NEIGHBOUR: 'it returns false'. Refute it at one input. -/
def fnExactLonelySeatsWrong : ChangeSpec := { name := "fnExactLonelySeats", fn := fun _ => fun
  | [d] => { results := [.lit (.bool false)], args := [d] }
  | _ => none }
def FnExactLonelySeatsWrongFalsely : Prop := fnExactLonelySeatsRow.holds Try.pinned (OpenSpec.ofChange fnExactLonelySeatsWrong)

/-- 'laws.FnExactRunsOf': WHATEVER THE INPUT: true; the input reads as it did. -/
def fnExactRunsOfSpec : ChangeSpec := { name := "fnExactRunsOf", fn := fun _ => fun
  | [d] => { results := [.lit (.bool true)], args := [d] }
  | _ => none }
def fnExactRunsOfRow : OpenClaim := { program := "ytlapbdiiolaefaa", sum := "67d456cef77ad5daea67736d6ae18354c64c4278cbb5e8998df8d7794219a803", func := "loop.example/g01167/laws.FnExactRunsOf", spec := "fnExactRunsOf", unfollowed := true, recurses := true, apart := false }
def FnExactRunsOfSaid : Prop := fnExactRunsOfRow.holds Try.pinned (OpenSpec.ofChange fnExactRunsOfSpec)

/-- ITS FALSE NEIGHBOUR: 'it returns false'. Refute it at one input. -/
def fnExactRunsOfWrong : ChangeSpec := { name := "fnExactRunsOf", fn := fun _ => fun
  | [d] => { results := [.lit (.bool false)], args := [d] }
  | _ => none }
def FnExactRunsOfWrongFalsely : Prop := fnExactRunsOfRow.holds Try.pinned (OpenSpec.ofChange fnExactRunsOfWrong)

/- THE SECOND FORM. 'bulk': how many values and letters a reading holds, each counted each time it is reached (what is shared counts as often as it is met; a slice's spare places count too). A statement '..UptoSaid' is the law's where the arguments, and the package variables that the reading takes, are together of bulk at most 1048576: NARROWER than '..Said'. Prove '..Said' where nothing that the law and all that it calls make is longer than what came in: it says more and counts as full. Else prove '..UptoSaid'. A law counts once. -/
mutual
def uptoBulk {H : Type} : DataW H → Nat
  | .lit (.string bytes) => bytes.length + 1
  | .lit _ => 1
  | .nil => 1
  | .ptr d => uptoBulk d + 1
  | .slice elems spare => uptoBulkAll elems + uptoBulkAll spare + 1
  | .agg parts => uptoBulkAll parts + 1
  | .iface _ d => uptoBulk d + 1
  | .map entries => uptoBulkEntries entries + 1
  | .held _ => 1
def uptoBulkAll {H : Type} : List (DataW H) → Nat
  | [] => 0
  | d :: r => uptoBulk d + uptoBulkAll r
def uptoBulkEntries {H : Type} : List (Lit × DataW H) → Nat
  | [] => 0
  | x :: r => uptoBulkEntry x + uptoBulkEntries r
def uptoBulkEntry {H : Type} : Lit × DataW H → Nat
  | (.string bytes, d) => bytes.length + uptoBulk d + 1
  | (_, d) => uptoBulk d + 1
 end
def uptoSmall : (H : Type) → List (DataW H) → Bool := fun _ ds => decide (uptoBulkAll ds ≤ 1048576)
def OpenSpec.upto (s : _root_.Go.ChangeSpec) : _root_.Go.OpenSpec := { _root_.Go.OpenSpec.ofChange s with cond := some uptoSmall }

/-- 'laws.FnExactIsRow', WHERE WHAT IT READS IS OF BULK AT MOST 1048576: true; the input reads as it did. -/
def fnExactIsRowUptoRow : OpenClaim := { program := "ytlapbdiiolaefaa", sum := "67d456cef77ad5daea67736d6ae18354c64c4278cbb5e8998df8d7794219a803", func := "loop.example/g01167/laws.FnExactIsRow", spec := "fnExactIsRow", apart := false, narrowed := true }
def FnExactIsRowUptoSaid : Prop := fnExactIsRowUptoRow.holds Try.pinned (OpenSpec.upto fnExactIsRowSpec)

/-- 'laws.FnExactSeatGap', WHERE WHAT IT READS IS OF BULK AT MOST 1048576: true; the input reads as it did. -/
def fnExactSeatGapUptoRow : OpenClaim := { program := "ytlapbdiiolaefaa", sum := "67d456cef77ad5daea67736d6ae18354c64c4278cbb5e8998df8d7794219a803", func := "loop.example/g01167/laws.FnExactSeatGap", spec := "fnExactSeatGap", apart := false, narrowed := true }
def FnExactSeatGapUptoSaid : Prop := fnExactSeatGapUptoRow.holds Try.pinned (OpenSpec.upto fnExactSeatGapSpec)

/-- 'laws.FnExactNearestTaken', WHERE WHAT IT READS IS OF BULK AT MOST 1048576: true; the input reads as it did. -/
def fnExactNearestTakenUptoRow : OpenClaim := { program := "ytlapbdiiolaefaa", sum := "67d456cef77ad5daea67736d6ae18354c64c4278cbb5e8998df8d7794219a803", func := "loop.example/g01167/laws.FnExactNearestTaken", spec := "fnExactNearestTaken", unfollowed := true, recurses := true, apart := false, narrowed := true }
def FnExactNearestTakenUptoSaid : Prop := fnExactNearestTakenUptoRow.holds Try.pinned (OpenSpec.upto fnExactNearestTakenSpec)

/-- 'laws.FnExactNearestFree', WHERE WHAT IT READS IS OF BULK AT MOST 1048576: true; the input reads as it did. -/
def fnExactNearestFreeUptoRow : OpenClaim := { program := "ytlapbdiiolaefaa", sum := "67d456cef77ad5daea67736d6ae18354c64c4278cbb5e8998df8d7794219a803", func := "loop.example/g01167/laws.FnExactNearestFree", spec := "fnExactNearestFree", unfollowed := true, recurses := true, apart := false, narrowed := true }
def FnExactNearestFreeUptoSaid : Prop := fnExactNearestFreeUptoRow.holds Try.pinned (OpenSpec.upto fnExactNearestFreeSpec)

/-- 'laws.FnExactFreeSeats', WHERE WHAT IT READS IS OF BULK AT MOST 1048576: true; the input reads as it did. -/
def fnExactFreeSeatsUptoRow : OpenClaim := { program := "ytlapbdiiolaefaa", sum := "67d456cef77ad5daea67736d6ae18354c64c4278cbb5e8998df8d7794219a803", func := "loop.example/g01167/laws.FnExactFreeSeats", spec := "fnExactFreeSeats", unfollowed := true, recurses := true, apart := false, narrowed := true }
def FnExactFreeSeatsUptoSaid : Prop := fnExactFreeSeatsUptoRow.holds Try.pinned (OpenSpec.upto fnExactFreeSeatsSpec)

/-- 'laws.FnExactLonelySeats', WHERE WHAT IT READS IS OF BULK AT MOST 1048576: true; the input reads as it did. -/
def fnExactLonelySeatsUptoRow : OpenClaim := { program := "ytlapbdiiolaefaa", sum := "67d456cef77ad5daea67736d6ae18354c64c4278cbb5e8998df8d7794219a803", func := "loop.example/g01167/laws.FnExactLonelySeats", spec := "fnExactLonelySeats", unfollowed := true, recurses := true, apart := false, narrowed := true }
def FnExactLonelySeatsUptoSaid : Prop := fnExactLonelySeatsUptoRow.holds Try.pinned (OpenSpec.upto fnExactLonelySeatsSpec)

/-- 'laws.FnExactRunsOf', WHERE WHAT IT READS IS OF BULK AT MOST 1048576: true; the input reads as it did. -/
def fnExactRunsOfUptoRow : OpenClaim := { program := "ytlapbdiiolaefaa", sum := "67d456cef77ad5daea67736d6ae18354c64c4278cbb5e8998df8d7794219a803", func := "loop.example/g01167/laws.FnExactRunsOf", spec := "fnExactRunsOf", unfollowed := true, recurses := true, apart := false, narrowed := true }
def FnExactRunsOfUptoSaid : Prop := fnExactRunsOfUptoRow.holds Try.pinned (OpenSpec.upto fnExactRunsOfSpec)

end Rows
end Go.Proofs.Ytlapbdiiolaefaa
