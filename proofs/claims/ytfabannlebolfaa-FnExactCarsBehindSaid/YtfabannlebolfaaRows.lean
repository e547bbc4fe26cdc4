/-
  No cell of these rows narrows 'for every input' (looked for: loops, veiled, ifaces, maps, wideKeys, modest, calm, conditions, laid).
  DERIVED. THE GIVEN ROWS OF THIS SEAT. 5 by the template 'for every input the law returns true; each argument reads behind the call as it read before'; 0 by the template 'total and deterministic' (their statements: YtfabannlebolfaaTotals.lean).
  GIVEN WITH THE SEED: the statements are not yours to turn. If you find one false, say at which input.
  Laid BY PROGRAM, IN A SANDBOX (cutbox-rows.mjs): the forced cells as the released guide's own fill.sh prints them over the translation 0071ec7a7abf0a67… (all of the seat's roots in one cut). By AI agents, Wed Nov 11 2026. No macro, syntax, notation, axiom, sorry.
-/
import Derived.Test.YtfabannlebolfaaChecked
import GoSem.Claim
import GoSem.ClaimJoined
import GoSem.ClaimMapViews
import Derived.JoinedTies
import Derived.KernelRfl
namespace Go.Proofs.Ytfabannlebolfaa
/- THE CELL 'sum', in the pinned program and in every row, IS THE sha256 OF THE DUMP (.gsa) THAT YtfabannlebolfaaProg.lean LOADS. Nothing in Lean hashes anything: it is a label: what it is worth is what the hold of that sum in a sandbox is worth. -/
noncomputable def Try.pinned : Pinned := { name := "ytfabannlebolfaa", sum := "0071ec7a7abf0a67fb922db8c9e4851ee5f9dea3c890855244e5477a6eade8fd", checked := Try.checked }
namespace Rows
def none {H : Type} : Left H := { results := [], args := [] }

/-- 'laws.FnExactCountAllPark': WHATEVER THE INPUT: true; the input reads as it did. -/
def fnExactCountAllParkSpec : ChangeSpec := { name := "fnExactCountAllPark", fn := fun _ => fun
  | [d1, d2] => { results := [.lit (.bool true)], args := [d1, d2] }
  | _ => none }
def fnExactCountAllParkRow : OpenClaim := { program := "ytfabannlebolfaa", sum := "0071ec7a7abf0a67fb922db8c9e4851ee5f9dea3c890855244e5477a6eade8fd", func := "loop.example/g01167/laws.FnExactCountAllPark", spec := "fnExactCountAllPark", apart := false }
def FnExactCountAllParkSaid : Prop := fnExactCountAllParkRow.holds Try.pinned (OpenSpec.ofChange fnExactCountAllParkSpec)

/-- ITS FALSE NEIGHBOUR: 'it returns false'. Refute it at one input. -/
def fnExactCountAllParkWrong : ChangeSpec := { name := "fnExactCountAllPark", fn := fun _ => fun
  | [d1, d2] => { results := [.lit (.bool false)], args := [d1, d2] }
  | _ => none }
def FnExactCountAllParkWrongFalsely : Prop := fnExactCountAllParkRow.holds Try.pinned (OpenSpec.ofChange fnExactCountAllParkWrong)

/-- 'laws.FnExactCountParking': WHATEVER THE INPUT: true; the input reads as it did. -/
def fnExactCountParkingSpec : ChangeSpec := { name := "fnExactCountParking", fn := fun _ => fun
  | [d] => { results := [.lit (.bool true)], args := [d] }
  | _ => none }
def fnExactCountParkingRow : OpenClaim := { program := "ytfabannlebolfaa", sum := "0071ec7a7abf0a67fb922db8c9e4851ee5f9dea3c890855244e5477a6eade8fd", func := "loop.example/g01167/laws.FnExactCountParking", spec := "fnExactCountParking", apart := false }
def FnExactCountParkingSaid : Prop := fnExactCountParkingRow.holds Try.pinned (OpenSpec.ofChange fnExactCountParkingSpec)

/-- ITS FALSE NEIGHBOUR: 'it returns false'. Refute it at one input. -/
def fnExactCountParkingWrong : ChangeSpec := { name := "fnExactCountParking", fn := fun _ => fun
  | [d] => { results := [.lit (.bool false)], args := [d] }
  | _ => none }
def FnExactCountParkingWrongFalsely : Prop := fnExactCountParkingRow.holds Try.pinned (OpenSpec.ofChange fnExactCountParkingWrong)

/-- 'laws.FnExactCarsBehind': WHATEVER THE INPUT: true; the input reads as it did. -/
def fnExactCarsBehindSpec : ChangeSpec := { name := "fnExactCarsBehind", fn := fun _ => fun
  | [d1, d2] => { results := [.lit (.bool true)], args := [d1, d2] }
  | _ => none }
def fnExactCarsBehindRow : OpenClaim := { program := "ytfabannlebolfaa", sum := "0071ec7a7abf0a67fb922db8c9e4851ee5f9dea3c890855244e5477a6eade8fd", func := "loop.example/g01167/laws.FnExactCarsBehind", spec := "fnExactCarsBehind", inPlace := ["slices.overlaps[int]"], apart := false }
def FnExactCarsBehindSaid : Prop := fnExactCarsBehindRow.holds Try.pinned (OpenSpec.ofChange fnExactCarsBehindSpec)

/-- ITS FALSE NEIGHBOUR: 'it returns false'. Refute it at one input. -/
def fnExactCarsBehindWrong : ChangeSpec := { name := "fnExactCarsBehind", fn := fun _ => fun
  | [d1, d2] => { results := [.lit (.bool false)], args := [d1, d2] }
  | _ => none }
def FnExactCarsBehindWrongFalsely : Prop := fnExactCarsBehindRow.holds Try.pinned (OpenSpec.ofChange fnExactCarsBehindWrong)

/-- 'laws.FnExactLuckyCounts': WHATEVER THE INPUT: true; the input reads as it did. -/
def fnExactLuckyCountsSpec : ChangeSpec := { name := "fnExactLuckyCounts", fn := fun _ => fun
  | [d] => { results := [.lit (.bool true)], args := [d] }
  | _ => none }
def fnExactLuckyCountsRow : OpenClaim := { program := "ytfabannlebolfaa", sum := "0071ec7a7abf0a67fb922db8c9e4851ee5f9dea3c890855244e5477a6eade8fd", func := "loop.example/g01167/laws.FnExactLuckyCounts", spec := "fnExactLuckyCounts", apart := false }
def FnExactLuckyCountsSaid : Prop := fnExactLuckyCountsRow.holds Try.pinned (OpenSpec.ofChange fnExactLuckyCountsSpec)

/-- ITS FALSE NEIGHBOUR: 'it returns false'. Refute it at one input. -/
def fnExactLuckyCountsWrong : ChangeSpec := { name := "fnExactLuckyCounts", fn := fun _ => fun
  | [d] => { results := [.lit (.bool false)], args := [d] }
  | _ => none }
def FnExactLuckyCountsWrongFalsely : Prop := fnExactLuckyCountsRow.holds Try.pinned (OpenSpec.ofChange fnExactLuckyCountsWrong)

/-- 'laws.FnExactShiftToPark': WHATEVER THE INPUT: true; the input reads as it did. -/
def fnExactShiftToParkSpec : ChangeSpec := { name := "fnExactShiftToPark", fn := fun _ => fun
  | [d1, d2] => { results := [.lit (.bool true)], args := [d1, d2] }
  | _ => none }
def fnExactShiftToParkRow : OpenClaim := { program := "ytfabannlebolfaa", sum := "0071ec7a7abf0a67fb922db8c9e4851ee5f9dea3c890855244e5477a6eade8fd", func := "loop.example/g01167/laws.FnExactShiftToPark", spec := "fnExactShiftToPark", unfollowed := true, recurses := true, apart := false }
def FnExactShiftToParkSaid : Prop := fnExactShiftToParkRow.holds Try.pinned (OpenSpec.ofChange fnExactShiftToParkSpec)

/-- ITS FALSE NEIGHBOUR: 'it returns false'. Refute it at one input. -/
def fnExactShiftToParkWrong : ChangeSpec := { name := "fnExactShiftToPark", fn := fun _ => fun
  | [d1, d2] => { results := [.lit (.bool false)], args := [d1, d2] }
  | _ => none }
def FnExactShiftToParkWrongFalsely : Prop := fnExactShiftToParkRow.holds Try.pinned (OpenSpec.ofChange fnExactShiftToParkWrong)

/- THE SECOND FORM. 'bulk': how many values and letters a reading holds, each counted each time it is reached (what is shared counts as often as it is met; a slice's spare places count too). A statement '..UptoSaid' is the law's where the arguments, and the package variables that the reading takes, are together of bulk at most 1048576: NARROWER than '..Said'. Prove '..Said' where nothing that the law and all that it calls make is longer than what came in: it says more and counts as full. Else prove '..UptoSaid'. A law counts once. -/
mutual
def uptoBulk {H : Type} : DataW H → Nat
  | .lit (.string bytes) => bytes.length + 1
  | .lit _ => 1
  | .nil => 1
  | .ptr d => uptoBulk d + 1
  | .slice elems spare => uptoBulkAll elems + uptoBulkAll spare + 1
  | .agg parts => uptoBulkAll parts + 1
  | .iface _ d => uptoBulk d + 1
  | .map entries => uptoBulkEntries entries + 1
  | .held _ => 1
def uptoBulkAll {H : Type} : List (DataW H) → Nat
  | [] => 0
  | d :: r => uptoBulk d + uptoBulkAll r
def uptoBulkEntries {H : Type} : List (Lit × DataW H) → Nat
  | [] => 0
  | x :: r => uptoBulkEntry x + uptoBulkEntries r
def uptoBulkEntry {H : Type} : Lit × DataW H → Nat
  | (.string bytes, d) => bytes.length + uptoBulk d + 1
  | (_, d) => uptoBulk d + 1
 end
def uptoSmall : (H : Type) → List (DataW H) → Bool := fun _ ds => decide (uptoBulkAll ds ≤ 1048576)
def OpenSpec.upto (s : _root_.Go.ChangeSpec) : _root_.Go.OpenSpec := { _root_.Go.OpenSpec.ofChange s with cond := some uptoSmall }

/-- 'laws.FnExactCountAllPark', WHERE WHAT IT READS IS OF BULK AT MOST 1048576: true; the input reads as it did. -/
def fnExactCountAllParkUptoRow : OpenClaim := { program := "ytfabannlebolfaa", sum := "0071ec7a7abf0a67fb922db8c9e4851ee5f9dea3c890855244e5477a6eade8fd", func := "loop.example/g01167/laws.FnExactCountAllPark", spec := "fnExactCountAllPark", apart := false, narrowed := true }
def FnExactCountAllParkUptoSaid : Prop := fnExactCountAllParkUptoRow.holds Try.pinned (OpenSpec.upto fnExactCountAllParkSpec)

/-- 'laws.FnExactCountParking', WHERE WHAT IT READS IS OF BULK AT MOST 1048576: true; the input reads as it did. -/
def fnExactCountParkingUptoRow : OpenClaim := { program := "ytfabannlebolfaa", sum := "0071ec7a7abf0a67fb922db8c9e4851ee5f9dea3c890855244e5477a6eade8fd", func := "loop.example/g01167/laws.FnExactCountParking", spec := "fnExactCountParking", apart := false, narrowed := true }
def FnExactCountParkingUptoSaid : Prop := fnExactCountParkingUptoRow.holds Try.pinned (OpenSpec.upto fnExactCountParkingSpec)

/-- 'laws.FnExactCarsBehind', WHERE WHAT IT READS IS OF BULK AT MOST 1048576: true; the input reads as it did. -/
def fnExactCarsBehindUptoRow : OpenClaim := { program := "ytfabannlebolfaa", sum := "0071ec7a7abf0a67fb922db8c9e4851ee5f9dea3c890855244e5477a6eade8fd", func := "loop.example/g01167/laws.FnExactCarsBehind", spec := "fnExactCarsBehind", inPlace := ["slices.overlaps[int]"], apart := false, narrowed := true }
def FnExactCarsBehindUptoSaid : Prop := fnExactCarsBehindUptoRow.holds Try.pinned (OpenSpec.upto fnExactCarsBehindSpec)

/-- 'laws.FnExactLuckyCounts', WHERE WHAT IT READS IS OF BULK AT MOST 1048576: true; the input reads as it did. -/
def fnExactLuckyCountsUptoRow : OpenClaim := { program := "ytfabannlebolfaa", sum := "0071ec7a7abf0a67fb922db8c9e4851ee5f9dea3c890855244e5477a6eade8fd", func := "loop.example/g01167/laws.FnExactLuckyCounts", spec := "fnExactLuckyCounts", apart := false, narrowed := true }
def FnExactLuckyCountsUptoSaid : Prop := fnExactLuckyCountsUptoRow.holds Try.pinned (OpenSpec.upto fnExactLuckyCountsSpec)

/-- 'laws.FnExactShiftToPark', WHERE WHAT IT READS IS OF BULK AT MOST 1048576: true; the input reads as it did. -/
def fnExactShiftToParkUptoRow : OpenClaim := { program := "ytfabannlebolfaa", sum := "0071ec7a7abf0a67fb922db8c9e4851ee5f9dea3c890855244e5477a6eade8fd", func := "loop.example/g01167/laws.FnExactShiftToPark", spec := "fnExactShiftToPark", unfollowed := true, recurses := true, apart := false, narrowed := true }
def FnExactShiftToParkUptoSaid : Prop := fnExactShiftToParkUptoRow.holds Try.pinned (OpenSpec.upto fnExactShiftToParkSpec)

end Rows
end Go.Proofs.Ytfabannlebolfaa
