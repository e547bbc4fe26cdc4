/-
  No cell of these rows narrows 'for every input' (looked for: loops, veiled, ifaces, maps, wideKeys, modest, calm, conditions, laid).
  DERIVED. THE GIVEN ROWS OF THIS SEAT. 6 by the template 'for every input the law returns true; each argument reads behind the call as it read before'; 0 by the template 'total and deterministic' (their statements: YtidiljnonbkpjaaTotals.lean).
  GIVEN WITH THE SEED: the statements are not yours to turn. If you find one false, say at which input.
  Laid BY PROGRAM, IN A SANDBOX (cutbox-rows.mjs): the forced cells as the released guide's own fill.sh prints them over the translation 1fb98133f19b4c05… (all of the seat's roots in one cut). By AI agents, Wed Nov 11 2026. No macro, syntax, notation, axiom, sorry.
-/
import Derived.Test.YtidiljnonbkpjaaChecked
import GoSem.Claim
import GoSem.ClaimJoined
import GoSem.ClaimMapViews
import Derived.JoinedTies
import Derived.KernelRfl
namespace Go.Proofs.Ytidiljnonbkpjaa
/- THE CELL 'sum', in the pinned program and in every row, IS THE sha256 OF THE DUMP (.gsa) THAT YtidiljnonbkpjaaProg.lean LOADS. Nothing in Lean hashes anything: it is a label: what it is worth is what the hold of that sum in a sandbox is worth. -/
noncomputable def Try.pinned : Pinned := { name := "ytidiljnonbkpjaa", sum := "1fb98133f19b4c050238f9b4db1d12fae66a942b53aed716926a6a5daf9080d5", checked := Try.checked }
namespace Rows
def none {H : Type} : Left H := { results := [], args := [] }

/-- 'laws.FnExactJoinSeats': WHATEVER THE INPUT: true; the input reads as it did. -/
def fnExactJoinSeatsSpec : ChangeSpec := { name := "fnExactJoinSeats", fn := fun _ => fun
  | [d1, d2] => { results := [.lit (.bool true)], args := [d1, d2] }
  | _ => none }
def fnExactJoinSeatsRow : OpenClaim := { program := "ytidiljnonbkpjaa", sum := "1fb98133f19b4c050238f9b4db1d12fae66a942b53aed716926a6a5daf9080d5", func := "loop.example/g01167/laws.FnExactJoinSeats", spec := "fnExactJoinSeats", plainKeys := false, apart := false }
def FnExactJoinSeatsSaid : Prop := fnExactJoinSeatsRow.holds Try.pinned (OpenSpec.ofChange fnExactJoinSeatsSpec)

/-- ITS FALSE NEIGHBOUR: 'it returns false'. Refute it at one input. -/
def fnExactJoinSeatsWrong : ChangeSpec := { name := "fnExactJoinSeats", fn := fun _ => fun
  | [d1, d2] => { results := [.lit (.bool false)], args := [d1, d2] }
  | _ => none }
def FnExactJoinSeatsWrongFalsely : Prop := fnExactJoinSeatsRow.holds Try.pinned (OpenSpec.ofChange fnExactJoinSeatsWrong)

/-- 'laws.FnExactFillBy': WHATEVER THE INPUT: true; the input reads as it did. -/
def fnExactFillBySpec : ChangeSpec := { name := "fnExactFillBy", fn := fun _ => fun
  | [d1, d2] => { results := [.lit (.bool true)], args := [d1, d2] }
  | _ => none }
def fnExactFillByRow : OpenClaim := { program := "ytidiljnonbkpjaa", sum := "1fb98133f19b4c050238f9b4db1d12fae66a942b53aed716926a6a5daf9080d5", func := "loop.example/g01167/laws.FnExactFillBy", spec := "fnExactFillBy", unfollowed := true, recurses := true, plainKeys := false, apart := false }
def FnExactFillBySaid : Prop := fnExactFillByRow.holds Try.pinned (OpenSpec.ofChange fnExactFillBySpec)

/-- ITS FALSE NEIGHBOUR: 'it returns false'. Refute it at one input. -/
def fnExactFillByWrong : ChangeSpec := { name := "fnExactFillBy", fn := fun _ => fun
  | [d1, d2] => { results := [.lit (.bool false)], args := [d1, d2] }
  | _ => none }
def FnExactFillByWrongFalsely : Prop := fnExactFillByRow.holds Try.pinned (OpenSpec.ofChange fnExactFillByWrong)

/-- 'laws.FnExactIsFinal': WHATEVER THE INPUT: true; the input reads as it did. -/
def fnExactIsFinalSpec : ChangeSpec := { name := "fnExactIsFinal", fn := fun _ => fun
  | [d1, d2] => { results := [.lit (.bool true)], args := [d1, d2] }
  | _ => none }
def fnExactIsFinalRow : OpenClaim := { program := "ytidiljnonbkpjaa", sum := "1fb98133f19b4c050238f9b4db1d12fae66a942b53aed716926a6a5daf9080d5", func := "loop.example/g01167/laws.FnExactIsFinal", spec := "fnExactIsFinal", unfollowed := true, recurses := true, plainKeys := false, apart := false }
def FnExactIsFinalSaid : Prop := fnExactIsFinalRow.holds Try.pinned (OpenSpec.ofChange fnExactIsFinalSpec)

/-- ITS FALSE NEIGHBOUR: 'it returns false'. Refute it at one input. -/
def fnExactIsFinalWrong : ChangeSpec := { name := "fnExactIsFinal", fn := fun _ => fun
  | [d1, d2] => { results := [.lit (.bool false)], args := [d1, d2] }
  | _ => none }
def FnExactIsFinalWrongFalsely : Prop := fnExactIsFinalRow.holds Try.pinned (OpenSpec.ofChange fnExactIsFinalWrong)

/-- 'laws.FnExactFinalRows': WHATEVER THE INPUT: true; the input reads as it did. -/
def fnExactFinalRowsSpec : ChangeSpec := { name := "fnExactFinalRows", fn := fun _ => fun
  | [d] => { results := [.lit (.bool true)], args := [d] }
  | _ => none }
def fnExactFinalRowsRow : OpenClaim := { program := "ytidiljnonbkpjaa", sum := "1fb98133f19b4c050238f9b4db1d12fae66a942b53aed716926a6a5daf9080d5", func := "loop.example/g01167/laws.FnExactFinalRows", spec := "fnExactFinalRows", unfollowed := true, recurses := true, plainKeys := false, apart := false }
def FnExactFinalRowsSaid : Prop := fnExactFinalRowsRow.holds Try.pinned (OpenSpec.ofChange fnExactFinalRowsSpec)

/-- ITS FALSE NEIGHBOUR: 'it returns false'. Refute it at one input. -/
def fnExactFinalRowsWrong : ChangeSpec := { name := "fnExactFinalRows", fn := fun _ => fun
  | [d] => { results := [.lit (.bool false)], args := [d] }
  | _ => none }
def FnExactFinalRowsWrongFalsely : Prop := fnExactFinalRowsRow.holds Try.pinned (OpenSpec.ofChange fnExactFinalRowsWrong)

/-- 'laws.FnExactChanceOfFinal': WHATEVER THE INPUT: true; the input reads as it did. -/
def fnExactChanceOfFinalSpec : ChangeSpec := { name := "fnExactChanceOfFinal", fn := fun _ => fun
  | [d1, d2] => { results := [.lit (.bool true)], args := [d1, d2] }
  | _ => none }
def fnExactChanceOfFinalRow : OpenClaim := { program := "ytidiljnonbkpjaa", sum := "1fb98133f19b4c050238f9b4db1d12fae66a942b53aed716926a6a5daf9080d5", func := "loop.example/g01167/laws.FnExactChanceOfFinal", spec := "fnExactChanceOfFinal", unfollowed := true, recurses := true, plainKeys := false, apart := false }
def FnExactChanceOfFinalSaid : Prop := fnExactChanceOfFinalRow.holds Try.pinned (OpenSpec.ofChange fnExactChanceOfFinalSpec)

/-- ITS FALSE NEIGHBOUR: 'it returns false'. Refute it at one input. -/
def fnExactChanceOfFinalWrong : ChangeSpec := { name := "fnExactChanceOfFinal", fn := fun _ => fun
  | [d1, d2] => { results := [.lit (.bool false)], args := [d1, d2] }
  | _ => none }
def FnExactChanceOfFinalWrongFalsely : Prop := fnExactChanceOfFinalRow.holds Try.pinned (OpenSpec.ofChange fnExactChanceOfFinalWrong)

/-- 'laws.FnExactFillCounts': WHATEVER THE INPUT: true; the input reads as it did. -/
def fnExactFillCountsSpec : ChangeSpec := { name := "fnExactFillCounts", fn := fun _ => fun
  | [d] => { results := [.lit (.bool true)], args := [d] }
  | _ => none }
def fnExactFillCountsRow : OpenClaim := { program := "ytidiljnonbkpjaa", sum := "1fb98133f19b4c050238f9b4db1d12fae66a942b53aed716926a6a5daf9080d5", func := "loop.example/g01167/laws.FnExactFillCounts", spec := "fnExactFillCounts", unfollowed := true, recurses := true, plainKeys := false, apart := false }
def FnExactFillCountsSaid : Prop := fnExactFillCountsRow.holds Try.pinned (OpenSpec.ofChange fnExactFillCountsSpec)

/-- ITS FALSE NEIGHBOUR: 'it returns false'. Refute it at one input. -/
def fnExactFillCountsWrong : ChangeSpec := { name := "fnExactFillCounts", fn := fun _ => fun
  | [d] => { results := [.lit (.bool false)], args := [d] }
  | _ => none }
def FnExactFillCountsWrongFalsely : Prop := fnExactFillCountsRow.holds Try.pinned (OpenSpec.ofChange fnExactFillCountsWrong)

/- THE SECOND FORM. 'bulk': how many values and letters a reading holds, each counted each time it is reached (what is shared counts as often as it is met; a slice's spare places count too). A statement '..UptoSaid' is the law's where the arguments, and the package variables that the reading takes, are together of bulk at most 1048576: NARROWER than '..Said'. Prove '..Said' where nothing that the law and all that it calls make is longer than what came in: it says more and counts as full. Else prove '..UptoSaid'. A law counts once. -/
mutual
def uptoBulk {H : Type} : DataW H → Nat
  | .lit (.string bytes) => bytes.length + 1
  | .lit _ => 1
  | .nil => 1
  | .ptr d => uptoBulk d + 1
  | .slice elems spare => uptoBulkAll elems + uptoBulkAll spare + 1
  | .agg parts => uptoBulkAll parts + 1
  | .iface _ d => uptoBulk d + 1
  | .map entries => uptoBulkEntries entries + 1
  | .held _ => 1
def uptoBulkAll {H : Type} : List (DataW H) → Nat
  | [] => 0
  | d :: r => uptoBulk d + uptoBulkAll r
def uptoBulkEntries {H : Type} : List (Lit × DataW H) → Nat
  | [] => 0
  | x :: r => uptoBulkEntry x + uptoBulkEntries r
def uptoBulkEntry {H : Type} : Lit × DataW H → Nat
  | (.string bytes, d) => bytes.length + uptoBulk d + 1
  | (_, d) => uptoBulk d + 1
 end
def uptoSmall : (H : Type) → List (DataW H) → Bool := fun _ ds => decide (uptoBulkAll ds ≤ 1048576)
def OpenSpec.upto (s : _root_.Go.ChangeSpec) : _root_.Go.OpenSpec := { _root_.Go.OpenSpec.ofChange s with cond := some uptoSmall }

/-- 'laws.FnExactJoinSeats', WHERE WHAT IT READS IS OF BULK AT MOST 1048576: true; the input reads as it did. -/
def fnExactJoinSeatsUptoRow : OpenClaim := { program := "ytidiljnonbkpjaa", sum := "1fb98133f19b4c050238f9b4db1d12fae66a942b53aed716926a6a5daf9080d5", func := "loop.example/g01167/laws.FnExactJoinSeats", spec := "fnExactJoinSeats", plainKeys := false, apart := false, narrowed := true }
def FnExactJoinSeatsUptoSaid : Prop := fnExactJoinSeatsUptoRow.holds Try.pinned (OpenSpec.upto fnExactJoinSeatsSpec)

/-- 'laws.FnExactFillBy', WHERE WHAT IT READS IS OF BULK AT MOST 1048576: true; the input reads as it did. -/
def fnExactFillByUptoRow : OpenClaim := { program := "ytidiljnonbkpjaa", sum := "1fb98133f19b4c050238f9b4db1d12fae66a942b53aed716926a6a5daf9080d5", func := "loop.example/g01167/laws.FnExactFillBy", spec := "fnExactFillBy", unfollowed := true, recurses := true, plainKeys := false, apart := false, narrowed := true }
def FnExactFillByUptoSaid : Prop := fnExactFillByUptoRow.holds Try.pinned (OpenSpec.upto fnExactFillBySpec)

/-- 'laws.FnExactIsFinal', WHERE WHAT IT READS IS OF BULK AT MOST 1048576: true; the input reads as it did. -/
def fnExactIsFinalUptoRow : OpenClaim := { program := "ytidiljnonbkpjaa", sum := "1fb98133f19b4c050238f9b4db1d12fae66a942b53aed716926a6a5daf9080d5", func := "loop.example/g01167/laws.FnExactIsFinal", spec := "fnExactIsFinal", unfollowed := true, recurses := true, plainKeys := false, apart := false, narrowed := true }
def FnExactIsFinalUptoSaid : Prop := fnExactIsFinalUptoRow.holds Try.pinned (OpenSpec.upto fnExactIsFinalSpec)

/-- 'laws.FnExactFinalRows', WHERE WHAT IT READS IS OF BULK AT MOST 1048576: true; the input reads as it did. -/
def fnExactFinalRowsUptoRow : OpenClaim := { program := "ytidiljnonbkpjaa", sum := "1fb98133f19b4c050238f9b4db1d12fae66a942b53aed716926a6a5daf9080d5", func := "loop.example/g01167/laws.FnExactFinalRows", spec := "fnExactFinalRows", unfollowed := true, recurses := true, plainKeys := false, apart := false, narrowed := true }
def FnExactFinalRowsUptoSaid : Prop := fnExactFinalRowsUptoRow.holds Try.pinned (OpenSpec.upto fnExactFinalRowsSpec)

/-- 'laws.FnExactChanceOfFinal', WHERE WHAT IT READS IS OF BULK AT MOST 1048576: true; the input reads as it did. -/
def fnExactChanceOfFinalUptoRow : OpenClaim := { program := "ytidiljnonbkpjaa", sum := "1fb98133f19b4c050238f9b4db1d12fae66a942b53aed716926a6a5daf9080d5", func := "loop.example/g01167/laws.FnExactChanceOfFinal", spec := "fnExactChanceOfFinal", unfollowed := true, recurses := true, plainKeys := false, apart := false, narrowed := true }
def FnExactChanceOfFinalUptoSaid : Prop := fnExactChanceOfFinalUptoRow.holds Try.pinned (OpenSpec.upto fnExactChanceOfFinalSpec)

/-- 'laws.FnExactFillCounts', WHERE WHAT IT READS IS OF BULK AT MOST 1048576: true; the input reads as it did. -/
def fnExactFillCountsUptoRow : OpenClaim := { program := "ytidiljnonbkpjaa", sum := "1fb98133f19b4c050238f9b4db1d12fae66a942b53aed716926a6a5daf9080d5", func := "loop.example/g01167/laws.FnExactFillCounts", spec := "fnExactFillCounts", unfollowed := true, recurses := true, plainKeys := false, apart := false, narrowed := true }
def FnExactFillCountsUptoSaid : Prop := fnExactFillCountsUptoRow.holds Try.pinned (OpenSpec.upto fnExactFillCountsSpec)

end Rows
end Go.Proofs.Ytidiljnonbkpjaa
