/-
  No cell of these rows narrows 'for every input' (looked for: loops, veiled, ifaces, maps, wideKeys, modest, calm, conditions, laid).
  DERIVED. THE GIVEN ROWS OF THIS SEAT. 3 by the template 'for every input the law returns true; each argument reads behind the call as it read before'; 0 by the template 'total and deterministic' (their statements: YtkbpfjhikabbmaaTotals.lean).
  GIVEN WITH THE SEED: the statements are not yours to turn. If you find one false, say at which input.
  Laid BY PROGRAM, IN A SANDBOX (cutbox-rows.mjs): the forced cells as the released guide's own fill.sh prints them over the translation 111da46e14ccf870… (all of the seat's roots in one cut). By AI agents, Wed Nov 11 2026. No macro, syntax, notation, axiom, sorry.
-/
import Derived.Test.YtkbpfjhikabbmaaChecked
import GoSem.Claim
import GoSem.ClaimJoined
import GoSem.ClaimMapViews
import Derived.JoinedTies
import Derived.KernelRfl
namespace Go.Proofs.Ytkbpfjhikabbmaa
/- THE CELL 'sum', in the pinned program and in every row, IS THE sha256 OF THE DUMP (.gsa) THAT YtkbpfjhikabbmaaProg.lean LOADS. Nothing in Lean hashes anything: it is a label: what it is worth is what the hold of that sum in a sandbox is worth. -/
noncomputable def Try.pinned : Pinned := { name := "ytkbpfjhikabbmaa", sum := "111da46e14ccf870c25b8e8a1cec9012512075232e4b058336e90f3125c06077", checked := Try.checked }
namespace Rows
def none {H : Type} : Left H := { results := [], args := [] }

/-- 'laws.FnExactAllSeatings': WHATEVER THE INPUT: true; the input reads as it did. -/
def fnExactAllSeatingsSpec : ChangeSpec := { name := "fnExactAllSeatings", fn := fun _ => fun
  | [d1, d2] => { results := [.lit (.bool true)], args := [d1, d2] }
  | _ => none }
def fnExactAllSeatingsRow : OpenClaim := { program := "ytkbpfjhikabbmaa", sum := "111da46e14ccf870c25b8e8a1cec9012512075232e4b058336e90f3125c06077", func := "loop.example/g01167/laws.FnExactAllSeatings", spec := "fnExactAllSeatings", unfollowed := true, recurses := true, apart := false }
def FnExactAllSeatingsSaid : Prop := fnExactAllSeatingsRow.holds Try.pinned (OpenSpec.ofChange fnExactAllSeatingsSpec)

/-- ITS FALSE NEIGHBOUR: 'it returns false'. Refute it at one input. -/
def fnExactAllSeatingsWrong : ChangeSpec := { name := "fnExactAllSeatings", fn := fun _ => fun
  | [d1, d2] => { results := [.lit (.bool false)], args := [d1, d2] }
  | _ => none }
def FnExactAllSeatingsWrongFalsely : Prop := fnExactAllSeatingsRow.holds Try.pinned (OpenSpec.ofChange fnExactAllSeatingsWrong)

/-- 'laws.FnExactOwnTable': WHATEVER THE INPUT: true; the input reads as it did. -/
def fnExactOwnTableSpec : ChangeSpec := { name := "fnExactOwnTable", fn := fun _ => fun
  | [d1, d2] => { results := [.lit (.bool true)], args := [d1, d2] }
  | _ => none }
def fnExactOwnTableRow : OpenClaim := { program := "ytkbpfjhikabbmaa", sum := "111da46e14ccf870c25b8e8a1cec9012512075232e4b058336e90f3125c06077", func := "loop.example/g01167/laws.FnExactOwnTable", spec := "fnExactOwnTable", unfollowed := true, recurses := true, apart := false }
def FnExactOwnTableSaid : Prop := fnExactOwnTableRow.holds Try.pinned (OpenSpec.ofChange fnExactOwnTableSpec)

/-- ITS FALSE NEIGHBOUR: 'it returns false'. Refute it at one input. -/
def fnExactOwnTableWrong : ChangeSpec := { name := "fnExactOwnTable", fn := fun _ => fun
  | [d1, d2] => { results := [.lit (.bool false)], args := [d1, d2] }
  | _ => none }
def FnExactOwnTableWrongFalsely : Prop := fnExactOwnTableRow.holds Try.pinned (OpenSpec.ofChange fnExactOwnTableWrong)

/-- 'laws.FnExactCallGroups': WHATEVER THE INPUT: true; the input reads as it did. -/
def fnExactCallGroupsSpec : ChangeSpec := { name := "fnExactCallGroups", fn := fun _ => fun
  | [d1, d2] => { results := [.lit (.bool true)], args := [d1, d2] }
  | _ => none }
def fnExactCallGroupsRow : OpenClaim := { program := "ytkbpfjhikabbmaa", sum := "111da46e14ccf870c25b8e8a1cec9012512075232e4b058336e90f3125c06077", func := "loop.example/g01167/laws.FnExactCallGroups", spec := "fnExactCallGroups", unfollowed := true, recurses := true, apart := false }
def FnExactCallGroupsSaid : Prop := fnExactCallGroupsRow.holds Try.pinned (OpenSpec.ofChange fnExactCallGroupsSpec)

/-- ITS FALSE NEIGHBOUR: 'it returns false'. Refute it at one input. -/
def fnExactCallGroupsWrong : ChangeSpec := { name := "fnExactCallGroups", fn := fun _ => fun
  | [d1, d2] => { results := [.lit (.bool false)], args := [d1, d2] }
  | _ => none }
def FnExactCallGroupsWrongFalsely : Prop := fnExactCallGroupsRow.holds Try.pinned (OpenSpec.ofChange fnExactCallGroupsWrong)

/- THE SECOND FORM. 'bulk': how many values and letters a reading holds, each counted each time it is reached (what is shared counts as often as it is met; a slice's spare places count too). A statement '..UptoSaid' is the law's where the arguments, and the package variables that the reading takes, are together of bulk at most 1048576: NARROWER than '..Said'. Prove '..Said' where nothing that the law and all that it calls make is longer than what came in: it says more and counts as full. Else prove '..UptoSaid'. A law counts once. -/
mutual
def uptoBulk {H : Type} : DataW H → Nat
  | .lit (.string bytes) => bytes.length + 1
  | .lit _ => 1
  | .nil => 1
  | .ptr d => uptoBulk d + 1
  | .slice elems spare => uptoBulkAll elems + uptoBulkAll spare + 1
  | .agg parts => uptoBulkAll parts + 1
  | .iface _ d => uptoBulk d + 1
  | .map entries => uptoBulkEntries entries + 1
  | .held _ => 1
def uptoBulkAll {H : Type} : List (DataW H) → Nat
  | [] => 0
  | d :: r => uptoBulk d + uptoBulkAll r
def uptoBulkEntries {H : Type} : List (Lit × DataW H) → Nat
  | [] => 0
  | x :: r => uptoBulkEntry x + uptoBulkEntries r
def uptoBulkEntry {H : Type} : Lit × DataW H → Nat
  | (.string bytes, d) => bytes.length + uptoBulk d + 1
  | (_, d) => uptoBulk d + 1
 end
def uptoSmall : (H : Type) → List (DataW H) → Bool := fun _ ds => decide (uptoBulkAll ds ≤ 1048576)
def OpenSpec.upto (s : _root_.Go.ChangeSpec) : _root_.Go.OpenSpec := { _root_.Go.OpenSpec.ofChange s with cond := some uptoSmall }

/-- 'laws.FnExactAllSeatings', WHERE WHAT IT READS IS OF BULK AT MOST 1048576: true; the input reads as it did. -/
def fnExactAllSeatingsUptoRow : OpenClaim := { program := "ytkbpfjhikabbmaa", sum := "111da46e14ccf870c25b8e8a1cec9012512075232e4b058336e90f3125c06077", func := "loop.example/g01167/laws.FnExactAllSeatings", spec := "fnExactAllSeatings", unfollowed := true, recurses := true, apart := false, narrowed := true }
def FnExactAllSeatingsUptoSaid : Prop := fnExactAllSeatingsUptoRow.holds Try.pinned (OpenSpec.upto fnExactAllSeatingsSpec)

/-- 'laws.FnExactOwnTable', WHERE WHAT IT READS IS OF BULK AT MOST 1048576: true; the input reads as it did. -/
def fnExactOwnTableUptoRow : OpenClaim := { program := "ytkbpfjhikabbmaa", sum := "111da46e14ccf870c25b8e8a1cec9012512075232e4b058336e90f3125c06077", func := "loop.example/g01167/laws.FnExactOwnTable", spec := "fnExactOwnTable", unfollowed := true, recurses := true, apart := false, narrowed := true }
def FnExactOwnTableUptoSaid : Prop := fnExactOwnTableUptoRow.holds Try.pinned (OpenSpec.upto fnExactOwnTableSpec)

/-- 'laws.FnExactCallGroups', WHERE WHAT IT READS IS OF BULK AT MOST 1048576: true; the input reads as it did. -/
def fnExactCallGroupsUptoRow : OpenClaim := { program := "ytkbpfjhikabbmaa", sum := "111da46e14ccf870c25b8e8a1cec9012512075232e4b058336e90f3125c06077", func := "loop.example/g01167/laws.FnExactCallGroups", spec := "fnExactCallGroups", unfollowed := true, recurses := true, apart := false, narrowed := true }
def FnExactCallGroupsUptoSaid : Prop := fnExactCallGroupsUptoRow.holds Try.pinned (OpenSpec.upto fnExactCallGroupsSpec)

end Rows
end Go.Proofs.Ytkbpfjhikabbmaa
