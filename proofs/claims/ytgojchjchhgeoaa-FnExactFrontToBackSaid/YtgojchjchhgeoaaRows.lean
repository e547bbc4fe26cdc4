/-
  No cell of these rows narrows 'for every input' (looked for: loops, veiled, ifaces, maps, wideKeys, modest, calm, conditions, laid).
  DERIVED. THE GIVEN ROWS OF THIS SEAT. 5 by the template 'for every input the law returns true; each argument reads behind the call as it read before'; 0 by the template 'total and deterministic' (their statements: YtgojchjchhgeoaaTotals.lean).
  GIVEN WITH THE SEED: the statements are not yours to turn. If you find one false, say at which input.
  Laid BY PROGRAM, IN A SANDBOX (cutbox-rows.mjs): the forced cells as the released guide's own fill.sh prints them over the translation e996838006b7f19b… (all of the seat's roots in one cut). By AI agents, Wed Nov 11 2026. No macro, syntax, notation, axiom, sorry.
-/
import Derived.Test.YtgojchjchhgeoaaChecked
import GoSem.Claim
import GoSem.ClaimJoined
import GoSem.ClaimMapViews
import Derived.JoinedTies
import Derived.KernelRfl
namespace Go.Proofs.Ytgojchjchhgeoaa
/- THE CELL 'sum', in the pinned program and in every row, IS THE sha256 OF THE DUMP (.gsa) THAT YtgojchjchhgeoaaProg.lean LOADS. Nothing in Lean hashes anything: it is a label: what it is worth is what the hold of that sum in a sandbox is worth. -/
noncomputable def Try.pinned : Pinned := { name := "ytgojchjchhgeoaa", sum := "e996838006b7f19b277ebe4da7e9f21ca7d52cd2100c3313654f3c960dfc3427", checked := Try.checked }
namespace Rows
def none {H : Type} : Left H := { results := [], args := [] }

/-- 'laws.FnExactIsEntering': WHATEVER THE INPUT: true; the input reads as it did. -/
def fnExactIsEnteringSpec : ChangeSpec := { name := "fnExactIsEntering", fn := fun _ => fun
  | [d1, d2] => { results := [.lit (.bool true)], args := [d1, d2] }
  | _ => none }
def fnExactIsEnteringRow : OpenClaim := { program := "ytgojchjchhgeoaa", sum := "e996838006b7f19b277ebe4da7e9f21ca7d52cd2100c3313654f3c960dfc3427", func := "loop.example/g01167/laws.FnExactIsEntering", spec := "fnExactIsEntering", unfollowed := true, recurses := true, apart := false }
def FnExactIsEnteringSaid : Prop := fnExactIsEnteringRow.holds Try.pinned (OpenSpec.ofChange fnExactIsEnteringSpec)

/-- ITS FALSE NEIGHBOUR: 'it returns false'. Refute it at one input. -/
def fnExactIsEnteringWrong : ChangeSpec := { name := "fnExactIsEntering", fn := fun _ => fun
  | [d1, d2] => { results := [.lit (.bool false)], args := [d1, d2] }
  | _ => none }
def FnExactIsEnteringWrongFalsely : Prop := fnExactIsEnteringRow.holds Try.pinned (OpenSpec.ofChange fnExactIsEnteringWrong)

/-- 'laws.FnExactBackToFront': WHATEVER THE INPUT: true; the input reads as it did. -/
def fnExactBackToFrontSpec : ChangeSpec := { name := "fnExactBackToFront", fn := fun _ => fun
  | [d] => { results := [.lit (.bool true)], args := [d] }
  | _ => none }
def fnExactBackToFrontRow : OpenClaim := { program := "ytgojchjchhgeoaa", sum := "e996838006b7f19b277ebe4da7e9f21ca7d52cd2100c3313654f3c960dfc3427", func := "loop.example/g01167/laws.FnExactBackToFront", spec := "fnExactBackToFront", apart := false }
def FnExactBackToFrontSaid : Prop := fnExactBackToFrontRow.holds Try.pinned (OpenSpec.ofChange fnExactBackToFrontSpec)

/-- ITS FALSE NEIGHBOUR: 'it returns false'. Refute it at one input. -/
def fnExactBackToFrontWrong : ChangeSpec := { name := "fnExactBackToFront", fn := fun _ => fun
  | [d] => { results := [.lit (.bool false)], args := [d] }
  | _ => none }
def FnExactBackToFrontWrongFalsely : Prop := fnExactBackToFrontRow.holds Try.pinned (OpenSpec.ofChange fnExactBackToFrontWrong)

/-- 'laws.FnExactFrontToBack': WHATEVER THE INPUT: true; the input reads as it did. -/
def fnExactFrontToBackSpec : ChangeSpec := { name := "fnExactFrontToBack", fn := fun _ => fun
  | [d] => { results := [.lit (.bool true)], args := [d] }
  | _ => none }
def fnExactFrontToBackRow : OpenClaim := { program := "ytgojchjchhgeoaa", sum := "e996838006b7f19b277ebe4da7e9f21ca7d52cd2100c3313654f3c960dfc3427", func := "loop.example/g01167/laws.FnExactFrontToBack", spec := "fnExactFrontToBack", apart := false }
def FnExactFrontToBackSaid : Prop := fnExactFrontToBackRow.holds Try.pinned (OpenSpec.ofChange fnExactFrontToBackSpec)

/-- ITS FALSE NEIGHBOUR: 'it returns false'. Refute it at one input. -/
def fnExactFrontToBackWrong : ChangeSpec := { name := "fnExactFrontToBack", fn := fun _ => fun
  | [d] => { results := [.lit (.bool false)], args := [d] }
  | _ => none }
def FnExactFrontToBackWrongFalsely : Prop := fnExactFrontToBackRow.holds Try.pinned (OpenSpec.ofChange fnExactFrontToBackWrong)

/-- 'laws.FnExactGroupOrder': WHATEVER THE INPUT: true; the input reads as it did. -/
def fnExactGroupOrderSpec : ChangeSpec := { name := "fnExactGroupOrder", fn := fun _ => fun
  | [d1, d2] => { results := [.lit (.bool true)], args := [d1, d2] }
  | _ => none }
def fnExactGroupOrderRow : OpenClaim := { program := "ytgojchjchhgeoaa", sum := "e996838006b7f19b277ebe4da7e9f21ca7d52cd2100c3313654f3c960dfc3427", func := "loop.example/g01167/laws.FnExactGroupOrder", spec := "fnExactGroupOrder", apart := false }
def FnExactGroupOrderSaid : Prop := fnExactGroupOrderRow.holds Try.pinned (OpenSpec.ofChange fnExactGroupOrderSpec)

/-- ITS FALSE NEIGHBOUR: 'it returns false'. Refute it at one input. -/
def fnExactGroupOrderWrong : ChangeSpec := { name := "fnExactGroupOrder", fn := fun _ => fun
  | [d1, d2] => { results := [.lit (.bool false)], args := [d1, d2] }
  | _ => none }
def FnExactGroupOrderWrongFalsely : Prop := fnExactGroupOrderRow.holds Try.pinned (OpenSpec.ofChange fnExactGroupOrderWrong)

/-- 'laws.FnExactCallGroups': WHATEVER THE INPUT: true; the input reads as it did. -/
def fnExactCallGroupsSpec : ChangeSpec := { name := "fnExactCallGroups", fn := fun _ => fun
  | [d1, d2] => { results := [.lit (.bool true)], args := [d1, d2] }
  | _ => none }
def fnExactCallGroupsRow : OpenClaim := { program := "ytgojchjchhgeoaa", sum := "e996838006b7f19b277ebe4da7e9f21ca7d52cd2100c3313654f3c960dfc3427", func := "loop.example/g01167/laws.FnExactCallGroups", spec := "fnExactCallGroups", unfollowed := true, recurses := true, apart := false }
def FnExactCallGroupsSaid : Prop := fnExactCallGroupsRow.holds Try.pinned (OpenSpec.ofChange fnExactCallGroupsSpec)

/-- ITS FALSE NEIGHBOUR: 'it returns false'. Refute it at one input. -/
def fnExactCallGroupsWrong : ChangeSpec := { name := "fnExactCallGroups", fn := fun _ => fun
  | [d1, d2] => { results := [.lit (.bool false)], args := [d1, d2] }
  | _ => none }
def FnExactCallGroupsWrongFalsely : Prop := fnExactCallGroupsRow.holds Try.pinned (OpenSpec.ofChange fnExactCallGroupsWrong)

/- THE SECOND FORM. 'bulk': how many values and letters a reading holds, each counted each time it is reached (what is shared counts as often as it is met; a slice's spare places count too). A statement '..UptoSaid' is the law's where the arguments, and the package variables that the reading takes, are together of bulk at most 1048576: NARROWER than '..Said'. Prove '..Said' where nothing that the law and all that it calls make is longer than what came in: it says more and counts as full. Else prove '..UptoSaid'. A law counts once. -/
mutual
def uptoBulk {H : Type} : DataW H → Nat
  | .lit (.string bytes) => bytes.length + 1
  | .lit _ => 1
  | .nil => 1
  | .ptr d => uptoBulk d + 1
  | .slice elems spare => uptoBulkAll elems + uptoBulkAll spare + 1
  | .agg parts => uptoBulkAll parts + 1
  | .iface _ d => uptoBulk d + 1
  | .map entries => uptoBulkEntries entries + 1
  | .held _ => 1
def uptoBulkAll {H : Type} : List (DataW H) → Nat
  | [] => 0
  | d :: r => uptoBulk d + uptoBulkAll r
def uptoBulkEntries {H : Type} : List (Lit × DataW H) → Nat
  | [] => 0
  | x :: r => uptoBulkEntry x + uptoBulkEntries r
def uptoBulkEntry {H : Type} : Lit × DataW H → Nat
  | (.string bytes, d) => bytes.length + uptoBulk d + 1
  | (_, d) => uptoBulk d + 1
 end
def uptoSmall : (H : Type) → List (DataW H) → Bool := fun _ ds => decide (uptoBulkAll ds ≤ 1048576)
def OpenSpec.upto (s : _root_.Go.ChangeSpec) : _root_.Go.OpenSpec := { _root_.Go.OpenSpec.ofChange s with cond := some uptoSmall }

/-- 'laws.FnExactIsEntering', WHERE WHAT IT READS IS OF BULK AT MOST 1048576: true; the input reads as it did. -/
def fnExactIsEnteringUptoRow : OpenClaim := { program := "ytgojchjchhgeoaa", sum := "e996838006b7f19b277ebe4da7e9f21ca7d52cd2100c3313654f3c960dfc3427", func := "loop.example/g01167/laws.FnExactIsEntering", spec := "fnExactIsEntering", unfollowed := true, recurses := true, apart := false, narrowed := true }
def FnExactIsEnteringUptoSaid : Prop := fnExactIsEnteringUptoRow.holds Try.pinned (OpenSpec.upto fnExactIsEnteringSpec)

/-- 'laws.FnExactBackToFront', WHERE WHAT IT READS IS OF BULK AT MOST 1048576: true; the input reads as it did. -/
def fnExactBackToFrontUptoRow : OpenClaim := { program := "ytgojchjchhgeoaa", sum := "e996838006b7f19b277ebe4da7e9f21ca7d52cd2100c3313654f3c960dfc3427", func := "loop.example/g01167/laws.FnExactBackToFront", spec := "fnExactBackToFront", apart := false, narrowed := true }
def FnExactBackToFrontUptoSaid : Prop := fnExactBackToFrontUptoRow.holds Try.pinned (OpenSpec.upto fnExactBackToFrontSpec)

/-- 'laws.FnExactFrontToBack', WHERE WHAT IT READS IS OF BULK AT MOST 1048576: true; the input reads as it did. -/
def fnExactFrontToBackUptoRow : OpenClaim := { program := "ytgojchjchhgeoaa", sum := "e996838006b7f19b277ebe4da7e9f21ca7d52cd2100c3313654f3c960dfc3427", func := "loop.example/g01167/laws.FnExactFrontToBack", spec := "fnExactFrontToBack", apart := false, narrowed := true }
def FnExactFrontToBackUptoSaid : Prop := fnExactFrontToBackUptoRow.holds Try.pinned (OpenSpec.upto fnExactFrontToBackSpec)

/-- 'laws.FnExactGroupOrder', WHERE WHAT IT READS IS OF BULK AT MOST 1048576: true; the input reads as it did. -/
def fnExactGroupOrderUptoRow : OpenClaim := { program := "ytgojchjchhgeoaa", sum := "e996838006b7f19b277ebe4da7e9f21ca7d52cd2100c3313654f3c960dfc3427", func := "loop.example/g01167/laws.FnExactGroupOrder", spec := "fnExactGroupOrder", apart := false, narrowed := true }
def FnExactGroupOrderUptoSaid : Prop := fnExactGroupOrderUptoRow.holds Try.pinned (OpenSpec.upto fnExactGroupOrderSpec)

/-- 'laws.FnExactCallGroups', WHERE WHAT IT READS IS OF BULK AT MOST 1048576: true; the input reads as it did. -/
def fnExactCallGroupsUptoRow : OpenClaim := { program := "ytgojchjchhgeoaa", sum := "e996838006b7f19b277ebe4da7e9f21ca7d52cd2100c3313654f3c960dfc3427", func := "loop.example/g01167/laws.FnExactCallGroups", spec := "fnExactCallGroups", unfollowed := true, recurses := true, apart := false, narrowed := true }
def FnExactCallGroupsUptoSaid : Prop := fnExactCallGroupsUptoRow.holds Try.pinned (OpenSpec.upto fnExactCallGroupsSpec)

end Rows
end Go.Proofs.Ytgojchjchhgeoaa
