/-
  No cell of these rows narrows 'for every input' (looked for: loops, veiled, ifaces, maps, wideKeys, modest, calm, conditions, laid).
  DERIVED. THE GIVEN ROWS OF THIS SEAT. 7 by the template 'for every input the law returns true; each argument reads behind the call as it read before'; 0 by the template 'total and deterministic' (their statements: YteabodhkgkffiaaTotals.lean).
  GIVEN WITH THE SEED: the statements are not yours to turn. If you find one false, say at which input.
  Laid BY PROGRAM, IN A SANDBOX (cutbox-rows.mjs): the forced cells as the released guide's own fill.sh prints them over the translation 827552c03bfe730a… (all of the seat's roots in one cut). By AI agents, Wed Nov 11 2026. No macro, syntax, notation, axiom, sorry.
-/
import Derived.Test.YteabodhkgkffiaaChecked
import GoSem.Claim
import GoSem.ClaimJoined
import GoSem.ClaimMapViews
import Derived.JoinedTies
import Derived.KernelRfl
namespace Go.Proofs.Yteabodhkgkffiaa
/- THE CELL 'sum', in the pinned program and in every row, IS THE sha256 OF THE DUMP (.gsa) THAT YteabodhkgkffiaaProg.lean LOADS. Nothing in Lean hashes anything: it is a label: what it is worth is what the hold of that sum in a sandbox is worth. -/
noncomputable def Try.pinned : Pinned := { name := "yteabodhkgkffiaa", sum := "827552c03bfe730a4af6ac90b122ff86807f074ac5d81f5366b1f080a969c19e", checked := Try.checked }
namespace Rows
def none {H : Type} : Left H := { results := [], args := [] }

/-- 'laws.FnExactIsParty': WHATEVER THE INPUT: true; the input reads as it did. -/
def fnExactIsPartySpec : ChangeSpec := { name := "fnExactIsParty", fn := fun _ => fun
  | [d1, d2, d3] => { results := [.lit (.bool true)], args := [d1, d2, d3] }
  | _ => none }
def fnExactIsPartyRow : OpenClaim := { program := "yteabodhkgkffiaa", sum := "827552c03bfe730a4af6ac90b122ff86807f074ac5d81f5366b1f080a969c19e", func := "loop.example/g01167/laws.FnExactIsParty", spec := "fnExactIsParty", unfollowed := true, recurses := true, apart := false }
def FnExactIsPartySaid : Prop := fnExactIsPartyRow.holds Try.pinned (OpenSpec.ofChange fnExactIsPartySpec)

/-- ITS FALSE NEIGHBOUR: 'it returns false'. Refute it at one input. -/
def fnExactIsPartyWrong : ChangeSpec := { name := "fnExactIsParty", fn := fun _ => fun
  | [d1, d2, d3] => { results := [.lit (.bool false)], args := [d1, d2, d3] }
  | _ => none }
def FnExactIsPartyWrongFalsely : Prop := fnExactIsPartyRow.holds Try.pinned (OpenSpec.ofChange fnExactIsPartyWrong)

/-- 'laws.FnExactCouplesTogether': WHATEVER THE INPUT: true; the input reads as it did. -/
def fnExactCouplesTogetherSpec : ChangeSpec := { name := "fnExactCouplesTogether", fn := fun _ => fun
  | [d1, d2, d3] => { results := [.lit (.bool true)], args := [d1, d2, d3] }
  | _ => none }
def fnExactCouplesTogetherRow : OpenClaim := { program := "yteabodhkgkffiaa", sum := "827552c03bfe730a4af6ac90b122ff86807f074ac5d81f5366b1f080a969c19e", func := "loop.example/g01167/laws.FnExactCouplesTogether", spec := "fnExactCouplesTogether", unfollowed := true, recurses := true, apart := false }
def FnExactCouplesTogetherSaid : Prop := fnExactCouplesTogetherRow.holds Try.pinned (OpenSpec.ofChange fnExactCouplesTogetherSpec)

/-- ITS FALSE NEIGHBOUR: 'it returns false'. Refute it at one input. -/
def fnExactCouplesTogetherWrong : ChangeSpec := { name := "fnExactCouplesTogether", fn := fun _ => fun
  | [d1, d2, d3] => { results := [.lit (.bool false)], args := [d1, d2, d3] }
  | _ => none }
def FnExactCouplesTogetherWrongFalsely : Prop := fnExactCouplesTogetherRow.holds Try.pinned (OpenSpec.ofChange fnExactCouplesTogetherWrong)

/-- 'laws.FnExactTurnParty': WHATEVER THE INPUT: true; the input reads as it did. -/
def fnExactTurnPartySpec : ChangeSpec := { name := "fnExactTurnParty", fn := fun _ => fun
  | [d1, d2, d3] => { results := [.lit (.bool true)], args := [d1, d2, d3] }
  | _ => none }
def fnExactTurnPartyRow : OpenClaim := { program := "yteabodhkgkffiaa", sum := "827552c03bfe730a4af6ac90b122ff86807f074ac5d81f5366b1f080a969c19e", func := "loop.example/g01167/laws.FnExactTurnParty", spec := "fnExactTurnParty", unfollowed := true, recurses := true, apart := false }
def FnExactTurnPartySaid : Prop := fnExactTurnPartyRow.holds Try.pinned (OpenSpec.ofChange fnExactTurnPartySpec)

/-- ITS FALSE NEIGHBOUR: 'it returns false'. Refute it at one input. -/
def fnExactTurnPartyWrong : ChangeSpec := { name := "fnExactTurnParty", fn := fun _ => fun
  | [d1, d2, d3] => { results := [.lit (.bool false)], args := [d1, d2, d3] }
  | _ => none }
def FnExactTurnPartyWrongFalsely : Prop := fnExactTurnPartyRow.holds Try.pinned (OpenSpec.ofChange fnExactTurnPartyWrong)

/-- 'laws.FnExactFirstApart': WHATEVER THE INPUT: true; the input reads as it did. -/
def fnExactFirstApartSpec : ChangeSpec := { name := "fnExactFirstApart", fn := fun _ => fun
  | [d1, d2] => { results := [.lit (.bool true)], args := [d1, d2] }
  | _ => none }
def fnExactFirstApartRow : OpenClaim := { program := "yteabodhkgkffiaa", sum := "827552c03bfe730a4af6ac90b122ff86807f074ac5d81f5366b1f080a969c19e", func := "loop.example/g01167/laws.FnExactFirstApart", spec := "fnExactFirstApart", unfollowed := true, recurses := true, apart := false }
def FnExactFirstApartSaid : Prop := fnExactFirstApartRow.holds Try.pinned (OpenSpec.ofChange fnExactFirstApartSpec)

/-- ITS FALSE NEIGHBOUR: 'it returns false'. Refute it at one input. -/
def fnExactFirstApartWrong : ChangeSpec := { name := "fnExactFirstApart", fn := fun _ => fun
  | [d1, d2] => { results := [.lit (.bool false)], args := [d1, d2] }
  | _ => none }
def FnExactFirstApartWrongFalsely : Prop := fnExactFirstApartRow.holds Try.pinned (OpenSpec.ofChange fnExactFirstApartWrong)

/-- 'laws.FnExactCoupleCounts': WHATEVER THE INPUT: true; the input reads as it did. -/
def fnExactCoupleCountsSpec : ChangeSpec := { name := "fnExactCoupleCounts", fn := fun _ => fun
  | [d1, d2] => { results := [.lit (.bool true)], args := [d1, d2] }
  | _ => none }
def fnExactCoupleCountsRow : OpenClaim := { program := "yteabodhkgkffiaa", sum := "827552c03bfe730a4af6ac90b122ff86807f074ac5d81f5366b1f080a969c19e", func := "loop.example/g01167/laws.FnExactCoupleCounts", spec := "fnExactCoupleCounts", unfollowed := true, recurses := true, apart := false }
def FnExactCoupleCountsSaid : Prop := fnExactCoupleCountsRow.holds Try.pinned (OpenSpec.ofChange fnExactCoupleCountsSpec)

/-- ITS FALSE NEIGHBOUR: 'it returns false'. Refute it at one input. -/
def fnExactCoupleCountsWrong : ChangeSpec := { name := "fnExactCoupleCounts", fn := fun _ => fun
  | [d1, d2] => { results := [.lit (.bool false)], args := [d1, d2] }
  | _ => none }
def FnExactCoupleCountsWrongFalsely : Prop := fnExactCoupleCountsRow.holds Try.pinned (OpenSpec.ofChange fnExactCoupleCountsWrong)

/-- 'laws.FnExactMenageCount': WHATEVER THE INPUT: true; the input reads as it did. -/
def fnExactMenageCountSpec : ChangeSpec := { name := "fnExactMenageCount", fn := fun _ => fun
  | [d] => { results := [.lit (.bool true)], args := [d] }
  | _ => none }
def fnExactMenageCountRow : OpenClaim := { program := "yteabodhkgkffiaa", sum := "827552c03bfe730a4af6ac90b122ff86807f074ac5d81f5366b1f080a969c19e", func := "loop.example/g01167/laws.FnExactMenageCount", spec := "fnExactMenageCount", unfollowed := true, recurses := true, apart := false }
def FnExactMenageCountSaid : Prop := fnExactMenageCountRow.holds Try.pinned (OpenSpec.ofChange fnExactMenageCountSpec)

/-- ITS FALSE NEIGHBOUR: 'it returns false'. Refute it at one input. -/
def fnExactMenageCountWrong : ChangeSpec := { name := "fnExactMenageCount", fn := fun _ => fun
  | [d] => { results := [.lit (.bool false)], args := [d] }
  | _ => none }
def FnExactMenageCountWrongFalsely : Prop := fnExactMenageCountRow.holds Try.pinned (OpenSpec.ofChange fnExactMenageCountWrong)

/-- 'laws.FnExactFamilyCount': WHATEVER THE INPUT: true; the input reads as it did. -/
def fnExactFamilyCountSpec : ChangeSpec := { name := "fnExactFamilyCount", fn := fun _ => fun
  | [d1, d2] => { results := [.lit (.bool true)], args := [d1, d2] }
  | _ => none }
def fnExactFamilyCountRow : OpenClaim := { program := "yteabodhkgkffiaa", sum := "827552c03bfe730a4af6ac90b122ff86807f074ac5d81f5366b1f080a969c19e", func := "loop.example/g01167/laws.FnExactFamilyCount", spec := "fnExactFamilyCount", apart := false }
def FnExactFamilyCountSaid : Prop := fnExactFamilyCountRow.holds Try.pinned (OpenSpec.ofChange fnExactFamilyCountSpec)

/-- ITS FALSE NEIGHBOUR: 'it returns false'. Refute it at one input. -/
def fnExactFamilyCountWrong : ChangeSpec := { name := "fnExactFamilyCount", fn := fun _ => fun
  | [d1, d2] => { results := [.lit (.bool false)], args := [d1, d2] }
  | _ => none }
def FnExactFamilyCountWrongFalsely : Prop := fnExactFamilyCountRow.holds Try.pinned (OpenSpec.ofChange fnExactFamilyCountWrong)

/- THE SECOND FORM. 'bulk': how many values and letters a reading holds, each counted each time it is reached (what is shared counts as often as it is met; a slice's spare places count too). A statement '..UptoSaid' is the law's where the arguments, and the package variables that the reading takes, are together of bulk at most 1048576: NARROWER than '..Said'. Prove '..Said' where nothing that the law and all that it calls make is longer than what came in: it says more and counts as full. Else prove '..UptoSaid'. A law counts once. -/
mutual
def uptoBulk {H : Type} : DataW H → Nat
  | .lit (.string bytes) => bytes.length + 1
  | .lit _ => 1
  | .nil => 1
  | .ptr d => uptoBulk d + 1
  | .slice elems spare => uptoBulkAll elems + uptoBulkAll spare + 1
  | .agg parts => uptoBulkAll parts + 1
  | .iface _ d => uptoBulk d + 1
  | .map entries => uptoBulkEntries entries + 1
  | .held _ => 1
def uptoBulkAll {H : Type} : List (DataW H) → Nat
  | [] => 0
  | d :: r => uptoBulk d + uptoBulkAll r
def uptoBulkEntries {H : Type} : List (Lit × DataW H) → Nat
  | [] => 0
  | x :: r => uptoBulkEntry x + uptoBulkEntries r
def uptoBulkEntry {H : Type} : Lit × DataW H → Nat
  | (.string bytes, d) => bytes.length + uptoBulk d + 1
  | (_, d) => uptoBulk d + 1
 end
def uptoSmall : (H : Type) → List (DataW H) → Bool := fun _ ds => decide (uptoBulkAll ds ≤ 1048576)
def OpenSpec.upto (s : _root_.Go.ChangeSpec) : _root_.Go.OpenSpec := { _root_.Go.OpenSpec.ofChange s with cond := some uptoSmall }

/-- 'laws.FnExactIsParty', WHERE WHAT IT READS IS OF BULK AT MOST 1048576: true; the input reads as it did. -/
def fnExactIsPartyUptoRow : OpenClaim := { program := "yteabodhkgkffiaa", sum := "827552c03bfe730a4af6ac90b122ff86807f074ac5d81f5366b1f080a969c19e", func := "loop.example/g01167/laws.FnExactIsParty", spec := "fnExactIsParty", unfollowed := true, recurses := true, apart := false, narrowed := true }
def FnExactIsPartyUptoSaid : Prop := fnExactIsPartyUptoRow.holds Try.pinned (OpenSpec.upto fnExactIsPartySpec)

/-- 'laws.FnExactCouplesTogether', WHERE WHAT IT READS IS OF BULK AT MOST 1048576: true; the input reads as it did. -/
def fnExactCouplesTogetherUptoRow : OpenClaim := { program := "yteabodhkgkffiaa", sum := "827552c03bfe730a4af6ac90b122ff86807f074ac5d81f5366b1f080a969c19e", func := "loop.example/g01167/laws.FnExactCouplesTogether", spec := "fnExactCouplesTogether", unfollowed := true, recurses := true, apart := false, narrowed := true }
def FnExactCouplesTogetherUptoSaid : Prop := fnExactCouplesTogetherUptoRow.holds Try.pinned (OpenSpec.upto fnExactCouplesTogetherSpec)

/-- 'laws.FnExactTurnParty', WHERE WHAT IT READS IS OF BULK AT MOST 1048576: true; the input reads as it did. -/
def fnExactTurnPartyUptoRow : OpenClaim := { program := "yteabodhkgkffiaa", sum := "827552c03bfe730a4af6ac90b122ff86807f074ac5d81f5366b1f080a969c19e", func := "loop.example/g01167/laws.FnExactTurnParty", spec := "fnExactTurnParty", unfollowed := true, recurses := true, apart := false, narrowed := true }
def FnExactTurnPartyUptoSaid : Prop := fnExactTurnPartyUptoRow.holds Try.pinned (OpenSpec.upto fnExactTurnPartySpec)

/-- 'laws.FnExactFirstApart', WHERE WHAT IT READS IS OF BULK AT MOST 1048576: true; the input reads as it did. -/
def fnExactFirstApartUptoRow : OpenClaim := { program := "yteabodhkgkffiaa", sum := "827552c03bfe730a4af6ac90b122ff86807f074ac5d81f5366b1f080a969c19e", func := "loop.example/g01167/laws.FnExactFirstApart", spec := "fnExactFirstApart", unfollowed := true, recurses := true, apart := false, narrowed := true }
def FnExactFirstApartUptoSaid : Prop := fnExactFirstApartUptoRow.holds Try.pinned (OpenSpec.upto fnExactFirstApartSpec)

/-- 'laws.FnExactCoupleCounts', WHERE WHAT IT READS IS OF BULK AT MOST 1048576: true; the input reads as it did. -/
def fnExactCoupleCountsUptoRow : OpenClaim := { program := "yteabodhkgkffiaa", sum := "827552c03bfe730a4af6ac90b122ff86807f074ac5d81f5366b1f080a969c19e", func := "loop.example/g01167/laws.FnExactCoupleCounts", spec := "fnExactCoupleCounts", unfollowed := true, recurses := true, apart := false, narrowed := true }
def FnExactCoupleCountsUptoSaid : Prop := fnExactCoupleCountsUptoRow.holds Try.pinned (OpenSpec.upto fnExactCoupleCountsSpec)

/-- 'laws.FnExactMenageCount', WHERE WHAT IT READS IS OF BULK AT MOST 1048576: true; the input reads as it did. -/
def fnExactMenageCountUptoRow : OpenClaim := { program := "yteabodhkgkffiaa", sum := "827552c03bfe730a4af6ac90b122ff86807f074ac5d81f5366b1f080a969c19e", func := "loop.example/g01167/laws.FnExactMenageCount", spec := "fnExactMenageCount", unfollowed := true, recurses := true, apart := false, narrowed := true }
def FnExactMenageCountUptoSaid : Prop := fnExactMenageCountUptoRow.holds Try.pinned (OpenSpec.upto fnExactMenageCountSpec)

/-- 'laws.FnExactFamilyCount', WHERE WHAT IT READS IS OF BULK AT MOST 1048576: true; the input reads as it did. -/
def fnExactFamilyCountUptoRow : OpenClaim := { program := "yteabodhkgkffiaa", sum := "827552c03bfe730a4af6ac90b122ff86807f074ac5d81f5366b1f080a969c19e", func := "loop.example/g01167/laws.FnExactFamilyCount", spec := "fnExactFamilyCount", apart := false, narrowed := true }
def FnExactFamilyCountUptoSaid : Prop := fnExactFamilyCountUptoRow.holds Try.pinned (OpenSpec.upto fnExactFamilyCountSpec)

end Rows
end Go.Proofs.Yteabodhkgkffiaa
