/-
  No cell of these rows narrows 'for every input' (looked for: loops, veiled, ifaces, maps, wideKeys, modest, calm, conditions, laid).
  DERIVED. THE GIVEN ROWS OF THIS SEAT. 6 by the template 'for every input the law returns true; each argument reads behind the call as it read before'; 0 by the template 'total and deterministic' (their statements: YtgjfclkkobjfoaaTotals.lean).
  GIVEN WITH THE SEED: the statements are not yours to turn. If you find one false, say at which input.
  Laid BY PROGRAM, IN A SANDBOX (cutbox-rows.mjs): the forced cells as the released guide's own fill.sh prints them over the translation 1bb4170fc2ab4a67… (all of the seat's roots in one cut). By AI agents, Wed Nov 11 2026. No macro, syntax, notation, axiom, sorry.
-/
import Derived.Test.YtgjfclkkobjfoaaChecked
import GoSem.Claim
import GoSem.ClaimJoined
import GoSem.ClaimMapViews
import Derived.JoinedTies
import Derived.KernelRfl
namespace Go.Proofs.Ytgjfclkkobjfoaa
/- THE CELL 'sum', in the pinned program and in every row, IS THE sha256 OF THE DUMP (.gsa) THAT YtgjfclkkobjfoaaProg.lean LOADS. Nothing in Lean hashes anything: it is a label: what it is worth is what the hold of that sum in a sandbox is worth. -/
noncomputable def Try.pinned : Pinned := { name := "ytgjfclkkobjfoaa", sum := "1bb4170fc2ab4a67df4596c72d1ad998d89a0319f546b0aa861f106aff7e7cd8", checked := Try.checked }
namespace Rows
def none {H : Type} : Left H := { results := [], args := [] }

/-- 'laws.FnExactFarnessOf': WHATEVER THE INPUT: true; the input reads as it did. -/
def fnExactFarnessOfSpec : ChangeSpec := { name := "fnExactFarnessOf", fn := fun _ => fun
  | [d] => { results := [.lit (.bool true)], args := [d] }
  | _ => none }
def fnExactFarnessOfRow : OpenClaim := { program := "ytgjfclkkobjfoaa", sum := "1bb4170fc2ab4a67df4596c72d1ad998d89a0319f546b0aa861f106aff7e7cd8", func := "loop.example/g01167/laws.FnExactFarnessOf", spec := "fnExactFarnessOf", apart := false }
def FnExactFarnessOfSaid : Prop := fnExactFarnessOfRow.holds Try.pinned (OpenSpec.ofChange fnExactFarnessOfSpec)

/-- ITS FALSE NEIGHBOUR: 'it returns false'. Refute it at one input. -/
def fnExactFarnessOfWrong : ChangeSpec := { name := "fnExactFarnessOf", fn := fun _ => fun
  | [d] => { results := [.lit (.bool false)], args := [d] }
  | _ => none }
def FnExactFarnessOfWrongFalsely : Prop := fnExactFarnessOfRow.holds Try.pinned (OpenSpec.ofChange fnExactFarnessOfWrong)

/-- 'laws.FnExactPoliteSeats': WHATEVER THE INPUT: true; the input reads as it did. -/
def fnExactPoliteSeatsSpec : ChangeSpec := { name := "fnExactPoliteSeats", fn := fun _ => fun
  | [d] => { results := [.lit (.bool true)], args := [d] }
  | _ => none }
def fnExactPoliteSeatsRow : OpenClaim := { program := "ytgjfclkkobjfoaa", sum := "1bb4170fc2ab4a67df4596c72d1ad998d89a0319f546b0aa861f106aff7e7cd8", func := "loop.example/g01167/laws.FnExactPoliteSeats", spec := "fnExactPoliteSeats", unfollowed := true, recurses := true, apart := false }
def FnExactPoliteSeatsSaid : Prop := fnExactPoliteSeatsRow.holds Try.pinned (OpenSpec.ofChange fnExactPoliteSeatsSpec)

/-- ITS FALSE NEIGHBOUR: 'it returns false'. Refute it at one input. -/
def fnExactPoliteSeatsWrong : ChangeSpec := { name := "fnExactPoliteSeats", fn := fun _ => fun
  | [d] => { results := [.lit (.bool false)], args := [d] }
  | _ => none }
def FnExactPoliteSeatsWrongFalsely : Prop := fnExactPoliteSeatsRow.holds Try.pinned (OpenSpec.ofChange fnExactPoliteSeatsWrong)

/-- 'laws.FnExactNextPolite': WHATEVER THE INPUT: true; the input reads as it did. -/
def fnExactNextPoliteSpec : ChangeSpec := { name := "fnExactNextPolite", fn := fun _ => fun
  | [d] => { results := [.lit (.bool true)], args := [d] }
  | _ => none }
def fnExactNextPoliteRow : OpenClaim := { program := "ytgjfclkkobjfoaa", sum := "1bb4170fc2ab4a67df4596c72d1ad998d89a0319f546b0aa861f106aff7e7cd8", func := "loop.example/g01167/laws.FnExactNextPolite", spec := "fnExactNextPolite", unfollowed := true, recurses := true, apart := false }
def FnExactNextPoliteSaid : Prop := fnExactNextPoliteRow.holds Try.pinned (OpenSpec.ofChange fnExactNextPoliteSpec)

/-- ITS FALSE NEIGHBOUR: 'it returns false'. Refute it at one input. -/
def fnExactNextPoliteWrong : ChangeSpec := { name := "fnExactNextPolite", fn := fun _ => fun
  | [d] => { results := [.lit (.bool false)], args := [d] }
  | _ => none }
def FnExactNextPoliteWrongFalsely : Prop := fnExactNextPoliteRow.holds Try.pinned (OpenSpec.ofChange fnExactNextPoliteWrong)

/-- 'laws.FnExactLeastGap': WHATEVER THE INPUT: true; the input reads as it did. -/
def fnExactLeastGapSpec : ChangeSpec := { name := "fnExactLeastGap", fn := fun _ => fun
  | [d] => { results := [.lit (.bool true)], args := [d] }
  | _ => none }
def fnExactLeastGapRow : OpenClaim := { program := "ytgjfclkkobjfoaa", sum := "1bb4170fc2ab4a67df4596c72d1ad998d89a0319f546b0aa861f106aff7e7cd8", func := "loop.example/g01167/laws.FnExactLeastGap", spec := "fnExactLeastGap", apart := false }
def FnExactLeastGapSaid : Prop := fnExactLeastGapRow.holds Try.pinned (OpenSpec.ofChange fnExactLeastGapSpec)

/-- ITS FALSE NEIGHBOUR: 'it returns false'. Refute it at one input. -/
def fnExactLeastGapWrong : ChangeSpec := { name := "fnExactLeastGap", fn := fun _ => fun
  | [d] => { results := [.lit (.bool false)], args := [d] }
  | _ => none }
def FnExactLeastGapWrongFalsely : Prop := fnExactLeastGapRow.holds Try.pinned (OpenSpec.ofChange fnExactLeastGapWrong)

/-- 'laws.FnExactSettleRun': WHATEVER THE INPUT: true; the input reads as it did. -/
def fnExactSettleRunSpec : ChangeSpec := { name := "fnExactSettleRun", fn := fun _ => fun
  | [d1, d2] => { results := [.lit (.bool true)], args := [d1, d2] }
  | _ => none }
def fnExactSettleRunRow : OpenClaim := { program := "ytgjfclkkobjfoaa", sum := "1bb4170fc2ab4a67df4596c72d1ad998d89a0319f546b0aa861f106aff7e7cd8", func := "loop.example/g01167/laws.FnExactSettleRun", spec := "fnExactSettleRun", recurses := true, apart := false }
def FnExactSettleRunSaid : Prop := fnExactSettleRunRow.holds Try.pinned (OpenSpec.ofChange fnExactSettleRunSpec)

/-- ITS FALSE NEIGHBOUR: 'it returns false'. Refute it at one input. -/
def fnExactSettleRunWrong : ChangeSpec := { name := "fnExactSettleRun", fn := fun _ => fun
  | [d1, d2] => { results := [.lit (.bool false)], args := [d1, d2] }
  | _ => none }
def FnExactSettleRunWrongFalsely : Prop := fnExactSettleRunRow.holds Try.pinned (OpenSpec.ofChange fnExactSettleRunWrong)

/-- 'laws.FnExactPoliteOrder': WHATEVER THE INPUT: true; the input reads as it did. -/
def fnExactPoliteOrderSpec : ChangeSpec := { name := "fnExactPoliteOrder", fn := fun _ => fun
  | [d] => { results := [.lit (.bool true)], args := [d] }
  | _ => none }
def fnExactPoliteOrderRow : OpenClaim := { program := "ytgjfclkkobjfoaa", sum := "1bb4170fc2ab4a67df4596c72d1ad998d89a0319f546b0aa861f106aff7e7cd8", func := "loop.example/g01167/laws.FnExactPoliteOrder", spec := "fnExactPoliteOrder", unfollowed := true, recurses := true, apart := false }
def FnExactPoliteOrderSaid : Prop := fnExactPoliteOrderRow.holds Try.pinned (OpenSpec.ofChange fnExactPoliteOrderSpec)

/-- ITS FALSE NEIGHBOUR: 'it returns false'. Refute it at one input. -/
def fnExactPoliteOrderWrong : ChangeSpec := { name := "fnExactPoliteOrder", fn := fun _ => fun
  | [d] => { results := [.lit (.bool false)], args := [d] }
  | _ => none }
def FnExactPoliteOrderWrongFalsely : Prop := fnExactPoliteOrderRow.holds Try.pinned (OpenSpec.ofChange fnExactPoliteOrderWrong)

/- THE SECOND FORM. 'bulk': how many values and letters a reading holds, each counted each time it is reached (what is shared counts as often as it is met; a slice's spare places count too). A statement '..UptoSaid' is the law's where the arguments, and the package variables that the reading takes, are together of bulk at most 1048576: NARROWER than '..Said'. Prove '..Said' where nothing that the law and all that it calls make is longer than what came in: it says more and counts as full. Else prove '..UptoSaid'. A law counts once. -/
mutual
def uptoBulk {H : Type} : DataW H → Nat
  | .lit (.string bytes) => bytes.length + 1
  | .lit _ => 1
  | .nil => 1
  | .ptr d => uptoBulk d + 1
  | .slice elems spare => uptoBulkAll elems + uptoBulkAll spare + 1
  | .agg parts => uptoBulkAll parts + 1
  | .iface _ d => uptoBulk d + 1
  | .map entries => uptoBulkEntries entries + 1
  | .held _ => 1
def uptoBulkAll {H : Type} : List (DataW H) → Nat
  | [] => 0
  | d :: r => uptoBulk d + uptoBulkAll r
def uptoBulkEntries {H : Type} : List (Lit × DataW H) → Nat
  | [] => 0
  | x :: r => uptoBulkEntry x + uptoBulkEntries r
def uptoBulkEntry {H : Type} : Lit × DataW H → Nat
  | (.string bytes, d) => bytes.length + uptoBulk d + 1
  | (_, d) => uptoBulk d + 1
 end
def uptoSmall : (H : Type) → List (DataW H) → Bool := fun _ ds => decide (uptoBulkAll ds ≤ 1048576)
def OpenSpec.upto (s : _root_.Go.ChangeSpec) : _root_.Go.OpenSpec := { _root_.Go.OpenSpec.ofChange s with cond := some uptoSmall }

/-- 'laws.FnExactFarnessOf', WHERE WHAT IT READS IS OF BULK AT MOST 1048576: true; the input reads as it did. -/
def fnExactFarnessOfUptoRow : OpenClaim := { program := "ytgjfclkkobjfoaa", sum := "1bb4170fc2ab4a67df4596c72d1ad998d89a0319f546b0aa861f106aff7e7cd8", func := "loop.example/g01167/laws.FnExactFarnessOf", spec := "fnExactFarnessOf", apart := false, narrowed := true }
def FnExactFarnessOfUptoSaid : Prop := fnExactFarnessOfUptoRow.holds Try.pinned (OpenSpec.upto fnExactFarnessOfSpec)

/-- 'laws.FnExactPoliteSeats', WHERE WHAT IT READS IS OF BULK AT MOST 1048576: true; the input reads as it did. -/
def fnExactPoliteSeatsUptoRow : OpenClaim := { program := "ytgjfclkkobjfoaa", sum := "1bb4170fc2ab4a67df4596c72d1ad998d89a0319f546b0aa861f106aff7e7cd8", func := "loop.example/g01167/laws.FnExactPoliteSeats", spec := "fnExactPoliteSeats", unfollowed := true, recurses := true, apart := false, narrowed := true }
def FnExactPoliteSeatsUptoSaid : Prop := fnExactPoliteSeatsUptoRow.holds Try.pinned (OpenSpec.upto fnExactPoliteSeatsSpec)

/-- 'laws.FnExactNextPolite', WHERE WHAT IT READS IS OF BULK AT MOST 1048576: true; the input reads as it did. -/
def fnExactNextPoliteUptoRow : OpenClaim := { program := "ytgjfclkkobjfoaa", sum := "1bb4170fc2ab4a67df4596c72d1ad998d89a0319f546b0aa861f106aff7e7cd8", func := "loop.example/g01167/laws.FnExactNextPolite", spec := "fnExactNextPolite", unfollowed := true, recurses := true, apart := false, narrowed := true }
def FnExactNextPoliteUptoSaid : Prop := fnExactNextPoliteUptoRow.holds Try.pinned (OpenSpec.upto fnExactNextPoliteSpec)

/-- 'laws.FnExactLeastGap', WHERE WHAT IT READS IS OF BULK AT MOST 1048576: true; the input reads as it did. -/
def fnExactLeastGapUptoRow : OpenClaim := { program := "ytgjfclkkobjfoaa", sum := "1bb4170fc2ab4a67df4596c72d1ad998d89a0319f546b0aa861f106aff7e7cd8", func := "loop.example/g01167/laws.FnExactLeastGap", spec := "fnExactLeastGap", apart := false, narrowed := true }
def FnExactLeastGapUptoSaid : Prop := fnExactLeastGapUptoRow.holds Try.pinned (OpenSpec.upto fnExactLeastGapSpec)

/-- 'laws.FnExactSettleRun', WHERE WHAT IT READS IS OF BULK AT MOST 1048576: true; the input reads as it did. -/
def fnExactSettleRunUptoRow : OpenClaim := { program := "ytgjfclkkobjfoaa", sum := "1bb4170fc2ab4a67df4596c72d1ad998d89a0319f546b0aa861f106aff7e7cd8", func := "loop.example/g01167/laws.FnExactSettleRun", spec := "fnExactSettleRun", recurses := true, apart := false, narrowed := true }
def FnExactSettleRunUptoSaid : Prop := fnExactSettleRunUptoRow.holds Try.pinned (OpenSpec.upto fnExactSettleRunSpec)

/-- 'laws.FnExactPoliteOrder', WHERE WHAT IT READS IS OF BULK AT MOST 1048576: true; the input reads as it did. -/
def fnExactPoliteOrderUptoRow : OpenClaim := { program := "ytgjfclkkobjfoaa", sum := "1bb4170fc2ab4a67df4596c72d1ad998d89a0319f546b0aa861f106aff7e7cd8", func := "loop.example/g01167/laws.FnExactPoliteOrder", spec := "fnExactPoliteOrder", unfollowed := true, recurses := true, apart := false, narrowed := true }
def FnExactPoliteOrderUptoSaid : Prop := fnExactPoliteOrderUptoRow.holds Try.pinned (OpenSpec.upto fnExactPoliteOrderSpec)

end Rows
end Go.Proofs.Ytgjfclkkobjfoaa
