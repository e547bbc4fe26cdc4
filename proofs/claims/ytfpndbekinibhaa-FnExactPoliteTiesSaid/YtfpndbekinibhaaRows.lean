/-
  No cell of these rows narrows 'for every input' (looked for: loops, veiled, ifaces, maps, wideKeys, modest, calm, conditions, laid).
  DERIVED. THE GIVEN ROWS OF THIS SEAT. 4 by the template 'for every input the law returns true; each argument reads behind the call as it read before'; 0 by the template 'total and deterministic' (their statements: YtfpndbekinibhaaTotals.lean).
  GIVEN WITH THE SEED: the statements are not yours to turn. If you find one false, say at which input.
  Laid BY PROGRAM, IN A SANDBOX (cutbox-rows.mjs): the forced cells as the released guide's own fill.sh prints them over the translation f181902d6a817daa… (all of the seat's roots in one cut). By AI agents, Wed Nov 11 2026. No macro, syntax, notation, axiom, sorry.
-/
import Derived.Test.YtfpndbekinibhaaChecked
import GoSem.Claim
import GoSem.ClaimJoined
import GoSem.ClaimMapViews
import Derived.JoinedTies
import Derived.KernelRfl
namespace Go.Proofs.Ytfpndbekinibhaa
/- THE CELL 'sum', in the pinned program and in every row, IS THE sha256 OF THE DUMP (.gsa) THAT YtfpndbekinibhaaProg.lean LOADS. Nothing in Lean hashes anything: it is a label: what it is worth is what the hold of that sum in a sandbox is worth. -/
noncomputable def Try.pinned : Pinned := { name := "ytfpndbekinibhaa", sum := "f181902d6a817daa7a35c6051e8612d24fd506c64c2d18dc0e972a3a3f763a1e", checked := Try.checked }
namespace Rows
def none {H : Type} : Left H := { results := [], args := [] }

/-- 'laws.FnExactBestStart': WHATEVER THE INPUT: true; the input reads as it did. -/
def fnExactBestStartSpec : ChangeSpec := { name := "fnExactBestStart", fn := fun _ => fun
  | [d1, d2] => { results := [.lit (.bool true)], args := [d1, d2] }
  | _ => none }
def fnExactBestStartRow : OpenClaim := { program := "ytfpndbekinibhaa", sum := "f181902d6a817daa7a35c6051e8612d24fd506c64c2d18dc0e972a3a3f763a1e", func := "loop.example/g01167/laws.FnExactBestStart", spec := "fnExactBestStart", unfollowed := true, recurses := true, apart := false }
def FnExactBestStartSaid : Prop := fnExactBestStartRow.holds Try.pinned (OpenSpec.ofChange fnExactBestStartSpec)

/-- ITS FALSE NEIGHBOUR: 'it returns false'. Refute it at one input. -/
def fnExactBestStartWrong : ChangeSpec := { name := "fnExactBestStart", fn := fun _ => fun
  | [d1, d2] => { results := [.lit (.bool false)], args := [d1, d2] }
  | _ => none }
def FnExactBestStartWrongFalsely : Prop := fnExactBestStartRow.holds Try.pinned (OpenSpec.ofChange fnExactBestStartWrong)

/-- 'laws.FnExactWorstStart': WHATEVER THE INPUT: true; the input reads as it did. -/
def fnExactWorstStartSpec : ChangeSpec := { name := "fnExactWorstStart", fn := fun _ => fun
  | [d1, d2] => { results := [.lit (.bool true)], args := [d1, d2] }
  | _ => none }
def fnExactWorstStartRow : OpenClaim := { program := "ytfpndbekinibhaa", sum := "f181902d6a817daa7a35c6051e8612d24fd506c64c2d18dc0e972a3a3f763a1e", func := "loop.example/g01167/laws.FnExactWorstStart", spec := "fnExactWorstStart", unfollowed := true, recurses := true, apart := false }
def FnExactWorstStartSaid : Prop := fnExactWorstStartRow.holds Try.pinned (OpenSpec.ofChange fnExactWorstStartSpec)

/-- ITS FALSE NEIGHBOUR: 'it returns false'. Refute it at one input. -/
def fnExactWorstStartWrong : ChangeSpec := { name := "fnExactWorstStart", fn := fun _ => fun
  | [d1, d2] => { results := [.lit (.bool false)], args := [d1, d2] }
  | _ => none }
def FnExactWorstStartWrongFalsely : Prop := fnExactWorstStartRow.holds Try.pinned (OpenSpec.ofChange fnExactWorstStartWrong)

/-- 'laws.FnExactPoliteTies': WHATEVER THE INPUT: true; the input reads as it did. -/
def fnExactPoliteTiesSpec : ChangeSpec := { name := "fnExactPoliteTies", fn := fun _ => fun
  | [d] => { results := [.lit (.bool true)], args := [d] }
  | _ => none }
def fnExactPoliteTiesRow : OpenClaim := { program := "ytfpndbekinibhaa", sum := "f181902d6a817daa7a35c6051e8612d24fd506c64c2d18dc0e972a3a3f763a1e", func := "loop.example/g01167/laws.FnExactPoliteTies", spec := "fnExactPoliteTies", unfollowed := true, recurses := true, apart := false }
def FnExactPoliteTiesSaid : Prop := fnExactPoliteTiesRow.holds Try.pinned (OpenSpec.ofChange fnExactPoliteTiesSpec)

/-- ITS FALSE NEIGHBOUR: 'it returns false'. Refute it at one input. -/
def fnExactPoliteTiesWrong : ChangeSpec := { name := "fnExactPoliteTies", fn := fun _ => fun
  | [d] => { results := [.lit (.bool false)], args := [d] }
  | _ => none }
def FnExactPoliteTiesWrongFalsely : Prop := fnExactPoliteTiesRow.holds Try.pinned (OpenSpec.ofChange fnExactPoliteTiesWrong)

/-- 'laws.FnExactFillBy': WHATEVER THE INPUT: true; the input reads as it did. -/
def fnExactFillBySpec : ChangeSpec := { name := "fnExactFillBy", fn := fun _ => fun
  | [d1, d2] => { results := [.lit (.bool true)], args := [d1, d2] }
  | _ => none }
def fnExactFillByRow : OpenClaim := { program := "ytfpndbekinibhaa", sum := "f181902d6a817daa7a35c6051e8612d24fd506c64c2d18dc0e972a3a3f763a1e", func := "loop.example/g01167/laws.FnExactFillBy", spec := "fnExactFillBy", unfollowed := true, recurses := true, apart := false }
def FnExactFillBySaid : Prop := fnExactFillByRow.holds Try.pinned (OpenSpec.ofChange fnExactFillBySpec)

/-- ITS FALSE NEIGHBOUR: 'it returns false'. Refute it at one input. -/
def fnExactFillByWrong : ChangeSpec := { name := "fnExactFillBy", fn := fun _ => fun
  | [d1, d2] => { results := [.lit (.bool false)], args := [d1, d2] }
  | _ => none }
def FnExactFillByWrongFalsely : Prop := fnExactFillByRow.holds Try.pinned (OpenSpec.ofChange fnExactFillByWrong)

/- THE SECOND FORM. 'bulk': how many values and letters a reading holds, each counted each time it is reached (what is shared counts as often as it is met; a slice's spare places count too). A statement '..UptoSaid' is the law's where the arguments, and the package variables that the reading takes, are together of bulk at most 1048576: NARROWER than '..Said'. Prove '..Said' where nothing that the law and all that it calls make is longer than what came in: it says more and counts as full. Else prove '..UptoSaid'. A law counts once. -/
mutual
def uptoBulk {H : Type} : DataW H → Nat
  | .lit (.string bytes) => bytes.length + 1
  | .lit _ => 1
  | .nil => 1
  | .ptr d => uptoBulk d + 1
  | .slice elems spare => uptoBulkAll elems + uptoBulkAll spare + 1
  | .agg parts => uptoBulkAll parts + 1
  | .iface _ d => uptoBulk d + 1
  | .map entries => uptoBulkEntries entries + 1
  | .held _ => 1
def uptoBulkAll {H : Type} : List (DataW H) → Nat
  | [] => 0
  | d :: r => uptoBulk d + uptoBulkAll r
def uptoBulkEntries {H : Type} : List (Lit × DataW H) → Nat
  | [] => 0
  | x :: r => uptoBulkEntry x + uptoBulkEntries r
def uptoBulkEntry {H : Type} : Lit × DataW H → Nat
  | (.string bytes, d) => bytes.length + uptoBulk d + 1
  | (_, d) => uptoBulk d + 1
 end
def uptoSmall : (H : Type) → List (DataW H) → Bool := fun _ ds => decide (uptoBulkAll ds ≤ 1048576)
def OpenSpec.upto (s : _root_.Go.ChangeSpec) : _root_.Go.OpenSpec := { _root_.Go.OpenSpec.ofChange s with cond := some uptoSmall }

/-- 'laws.FnExactBestStart', WHERE WHAT IT READS IS OF BULK AT MOST 1048576: true; the input reads as it did. -/
def fnExactBestStartUptoRow : OpenClaim := { program := "ytfpndbekinibhaa", sum := "f181902d6a817daa7a35c6051e8612d24fd506c64c2d18dc0e972a3a3f763a1e", func := "loop.example/g01167/laws.FnExactBestStart", spec := "fnExactBestStart", unfollowed := true, recurses := true, apart := false, narrowed := true }
def FnExactBestStartUptoSaid : Prop := fnExactBestStartUptoRow.holds Try.pinned (OpenSpec.upto fnExactBestStartSpec)

/-- 'laws.FnExactWorstStart', WHERE WHAT IT READS IS OF BULK AT MOST 1048576: true; the input reads as it did. -/
def fnExactWorstStartUptoRow : OpenClaim := { program := "ytfpndbekinibhaa", sum := "f181902d6a817daa7a35c6051e8612d24fd506c64c2d18dc0e972a3a3f763a1e", func := "loop.example/g01167/laws.FnExactWorstStart", spec := "fnExactWorstStart", unfollowed := true, recurses := true, apart := false, narrowed := true }
def FnExactWorstStartUptoSaid : Prop := fnExactWorstStartUptoRow.holds Try.pinned (OpenSpec.upto fnExactWorstStartSpec)

/-- 'laws.FnExactPoliteTies', WHERE WHAT IT READS IS OF BULK AT MOST 1048576: true; the input reads as it did. -/
def fnExactPoliteTiesUptoRow : OpenClaim := { program := "ytfpndbekinibhaa", sum := "f181902d6a817daa7a35c6051e8612d24fd506c64c2d18dc0e972a3a3f763a1e", func := "loop.example/g01167/laws.FnExactPoliteTies", spec := "fnExactPoliteTies", unfollowed := true, recurses := true, apart := false, narrowed := true }
def FnExactPoliteTiesUptoSaid : Prop := fnExactPoliteTiesUptoRow.holds Try.pinned (OpenSpec.upto fnExactPoliteTiesSpec)

/-- 'laws.FnExactFillBy', WHERE WHAT IT READS IS OF BULK AT MOST 1048576: true; the input reads as it did. -/
def fnExactFillByUptoRow : OpenClaim := { program := "ytfpndbekinibhaa", sum := "f181902d6a817daa7a35c6051e8612d24fd506c64c2d18dc0e972a3a3f763a1e", func := "loop.example/g01167/laws.FnExactFillBy", spec := "fnExactFillBy", unfollowed := true, recurses := true, apart := false, narrowed := true }
def FnExactFillByUptoSaid : Prop := fnExactFillByUptoRow.holds Try.pinned (OpenSpec.upto fnExactFillBySpec)

end Rows
end Go.Proofs.Ytfpndbekinibhaa
