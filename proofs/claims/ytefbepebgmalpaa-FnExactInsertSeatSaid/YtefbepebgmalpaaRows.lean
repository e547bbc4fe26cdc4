/-
  No cell of these rows narrows 'for every input' (looked for: loops, veiled, ifaces, maps, wideKeys, modest, calm, conditions, laid).
  DERIVED. THE GIVEN ROWS OF THIS SEAT. 6 by the template 'for every input the law returns true; each argument reads behind the call as it read before'; 0 by the template 'total and deterministic' (their statements: YtefbepebgmalpaaTotals.lean).
  GIVEN WITH THE SEED: the statements are not yours to turn. If you find one false, say at which input.
  Laid BY PROGRAM, IN A SANDBOX (cutbox-rows.mjs): the forced cells as the released guide's own fill.sh prints them over the translation f4a3587be3475a90… (all of the seat's roots in one cut). By AI agents, Wed Nov 11 2026. No macro, syntax, notation, axiom, sorry.
-/
import Derived.Test.YtefbepebgmalpaaChecked
import GoSem.Claim
import GoSem.ClaimJoined
import GoSem.ClaimMapViews
import Derived.JoinedTies
import Derived.KernelRfl
namespace Go.Proofs.Ytefbepebgmalpaa
/- THE CELL 'sum', in the pinned program and in every row, IS THE sha256 OF THE DUMP (.gsa) THAT YtefbepebgmalpaaProg.lean LOADS. Nothing in Lean hashes anything: it is a label: what it is worth is what the hold of that sum in a sandbox is worth. -/
noncomputable def Try.pinned : Pinned := { name := "ytefbepebgmalpaa", sum := "f4a3587be3475a90bdd37f1559f45cbcd4b2172927218fec543b0418dfc5255e", checked := Try.checked }
namespace Rows
def none {H : Type} : Left H := { results := [], args := [] }

/-- 'laws.FnExactTakeSeat': WHATEVER THE INPUT: true; the input reads as it did. -/
def fnExactTakeSeatSpec : ChangeSpec := { name := "fnExactTakeSeat", fn := fun _ => fun
  | [d1, d2] => { results := [.lit (.bool true)], args := [d1, d2] }
  | _ => none }
def fnExactTakeSeatRow : OpenClaim := { program := "ytefbepebgmalpaa", sum := "f4a3587be3475a90bdd37f1559f45cbcd4b2172927218fec543b0418dfc5255e", func := "loop.example/g01167/laws.FnExactTakeSeat", spec := "fnExactTakeSeat", apart := false }
def FnExactTakeSeatSaid : Prop := fnExactTakeSeatRow.holds Try.pinned (OpenSpec.ofChange fnExactTakeSeatSpec)

/-- ITS FALSE NEIGHBOUR: 'it returns false'. Refute it at one input. -/
def fnExactTakeSeatWrong : ChangeSpec := { name := "fnExactTakeSeat", fn := fun _ => fun
  | [d1, d2] => { results := [.lit (.bool false)], args := [d1, d2] }
  | _ => none }
def FnExactTakeSeatWrongFalsely : Prop := fnExactTakeSeatRow.holds Try.pinned (OpenSpec.ofChange fnExactTakeSeatWrong)

/-- 'laws.FnExactMirrorSeats': WHATEVER THE INPUT: true; the input reads as it did. -/
def fnExactMirrorSeatsSpec : ChangeSpec := { name := "fnExactMirrorSeats", fn := fun _ => fun
  | [d] => { results := [.lit (.bool true)], args := [d] }
  | _ => none }
def fnExactMirrorSeatsRow : OpenClaim := { program := "ytefbepebgmalpaa", sum := "f4a3587be3475a90bdd37f1559f45cbcd4b2172927218fec543b0418dfc5255e", func := "loop.example/g01167/laws.FnExactMirrorSeats", spec := "fnExactMirrorSeats", apart := false }
def FnExactMirrorSeatsSaid : Prop := fnExactMirrorSeatsRow.holds Try.pinned (OpenSpec.ofChange fnExactMirrorSeatsSpec)

/-- ITS FALSE NEIGHBOUR: 'it returns false'. Refute it at one input. -/
def fnExactMirrorSeatsWrong : ChangeSpec := { name := "fnExactMirrorSeats", fn := fun _ => fun
  | [d] => { results := [.lit (.bool false)], args := [d] }
  | _ => none }
def FnExactMirrorSeatsWrongFalsely : Prop := fnExactMirrorSeatsRow.holds Try.pinned (OpenSpec.ofChange fnExactMirrorSeatsWrong)

/-- 'laws.FnExactTurnSeats': WHATEVER THE INPUT: true; the input reads as it did. -/
def fnExactTurnSeatsSpec : ChangeSpec := { name := "fnExactTurnSeats", fn := fun _ => fun
  | [d1, d2] => { results := [.lit (.bool true)], args := [d1, d2] }
  | _ => none }
def fnExactTurnSeatsRow : OpenClaim := { program := "ytefbepebgmalpaa", sum := "f4a3587be3475a90bdd37f1559f45cbcd4b2172927218fec543b0418dfc5255e", func := "loop.example/g01167/laws.FnExactTurnSeats", spec := "fnExactTurnSeats", apart := false }
def FnExactTurnSeatsSaid : Prop := fnExactTurnSeatsRow.holds Try.pinned (OpenSpec.ofChange fnExactTurnSeatsSpec)

/-- ITS FALSE NEIGHBOUR: 'it returns false'. Refute it at one input. -/
def fnExactTurnSeatsWrong : ChangeSpec := { name := "fnExactTurnSeats", fn := fun _ => fun
  | [d1, d2] => { results := [.lit (.bool false)], args := [d1, d2] }
  | _ => none }
def FnExactTurnSeatsWrongFalsely : Prop := fnExactTurnSeatsRow.holds Try.pinned (OpenSpec.ofChange fnExactTurnSeatsWrong)

/-- 'laws.FnExactPartSeats': WHATEVER THE INPUT: true; the input reads as it did. -/
def fnExactPartSeatsSpec : ChangeSpec := { name := "fnExactPartSeats", fn := fun _ => fun
  | [d1, d2, d3] => { results := [.lit (.bool true)], args := [d1, d2, d3] }
  | _ => none }
def fnExactPartSeatsRow : OpenClaim := { program := "ytefbepebgmalpaa", sum := "f4a3587be3475a90bdd37f1559f45cbcd4b2172927218fec543b0418dfc5255e", func := "loop.example/g01167/laws.FnExactPartSeats", spec := "fnExactPartSeats", apart := false }
def FnExactPartSeatsSaid : Prop := fnExactPartSeatsRow.holds Try.pinned (OpenSpec.ofChange fnExactPartSeatsSpec)

/-- ITS FALSE NEIGHBOUR: 'it returns false'. Refute it at one input. -/
def fnExactPartSeatsWrong : ChangeSpec := { name := "fnExactPartSeats", fn := fun _ => fun
  | [d1, d2, d3] => { results := [.lit (.bool false)], args := [d1, d2, d3] }
  | _ => none }
def FnExactPartSeatsWrongFalsely : Prop := fnExactPartSeatsRow.holds Try.pinned (OpenSpec.ofChange fnExactPartSeatsWrong)

/-- 'laws.FnExactJoinSeats': WHATEVER THE INPUT: true; the input reads as it did. -/
def fnExactJoinSeatsSpec : ChangeSpec := { name := "fnExactJoinSeats", fn := fun _ => fun
  | [d1, d2] => { results := [.lit (.bool true)], args := [d1, d2] }
  | _ => none }
def fnExactJoinSeatsRow : OpenClaim := { program := "ytefbepebgmalpaa", sum := "f4a3587be3475a90bdd37f1559f45cbcd4b2172927218fec543b0418dfc5255e", func := "loop.example/g01167/laws.FnExactJoinSeats", spec := "fnExactJoinSeats", apart := false }
def FnExactJoinSeatsSaid : Prop := fnExactJoinSeatsRow.holds Try.pinned (OpenSpec.ofChange fnExactJoinSeatsSpec)

/-- ITS FALSE NEIGHBOUR: 'it returns false'. Refute it at one input. -/
def fnExactJoinSeatsWrong : ChangeSpec := { name := "fnExactJoinSeats", fn := fun _ => fun
  | [d1, d2] => { results := [.lit (.bool false)], args := [d1, d2] }
  | _ => none }
def FnExactJoinSeatsWrongFalsely : Prop := fnExactJoinSeatsRow.holds Try.pinned (OpenSpec.ofChange fnExactJoinSeatsWrong)

/-- 'laws.FnExactInsertSeat': WHATEVER THE INPUT: true; the input reads as it did. -/
def fnExactInsertSeatSpec : ChangeSpec := { name := "fnExactInsertSeat", fn := fun _ => fun
  | [d1, d2, d3] => { results := [.lit (.bool true)], args := [d1, d2, d3] }
  | _ => none }
def fnExactInsertSeatRow : OpenClaim := { program := "ytefbepebgmalpaa", sum := "f4a3587be3475a90bdd37f1559f45cbcd4b2172927218fec543b0418dfc5255e", func := "loop.example/g01167/laws.FnExactInsertSeat", spec := "fnExactInsertSeat", inPlace := ["slices.overlaps[bool]"], apart := false }
def FnExactInsertSeatSaid : Prop := fnExactInsertSeatRow.holds Try.pinned (OpenSpec.ofChange fnExactInsertSeatSpec)

/-- ITS FALSE NEIGHBOUR: 'it returns false'. Refute it at one input. -/
def fnExactInsertSeatWrong : ChangeSpec := { name := "fnExactInsertSeat", fn := fun _ => fun
  | [d1, d2, d3] => { results := [.lit (.bool false)], args := [d1, d2, d3] }
  | _ => none }
def FnExactInsertSeatWrongFalsely : Prop := fnExactInsertSeatRow.holds Try.pinned (OpenSpec.ofChange fnExactInsertSeatWrong)

/- THE SECOND FORM. 'bulk': how many values and letters a reading holds, each counted each time it is reached (what is shared counts as often as it is met; a slice's spare places count too). A statement '..UptoSaid' is the law's where the arguments, and the package variables that the reading takes, are together of bulk at most 1048576: NARROWER than '..Said'. Prove '..Said' where nothing that the law and all that it calls make is longer than what came in: it says more and counts as full. Else prove '..UptoSaid'. A law counts once. -/
mutual
def uptoBulk {H : Type} : DataW H → Nat
  | .lit (.string bytes) => bytes.length + 1
  | .lit _ => 1
  | .nil => 1
  | .ptr d => uptoBulk d + 1
  | .slice elems spare => uptoBulkAll elems + uptoBulkAll spare + 1
  | .agg parts => uptoBulkAll parts + 1
  | .iface _ d => uptoBulk d + 1
  | .map entries => uptoBulkEntries entries + 1
  | .held _ => 1
def uptoBulkAll {H : Type} : List (DataW H) → Nat
  | [] => 0
  | d :: r => uptoBulk d + uptoBulkAll r
def uptoBulkEntries {H : Type} : List (Lit × DataW H) → Nat
  | [] => 0
  | x :: r => uptoBulkEntry x + uptoBulkEntries r
def uptoBulkEntry {H : Type} : Lit × DataW H → Nat
  | (.string bytes, d) => bytes.length + uptoBulk d + 1
  | (_, d) => uptoBulk d + 1
 end
def uptoSmall : (H : Type) → List (DataW H) → Bool := fun _ ds => decide (uptoBulkAll ds ≤ 1048576)
def OpenSpec.upto (s : _root_.Go.ChangeSpec) : _root_.Go.OpenSpec := { _root_.Go.OpenSpec.ofChange s with cond := some uptoSmall }

/-- 'laws.FnExactTakeSeat', WHERE WHAT IT READS IS OF BULK AT MOST 1048576: true; the input reads as it did. -/
def fnExactTakeSeatUptoRow : OpenClaim := { program := "ytefbepebgmalpaa", sum := "f4a3587be3475a90bdd37f1559f45cbcd4b2172927218fec543b0418dfc5255e", func := "loop.example/g01167/laws.FnExactTakeSeat", spec := "fnExactTakeSeat", apart := false, narrowed := true }
def FnExactTakeSeatUptoSaid : Prop := fnExactTakeSeatUptoRow.holds Try.pinned (OpenSpec.upto fnExactTakeSeatSpec)

/-- 'laws.FnExactMirrorSeats', WHERE WHAT IT READS IS OF BULK AT MOST 1048576: true; the input reads as it did. -/
def fnExactMirrorSeatsUptoRow : OpenClaim := { program := "ytefbepebgmalpaa", sum := "f4a3587be3475a90bdd37f1559f45cbcd4b2172927218fec543b0418dfc5255e", func := "loop.example/g01167/laws.FnExactMirrorSeats", spec := "fnExactMirrorSeats", apart := false, narrowed := true }
def FnExactMirrorSeatsUptoSaid : Prop := fnExactMirrorSeatsUptoRow.holds Try.pinned (OpenSpec.upto fnExactMirrorSeatsSpec)

/-- 'laws.FnExactTurnSeats', WHERE WHAT IT READS IS OF BULK AT MOST 1048576: true; the input reads as it did. -/
def fnExactTurnSeatsUptoRow : OpenClaim := { program := "ytefbepebgmalpaa", sum := "f4a3587be3475a90bdd37f1559f45cbcd4b2172927218fec543b0418dfc5255e", func := "loop.example/g01167/laws.FnExactTurnSeats", spec := "fnExactTurnSeats", apart := false, narrowed := true }
def FnExactTurnSeatsUptoSaid : Prop := fnExactTurnSeatsUptoRow.holds Try.pinned (OpenSpec.upto fnExactTurnSeatsSpec)

/-- 'laws.FnExactPartSeats', WHERE WHAT IT READS IS OF BULK AT MOST 1048576: true; the input reads as it did. -/
def fnExactPartSeatsUptoRow : OpenClaim := { program := "ytefbepebgmalpaa", sum := "f4a3587be3475a90bdd37f1559f45cbcd4b2172927218fec543b0418dfc5255e", func := "loop.example/g01167/laws.FnExactPartSeats", spec := "fnExactPartSeats", apart := false, narrowed := true }
def FnExactPartSeatsUptoSaid : Prop := fnExactPartSeatsUptoRow.holds Try.pinned (OpenSpec.upto fnExactPartSeatsSpec)

/-- 'laws.FnExactJoinSeats', WHERE WHAT IT READS IS OF BULK AT MOST 1048576: true; the input reads as it did. -/
def fnExactJoinSeatsUptoRow : OpenClaim := { program := "ytefbepebgmalpaa", sum := "f4a3587be3475a90bdd37f1559f45cbcd4b2172927218fec543b0418dfc5255e", func := "loop.example/g01167/laws.FnExactJoinSeats", spec := "fnExactJoinSeats", apart := false, narrowed := true }
def FnExactJoinSeatsUptoSaid : Prop := fnExactJoinSeatsUptoRow.holds Try.pinned (OpenSpec.upto fnExactJoinSeatsSpec)

/-- 'laws.FnExactInsertSeat', WHERE WHAT IT READS IS OF BULK AT MOST 1048576: true; the input reads as it did. -/
def fnExactInsertSeatUptoRow : OpenClaim := { program := "ytefbepebgmalpaa", sum := "f4a3587be3475a90bdd37f1559f45cbcd4b2172927218fec543b0418dfc5255e", func := "loop.example/g01167/laws.FnExactInsertSeat", spec := "fnExactInsertSeat", inPlace := ["slices.overlaps[bool]"], apart := false, narrowed := true }
def FnExactInsertSeatUptoSaid : Prop := fnExactInsertSeatUptoRow.holds Try.pinned (OpenSpec.upto fnExactInsertSeatSpec)

end Rows
end Go.Proofs.Ytefbepebgmalpaa
