/- Operations of a drawn region that are not wanted, taken in one go. Plain lemmas. -/
import Derived.Test.YtlknghghefiokaaInts
import Derived.StillTailTactics
namespace Go.Proofs.Ytlknghghefiokaa
open Go.RowKit

/-- a goal at an operation that is not wanted is never to be looked at: it unfolds to the region's end -/
def skipsW (ops : Array Oper) : Nat → List Oper → Act → Bool
  | 0, _, _ => true
  | n + 1, o :: r, a => !Region.wanted o (yielded ops a.tmps) && skipsW ops n r (a.put o.dst undef)
  | _ + 1, [], _ => false
def undefW : Nat → List Oper → Act → Act
  | 0, _, a => a
  | n + 1, o :: r, a => undefW n r (a.put o.dst undef)
  | _ + 1, [], a => a
theorem skipW_all {P : Program} {ops : Array Oper} {w : World} {Q : Act → Prop} : ∀ (n : Nat) (l : List Oper) (a : Act), skipsW ops n l a = true → wpStill P ops w Q (l.drop n) (undefW n l a) → wpStill P ops w Q l a
  | 0, _, _, _, h => h
  | n + 1, [], _, h, _ => by cases h
  | n + 1, o :: r, a, hs, h => by
    unfold skipsW at hs
    simp only [Bool.and_eq_true, Bool.not_eq_true'] at hs
    unfold wpStill
    rw [hs.1]
    exact skipW_all n r _ hs.2 h
theorem skipW_move {P : Program} {ops : Array Oper} {w : World} {Q : Act → Prop} {a : Act} {o : Oper} {rest : List Oper} (n : Nat) (x : Operand) (v : Value) (hw : Region.wanted o (yielded ops a.tmps) = true) (ho : o.op = .move x) (hv : a.eval x = v)
    (hs : skipsW ops n rest (a.put o.dst v) = true) (h : wpStill P ops w Q (rest.drop n) (undefW n rest (a.put o.dst v))) : wpStill P ops w Q (o :: rest) a := by
  refine wpStill_step (fun K hK => ?_)
  rw [if_pos hw]
  unfold Oper.still execOp
  simp only [ho, hv, Sem.run_pure, Sem.run_bind, Oper.stillUpon, Result.andThen_ok]
  exact ⟨trivial, hK _ (skipW_all n rest _ hs h)⟩
end Go.Proofs.Ytlknghghefiokaa
