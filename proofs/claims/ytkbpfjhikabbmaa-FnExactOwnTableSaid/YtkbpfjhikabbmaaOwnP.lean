/- Chapter 5, spec side: spec.l5Good, l5Own, OwnChance; laws.eqIntA2. -/
import Derived.Test.YtkbpfjhikabbmaaFrac
import Derived.Test.YtkbpfjhikabbmaaIsRow
import Derived.Laws.ResultCell
namespace Go.Proofs.Ytkbpfjhikabbmaa
open Go.RowKit

/-- what a function that gives a fraction and a flag gives -/
def MadeFr (w : World) (x y : Int) (B : Bool) (e : Ending) (w' : World) : Prop :=
  e = .returned (.tuple #[.agg #[.int .i64 x, .int .i64 y], .bool B]) ∧ Below w.heap.size w w'

/-- numbers of travelers and of lost passes -/
def good5 (n k : Int) : Bool := (decide (1 ≤ n) && decide (n ≤ 12)) && (decide (0 ≤ k) && decide (k ≤ n))
theorem good5_is {n k : Int} (h : good5 n k = true) : ∃ a b : Nat, n = a ∧ k = b ∧ 1 ≤ a ∧ a ≤ 12 ∧ b ≤ a := by
  simp only [good5, Bool.and_eq_true, decide_eq_true_eq] at h
  exact ⟨n.toNat, k.toNat, by omega, by omega, by omega, by omega, by omega⟩
theorem good5_of {a b : Nat} (h1 : 1 ≤ a) (h2 : a ≤ 12) (h3 : b ≤ a) : good5 a b = true := by
  simp only [good5, Bool.and_eq_true, decide_eq_true_eq]
  omega

set_option maxHeartbeats 800000 in
theorem l5Good_any (n k : Int) (w : World) :
    Calls Try.prog 23 #[.int .i64 n, .int .i64 k] w fun e w' => e = .returned (.bool (good5 n k)) ∧ w = w' := by
  have H1 := Lib.hid (fun w' => l1In_any n 1 12 w')
  have H2 := Lib.hid (fun w' => l1In_any k 0 n w')
  unfold good5
  obtain ⟨B, hB⟩ : ∃ B, (decide (1 ≤ n) && decide (n ≤ 12)) = B := ⟨_, rfl⟩
  obtain ⟨C, hC⟩ : ∃ C, (decide (0 ≤ k) && decide (k ≤ n)) = C := ⟨_, rfl⟩
  rw [hB] at H1 ⊢
  rw [hC] at H2 ⊢
  clear hB hC
  cases B with
  | true =>
    go_enter Try.func23, Try.ntmps23
    go_wp2_with fail
    refine (H1.out _).mono ?_
    rintro e w1 ⟨rfl, rfl⟩
    go_wp2_with fail
    refine (H2.out _).mono ?_
    rintro e w1 ⟨rfl, rfl⟩
    go_wp2_with fail
    go_ret
    exact ⟨rfl, rfl⟩
  | false =>
    go_enter Try.func23, Try.ntmps23
    go_wp2_with fail
    refine (H1.out _).mono ?_
    rintro e w1 ⟨rfl, rfl⟩
    go_wp2_with fail
    go_ret
    exact ⟨rfl, rfl⟩

/-- the chance that a traveler has the own seat -/
def ownR (n k i : Nat) : Rat := if i < k then mkRat 1 n else mkRat ((n - i : Nat) : Int) (n - i + k)
theorem one_over {n : Nat} (h : 0 < n) : (mkRat 1 n).num = 1 ∧ (mkRat 1 n).den = n := by
  have h0 : ¬ n = 0 := by omega
  rw [Rat.num_mkRat, Rat.den_mkRat, if_neg h0, if_neg h0]
  simp

/-- a function whose two results are a fraction that lies in a box, and a flag -/
theorem ret_fr2 {fn : Func} {R : Ending → World → Prop} {a : Act} {w : World} {p u : Tmp} {b : Nat} {x y v : Value} (h : fn.results = #[.cell p 48, .tmp u]) (hp : a.tmps.getD p undef = .pointer (some ⟨b, 0, none⟩)) (hu : a.tmps.getD u undef = v)
    (ho : OwnArr w b 48 [x, y]) (hd : a.defers = []) (hR : R (.returned (.tuple #[.agg #[x, y], v])) w) : bodyPost Try.prog fn R .ret a w := by
  refine bodyPost_ret (v := .tuple #[.agg #[x, y], v]) ?_ hd hR
  rw [results_cell_tmp h, hp, hu]
  simp only [asAddr, Sem.run_pure, Result.andThen]
  rw [run_loadVar_row w b 48 48 #[x, y] (0, 0) _ ho Try.underlying48 rfl (by rw [infoFr]; rfl)]

/-- the own seat of a traveler who is there -/
def good5i (n k i : Int) : Bool := good5 n k && (decide (0 ≤ i) && decide (i ≤ n - 1))

end Go.Proofs.Ytkbpfjhikabbmaa
