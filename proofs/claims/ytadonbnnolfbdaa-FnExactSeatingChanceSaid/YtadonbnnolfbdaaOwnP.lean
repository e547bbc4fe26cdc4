/- Chapter 5, spec side: spec.l5Good, l5Own, OwnChance; laws.eqIntA2. -/
import Derived.Test.YtadonbnnolfbdaaFrac
import Derived.Test.YtadonbnnolfbdaaIsRow
import Derived.Laws.ResultCell
namespace Go.Proofs.Ytadonbnnolfbdaa
open Go.RowKit

/-- what a function that gives a fraction and a flag gives -/
def MadeFr (w : World) (x y : Int) (B : Bool) (e : Ending) (w' : World) : Prop :=
  e = .returned (.tuple #[.agg #[.int .i64 x, .int .i64 y], .bool B]) ∧ Below w.heap.size w w'

/-- numbers of travelers and of lost passes -/
def good5 (n k : Int) : Bool := (decide (1 ≤ n) && decide (n ≤ 12)) && (decide (0 ≤ k) && decide (k ≤ n))
theorem good5_is {n k : Int} (h : good5 n k = true) : ∃ a b : Nat, n = a ∧ k = b ∧ 1 ≤ a ∧ a ≤ 12 ∧ b ≤ a := by
  simp only [good5, Bool.and_eq_true, decide_eq_true_eq] at h
  exact ⟨n.toNat, k.toNat, by omega, by omega, by omega, by omega, by omega⟩
theorem good5_of {a b : Nat} (h1 : 1 ≤ a) (h2 : a ≤ 12) (h3 : b ≤ a) : good5 a b = true := by
  simp only [good5, Bool.and_eq_true, decide_eq_true_eq]
  omega

set_option maxHeartbeats 800000 in
theorem l5Good_any (n k : Int) (w : World) :
    Calls Try.prog 27 #[.int .i64 n, .int .i64 k] w fun e w' => e = .returned (.bool (good5 n k)) ∧ w = w' := by
  have H1 := Lib.hid (fun w' => l1In_any n 1 12 w')
  have H2 := Lib.hid (fun w' => l1In_any k 0 n w')
  unfold good5
  obtain ⟨B, hB⟩ : ∃ B, (decide (1 ≤ n) && decide (n ≤ 12)) = B := ⟨_, rfl⟩
  obtain ⟨C, hC⟩ : ∃ C, (decide (0 ≤ k) && decide (k ≤ n)) = C := ⟨_, rfl⟩
  rw [hB] at H1 ⊢
  rw [hC] at H2 ⊢
  clear hB hC
  cases B with
  | true =>
    go_enter Try.func27, Try.ntmps27
    go_wp2_with fail
    refine (H1.out _).mono ?_
    rintro e w1 ⟨rfl, rfl⟩
    go_wp2_with fail
    refine (H2.out _).mono ?_
    rintro e w1 ⟨rfl, rfl⟩
    go_wp2_with fail
    go_ret
    exact ⟨rfl, rfl⟩
  | false =>
    go_enter Try.func27, Try.ntmps27
    go_wp2_with fail
    refine (H1.out _).mono ?_
    rintro e w1 ⟨rfl, rfl⟩
    go_wp2_with fail
    go_ret
    exact ⟨rfl, rfl⟩

/-- the chance that a traveler has the own seat -/
def ownR (n k i : Nat) : Rat := if i < k then mkRat 1 n else mkRat ((n - i : Nat) : Int) (n - i + k)
theorem one_over {n : Nat} (h : 0 < n) : (mkRat 1 n).num = 1 ∧ (mkRat 1 n).den = n := by
  have h0 : ¬ n = 0 := by omega
  rw [Rat.num_mkRat, Rat.den_mkRat, if_neg h0, if_neg h0]
  simp

set_option maxRecDepth 4000 in
set_option maxHeartbeats 800000 in
theorem l5Own_any (n k i : Nat) (hn : n ≤ 12) (_ : k ≤ n) (hi : i < n) (w : World) :
    Calls Try.prog 29 #[.int .i64 (n : Nat), .int .i64 (k : Nat), .int .i64 (i : Nat)] w fun e w' => e = .returned (ratV (ownR n k i)) ∧ Below w.heap.size w w' := by
  have HZ : OwnArr (w.alloc (.cells #[.int .i64 0, .int .i64 0] 22)) w.heap.size 22 [.int .i64 0, .int .i64 0] := OwnArr.made w _ [_, _]
  have HB : Below w.heap.size w (w.alloc (.cells #[.int .i64 0, .int .i64 0] 22)) := (Below.refl _ _).alloc (Nat.le_refl _) _
  have HZ1 := Lib.hid HZ
  have HB1 := Lib.hid HB
  clear HZ HB
  by_cases h : i < k
  · have h1 : (i : Int) < (k : Int) := by omega
    have ho := one_over (n := n) (by omega)
    unfold ownR ratV
    rw [if_pos h, ho.1, ho.2]
    clear ho
    go_enter Try.func29, Try.ntmps29
    go_wp2_with fail
    exact ret_fr Try.results29 rfl (OwnArr.made w 22 [.int .i64 1, .int .i64 (n : Int)]) rfl ⟨rfl, (Below.refl _ _).alloc (Nat.le_refl _) _⟩
  · have h1 : ¬ (i : Int) < (k : Int) := by omega
    have C := l2Cut_any ((n - i : Nat) : Int) (n - i + k) (by omega) (by omega) (by omega)
    have e1 : ((n - i : Nat) : Int) = (n : Int) - (i : Int) := by omega
    have e2 : ((n - i + k : Nat) : Int) = (n : Int) - (i : Int) + (k : Int) := by omega
    unfold ownR
    rw [if_neg h]
    obtain ⟨q, hq⟩ : ∃ q, mkRat ((n - i : Nat) : Int) (n - i + k) = q := ⟨_, rfl⟩
    rw [hq] at C ⊢
    rw [e1, e2] at C
    unfold ratV at C ⊢
    replace C := Lib.hid C
    have w1 : IntKind.i64.wrap ((n : Int) - (i : Int)) = (n : Int) - (i : Int) := IntWalk.i64_in _ (by omega)
    have w2 : IntKind.i64.wrap ((n : Int) - (i : Int) + (k : Int)) = (n : Int) - (i : Int) + (k : Int) := IntWalk.i64_in _ (by omega)
    clear hq e1 e2
    go_enter Try.func29, Try.ntmps29
    go_wp2_with fail
    refine (C.out _).mono ?_
    rintro e w2 ⟨rfl, hb2⟩
    have HZ2 := Lib.hid (HZ1.out.below hb2 HZ1.out.lt)
    have HB2 := Lib.hid (HB1.out.trans (hb2.mono HB1.out.size))
    clear HZ1 HB1 hb2 C
    obtain ⟨z0, z1, y0, y1⟩ := boxed_fr HZ2.out
    go_wp2_with fail
    exact ret_fr Try.results29 rfl ((HZ2.out.set 0 _).set 1 _) rfl ⟨rfl, (HB2.out.setCell (p := ⟨w.heap.size, 0, none⟩) (Nat.le_refl _) _).setCell (p := ⟨w.heap.size, 1, none⟩) (Nat.le_refl _) _⟩

/-- a function whose two results are a fraction that lies in a box, and a flag -/
theorem ret_fr2 {fn : Func} {R : Ending → World → Prop} {a : Act} {w : World} {p u : Tmp} {b : Nat} {x y v : Value} (h : fn.results = #[.cell p 22, .tmp u]) (hp : a.tmps.getD p undef = .pointer (some ⟨b, 0, none⟩)) (hu : a.tmps.getD u undef = v)
    (ho : OwnArr w b 22 [x, y]) (hd : a.defers = []) (hR : R (.returned (.tuple #[.agg #[x, y], v])) w) : bodyPost Try.prog fn R .ret a w := by
  refine bodyPost_ret (v := .tuple #[.agg #[x, y], v]) ?_ hd hR
  rw [results_cell_tmp h, hp, hu]
  simp only [asAddr, Sem.run_pure, Result.andThen]
  rw [run_loadVar_row w b 22 22 #[x, y] (0, 0) _ ho Try.underlying22 rfl (by rw [infoFr]; rfl)]

/-- the own seat of a traveler who is there -/
def good5i (n k i : Int) : Bool := good5 n k && (decide (0 ≤ i) && decide (i ≤ n - 1))

set_option maxRecDepth 4000 in
set_option maxHeartbeats 1600000 in
theorem ownChanceS_bad (n k i : Int) (h : good5i n k i = false) (w : World) :
    Calls Try.prog 9 #[.int .i64 n, .int .i64 k, .int .i64 i] w (MadeFr w 0 0 false) := by
  have G := Lib.hid (fun w' => l5Good_any n k w')
  have HZ1 : Hid (OwnArr (w.alloc (.cells #[.int .i64 0, .int .i64 0] 22)) w.heap.size 22 [.int .i64 0, .int .i64 0]) := OwnArr.made w _ [_, _]
  have HB1 : Hid (Below w.heap.size w (w.alloc (.cells #[.int .i64 0, .int .i64 0] 22))) := (Below.refl _ _).alloc (Nat.le_refl _) _
  unfold MadeFr
  unfold good5i at h
  cases hg : good5 n k with
  | false =>
    rw [hg] at G
    clear h hg
    obtain ⟨z0, z1, y0, y1⟩ := boxed_fr HZ1.out
    go_enter Try.func9, Try.ntmps9
    go_wp2_with fail
    refine (G.out _).mono ?_
    rintro e w1 ⟨rfl, rfl⟩
    go_wp2_with fail
    exact ret_fr2 Try.results9 rfl rfl HZ1.out rfl ⟨rfl, HB1.out⟩
  | true =>
    obtain ⟨a, b, rfl, rfl, h1, h2, h3⟩ := good5_is hg
    rw [hg] at G h
    rw [Bool.true_and] at h
    have IN := Lib.hid (fun w' => l1In_any i 0 ((a : Int) - 1) w')
    rw [h] at IN
    have w1 : IntKind.i64.wrap ((a : Int) - 1) = (a : Int) - 1 := IntWalk.i64_in _ (by omega)
    clear h hg
    obtain ⟨z0, z1, y0, y1⟩ := boxed_fr HZ1.out
    go_enter Try.func9, Try.ntmps9
    go_wp2_with fail
    refine (G.out _).mono ?_
    rintro e w1 ⟨rfl, rfl⟩
    go_wp2_with fail
    refine (IN.out _).mono ?_
    rintro e w1 ⟨rfl, rfl⟩
    go_wp2_with fail
    exact ret_fr2 Try.results9 rfl rfl HZ1.out rfl ⟨rfl, HB1.out⟩

set_option maxRecDepth 4000 in
set_option maxHeartbeats 1600000 in
theorem ownChanceS_any (n k i : Nat) (h1 : 1 ≤ n) (hn : n ≤ 12) (hk : k ≤ n) (hi : i < n) (w : World) :
    Calls Try.prog 9 #[.int .i64 (n : Nat), .int .i64 (k : Nat), .int .i64 (i : Nat)] w (MadeFr w (ownR n k i).num ((ownR n k i).den : Nat) true) := by
  have G := Lib.hid (fun w' => l5Good_any (n : Int) (k : Int) w')
  have G2 := G.out
  rw [good5_of h1 hn hk] at G2
  replace G := Lib.hid G2
  have IN := fun w' => l1In_any (i : Int) 0 ((n : Int) - 1) w'
  have hC : (decide (0 ≤ (i : Int)) && decide ((i : Int) ≤ (n : Int) - 1)) = true := by simp; omega
  rw [hC] at IN
  replace IN := Lib.hid IN
  have O := Lib.hid (fun w' => l5Own_any n k i hn hk hi w')
  unfold MadeFr
  unfold ratV at O
  obtain ⟨q, hq⟩ : ∃ q, ownR n k i = q := ⟨_, rfl⟩
  rw [hq] at O ⊢
  have w1 : IntKind.i64.wrap ((n : Int) - 1) = (n : Int) - 1 := IntWalk.i64_in _ (by omega)
  have HZ1 : Hid (OwnArr (w.alloc (.cells #[.int .i64 0, .int .i64 0] 22)) w.heap.size 22 [.int .i64 0, .int .i64 0]) := OwnArr.made w _ [_, _]
  have HB1 : Hid (Below w.heap.size w (w.alloc (.cells #[.int .i64 0, .int .i64 0] 22))) := (Below.refl _ _).alloc (Nat.le_refl _) _
  clear hC hq G2
  go_enter Try.func9, Try.ntmps9
  go_wp2_with fail
  refine (G.out _).mono ?_
  rintro e w1 ⟨rfl, rfl⟩
  go_wp2_with fail
  refine (IN.out _).mono ?_
  rintro e w1 ⟨rfl, rfl⟩
  go_wp2_with fail
  refine (O.out _).mono ?_
  rintro e w2 ⟨rfl, hb2⟩
  have HZ2 := Lib.hid (HZ1.out.below hb2 HZ1.out.lt)
  have HB2 := Lib.hid (HB1.out.trans (hb2.mono HB1.out.size))
  clear HZ1 HB1 hb2 O
  obtain ⟨z0, z1, y0, y1⟩ := boxed_fr HZ2.out
  go_wp2_with fail
  exact ret_fr2 Try.results9 rfl rfl ((HZ2.out.set 0 _).set 1 _) rfl ⟨rfl, (HB2.out.setCell (p := ⟨w.heap.size, 0, none⟩) (Nat.le_refl _) _).setCell (p := ⟨w.heap.size, 1, none⟩) (Nat.le_refl _) _⟩
end Go.Proofs.Ytadonbnnolfbdaa
