/- Chapter 7, spec side: spec.l7Time, BoardTime, given spec.l7Start. -/
import Derived.Test.YtlhnejjciondeaaRnn7
import Derived.Test.YtlhnejjciondeaaAsk7
import Derived.Test.YtlhnejjciondeaaMst7
namespace Go.Proofs.Ytlhnejjciondeaa
open Go.RowKit

/-- the greatest of the first numbers, and 0 -/
def mxM (F : Nat → Int) : Nat → Int
  | 0 => 0
  | k + 1 => if F k < mxM F k then mxM F k else F k
theorem runs_all {n : Nat} {s : Int} {l : List Nat} (hn : n ≤ 10) (hs1 : 1 ≤ s) (hs : s ≤ 5) (hl : ∀ x ∈ l, x < n) (ha : ∀ r, r < n → r ∈ l) : ∃ U, runs7 n s (-1) l U := by
  obtain ⟨U, h1, h2, h3⟩ := fin_exists hn hs1 hs hl ha
  exact ⟨U, h1, fun u hu => ⟨.inl (by omega), h3 u hu⟩, .inr h2⟩

set_option maxRecDepth 4000 in
set_option maxHeartbeats 2000000 in
theorem l7Time_any (ST : ∀ (n : Nat) (w' : World), 1 ≤ n → n ≤ 10 → Calls Try.prog 59 #[.int .i64 (n : Nat)] w' (MadeCab w' n start7))
    (n : Nat) (s : Int) (p : Option Addr) (cap : Nat) (l : List Nat) (U : Nat) (w : World) (lo hi : Nat) (hin : Ri lo hi w p (ints l)) (hn1 : 1 ≤ n) (hn : n ≤ 10) (hs1 : 1 ≤ s) (hs : s ≤ 5) (hl : ∀ x ∈ l, x < n) (hll : l.length = n) (hU : runs7 n s (-1) l U) :
    Calls Try.prog 30 #[.int .i64 (n : Nat), .int .i64 s, .slice p n cap] w fun E w' => E = .returned (.int .i64 (mxM (cabU s l U).sa n)) ∧ Below w.heap.size w w' := by
  have R := l7Run_any ST n s (-1) p cap l U w lo hi hin hn1 hn hs1 hs hl hll hU
  unfold MadeCab at R
  obtain ⟨C, hC⟩ : ∃ C, cabU s l U = C := ⟨_, rfl⟩
  rw [hC] at R ⊢
  replace R := Lib.hid R
  have i4 : ∀ (v0 v1 v2 v3 v4 v5 : Value) (w' : World), (Instr.field 65 (.agg #[v0, v1, v2, v3, v4, v5]) 4).run Try.prog w' = .ok v4 w' := fun _ _ _ _ _ _ _ => by kernel_rfl
  clear ST hin hl hll hU hC
  go_enter Try.func30, Try.ntmps30
  go_wp2_with fail
  refine R.out.mono ?_
  rintro E w2 ⟨K, a, b, c, d, e, f, rfl, hC, hF, -, hb⟩
  have HC := Lib.hid hC.sa
  have HB := Lib.hid hb
  clear R hC hF hb
  go_wp2_with fail
  go_loop [7, 9] (fun v i => ∃ (k : Nat), k ≤ n ∧ i = .int .i64 (k : Int) ∧ v = .int .i64 (mxM C.sa k)) (fun _ i => n - (intOf i).toNat)
  case atStart => exact ⟨0, Nat.zero_le _, rfl, rfl⟩
  case round =>
    obtain ⟨k, hk, rfl, rfl⟩ := hrel
    by_cases hlt : k < n
    · have hk1 : (k : Int) < (n : Int) := by omega
      have hk0 : (0 : Int) ≤ (k : Int) := by omega
      have h0 := HC.out.cell hlt
      have M := Lib.hid (fun w' => l1Most_num (mxM C.sa k) (C.sa k) w')
      have HM : Hid (mxM C.sa (k + 1) = if C.sa k < mxM C.sa k then mxM C.sa k else C.sa k) := rfl
      rw [← HM.out] at M
      obtain ⟨x, hx⟩ : ∃ x, C.sa k = x := ⟨_, rfl⟩
      rw [hx] at h0 M
      obtain ⟨y, hy⟩ : ∃ y, mxM C.sa k = y := ⟨_, rfl⟩
      rw [hy] at M ⊢
      clear hx hy HM
      go_wp2_with fail
      refine (M.out _).mono ?_
      rintro E1 w1 ⟨rfl, rfl⟩
      go_wp2_with fail
      go_round
      case rel => exact ⟨k + 1, by omega, by go_num, rfl⟩
      case measure => simp [intOf]; omega
    · have hkn : k = n := by omega
      subst hkn
      have hk1 : ¬ (k : Int) < (k : Int) := by omega
      go_wp2_with fail
      go_ret
      exact ⟨rfl, HB.out⟩
end Go.Proofs.Ytlhnejjciondeaa
