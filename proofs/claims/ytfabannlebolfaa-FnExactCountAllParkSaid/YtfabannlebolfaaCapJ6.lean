/- Chapter 6, impl side: impl.CountAllPark; both sides. -/
import Derived.Test.YtfabannlebolfaaCapI6
namespace Go.Proofs.Ytfabannlebolfaa
open Go.RowKit

set_option maxRecDepth 4000 in
set_option maxHeartbeats 2000000 in
theorem capI_bad (s : Int) (ring : Bool) (p : Option Addr) (cap : Nat) (xs : List Int) (m : Int) (w : World) (lo hi : Nat) (hin : Ri lo hi w p xs) (hlen : xs.length ≤ 1048576) (h : capB s ring xs m = false) :
    Calls Try.prog 11 #[rowV s ring p xs.length cap, .int .i64 m] w fun e w' => e = .returned (.tuple #[.int .i64 0, .bool false]) ∧ Below w.heap.size w w' := by
  have hE := RowE.start w s ring p xs.length cap
  have I := fun (w' : World) (h' : Below w.heap.size w w') => isRow_any s ring p cap xs w' lo hi (hin.below h' hin.top) hlen
  unfold capB at h
  obtain ⟨RB, hRB⟩ : ∃ RB, rowB s ring xs = RB := ⟨_, rfl⟩
  rw [hRB] at I h
  obtain ⟨m0, hm0⟩ : ∃ m, xs.length = m := ⟨_, rfl⟩
  rw [hm0] at hE I ⊢
  have HE := Lib.hid hE
  replace I := Lib.hid I
  clear hin hlen hE hm0 hRB
  obtain ⟨c0, c1, c2, -⟩ := HE.out.row.three
  cases RB with
  | false =>
    clear h
    go_enter Try.func11, Try.ntmps11
    go_wp2_with fail
    refine (I.out _ HE.out.bel).mono ?_
    rintro e w1 ⟨rfl, hb1⟩
    have HE1 := Lib.hid (HE.out.next hb1)
    clear hb1 I c0 c1 c2
    go_wp2_with fail
    go_ret2
    exact ⟨rfl, HE1.out.bel⟩
  | true =>
    rw [Bool.true_and] at h
    have hk : 12 < s ∨ s ≤ 12 ∧ m < 0 ∨ s ≤ 12 ∧ 0 ≤ m ∧ 12 < m := by
      by_cases h1 : s ≤ 12
      · rw [decide_eq_true h1, Bool.true_and] at h
        by_cases h2 : 0 ≤ m
        · rw [decide_eq_true h2, Bool.true_and] at h
          have := of_decide_eq_false h
          exact .inr (.inr ⟨h1, h2, by omega⟩)
        · exact .inr (.inl ⟨h1, by omega⟩)
      · exact .inl (by omega)
    clear h
    rcases hk with h1 | ⟨h1, h2⟩ | ⟨h1, h2, h3⟩
    all_goals
      go_enter Try.func11, Try.ntmps11
      go_wp2_with fail
      refine (I.out _ HE.out.bel).mono ?_
      rintro e w1 ⟨rfl, hb1⟩
      have HE1 := Lib.hid (HE.out.next hb1)
      clear hb1 I c0 c1 c2
      obtain ⟨c0, c1, c2, -⟩ := HE1.out.row.three
      go_wp2_with fail
      go_ret2
      exact ⟨rfl, HE1.out.bel⟩

set_option maxRecDepth 4000 in
set_option maxHeartbeats 2000000 in
theorem capI_any (n a : Nat) (ring : Bool) (p : Option Addr) (cap : Nat) (S : Nat → Bool) (w : World) (lo hi : Nat) (hin : Ri lo hi w p (ints (tk n S))) (h2 : 2 ≤ n) (hn : n ≤ 12) (ha : a ≤ 12) (hr : rowB n ring (ints (tk n S)) = true) :
    Calls Try.prog 11 #[rowV n ring p (ints (tk n S)).length cap, .int .i64 (a : Nat)] w fun e w' => e = .returned (.tuple #[.int .i64 ((capM n ring S a : Nat) : Int), .bool true]) ∧ Below w.heap.size w w' := by
  have hlen := ints_tk_len n S
  have hE := RowE.start w n ring p (ints (tk n S)).length cap
  have I := fun (w' : World) (h' : Below w.heap.size w w') => isRow_any n ring p cap (ints (tk n S)) w' lo hi (hin.below h' hin.top) (by omega)
  rw [hr] at I
  have hk0 : ¬ (12 : Int) < (n : Int) := by omega
  have hk1 : ¬ (a : Int) < 0 := by omega
  have hk2 : ¬ (12 : Int) < (a : Int) := by omega
  cases ring with
  | false =>
    rw [cap_line (by omega) ha]
    have CL := fun (w' : World) (h' : Below w.heap.size w w') => countOnLine_any n a p cap S w' lo hi (hin.below h' hin.top) h2 hn ha
    obtain ⟨R, hR⟩ : ∃ R, lsM (rmM n S) n a = R := ⟨_, rfl⟩
    rw [hR] at CL ⊢
    obtain ⟨m0, hm0⟩ : ∃ m, (ints (tk n S)).length = m := ⟨_, rfl⟩
    rw [hm0] at hE I CL ⊢
    have HE := Lib.hid hE
    replace I := Lib.hid I
    replace CL := Lib.hid CL
    clear hin hlen hE hm0 hR hr
    obtain ⟨c0, c1, c2, -⟩ := HE.out.row.three
    go_enter Try.func11, Try.ntmps11
    go_wp2_with fail
    refine (I.out _ HE.out.bel).mono ?_
    rintro e w1 ⟨rfl, hb1⟩
    have HE1 := Lib.hid (HE.out.next hb1)
    clear hb1 I c0 c1 c2 HE
    obtain ⟨c0, c1, c2, -⟩ := HE1.out.row.three
    go_wp2_with fail
    refine (CL.out _ HE1.out.bel).mono ?_
    rintro e w2 ⟨rfl, hb2⟩
    have HE2 := Lib.hid (HE1.out.next hb2)
    clear hb2 c0 c1 c2
    go_wp2_with fail
    go_ret2
    exact ⟨rfl, HE2.out.bel⟩
  | true =>
    have hnot := tk_not S n
    have hm1 : (ints (tk n S)).length = (tk n S).length := ints_length _
    obtain ⟨fr, hfr⟩ : ∃ fr, (tk n fun i => !S i).length = fr := ⟨_, rfl⟩
    have hcap : capM n true S a = if fr < a then 0 else n ^ a := by unfold capM; rw [hfr]; rfl
    rw [hfr] at hnot
    rw [hcap]
    have P := fun w' => power_any n a (by omega) (fun j hj => Nat.le_trans (pow12 hn (by omega)) (by omega)) w'
    obtain ⟨R, hR⟩ : ∃ R, n ^ a = R := ⟨_, rfl⟩
    rw [hR] at P ⊢
    obtain ⟨m0, hm0⟩ : ∃ m, (ints (tk n S)).length = m := ⟨_, rfl⟩
    rw [hm0] at hE I hm1 ⊢
    rw [← hm1] at hnot
    have hsub : (n : Int) - (m0 : Int) = (fr : Int) := by omega
    have hws : IntKind.i64.wrap (fr : Int) = (fr : Int) := IntWalk.i64_in _ (by omega)
    have HE := Lib.hid hE
    replace I := Lib.hid I
    replace P := Lib.hid P
    clear hin hlen hE hm0 hR hr hcap hfr hm1 hnot
    obtain ⟨c0, c1, c2, -⟩ := HE.out.row.three
    by_cases hlt : fr < a
    · have h1 : (fr : Int) < (a : Int) := by omega
      go_enter Try.func11, Try.ntmps11
      go_wp2_with fail
      refine (I.out _ HE.out.bel).mono ?_
      rintro e w1 ⟨rfl, hb1⟩
      have HE1 := Lib.hid (HE.out.next hb1)
      clear hb1 I c0 c1 c2 HE
      obtain ⟨c0, c1, c2, -⟩ := HE1.out.row.three
      go_wp2_with fail
      go_ret2
      exact ⟨by simp [hlt], HE1.out.bel⟩
    · have h1 : ¬ (fr : Int) < (a : Int) := by omega
      go_enter Try.func11, Try.ntmps11
      go_wp2_with fail
      refine (I.out _ HE.out.bel).mono ?_
      rintro e w1 ⟨rfl, hb1⟩
      have HE1 := Lib.hid (HE.out.next hb1)
      clear hb1 I c0 c1 c2 HE
      obtain ⟨c0, c1, c2, -⟩ := HE1.out.row.three
      go_wp2_with fail
      refine (P.out _).mono ?_
      rintro e w2 ⟨rfl, rfl⟩
      go_wp2_with fail
      go_ret2
      exact ⟨by first | rfl | simp [hlt], HE1.out.bel⟩

theorem countAllPark_both (s0 : Int) (r0 : Bool) (xs0 : List Int) (a1 : Int) : ∃ (x0 : Int) (y1 : Bool), (∀ (q0 : Option Addr) (c0 : Nat) (w : World) (lo0 hi0 : Nat), Ri lo0 hi0 w q0 xs0 → xs0.length ≤ 1048576 → xs0.length ≤ c0 → c0 ≤ maxLen → Calls Try.prog 9 #[rowV s0 r0 q0 xs0.length c0, .int .i64 a1] w fun e w' => e = .returned (.tuple #[.int .i64 x0, .bool y1]) ∧ Below w.heap.size w w') ∧ (∀ (q0 : Option Addr) (c0 : Nat) (w : World) (lo0 hi0 : Nat), Ri lo0 hi0 w q0 xs0 → xs0.length ≤ 1048576 → xs0.length ≤ c0 → c0 ≤ maxLen → Calls Try.prog 11 #[rowV s0 r0 q0 xs0.length c0, .int .i64 a1] w fun e w' => e = .returned (.tuple #[.int .i64 x0, .bool y1]) ∧ Below w.heap.size w w') := by
  cases h : capB s0 r0 xs0 a1 with
  | false => exact ⟨0, false, fun q0 c0 w lo hi h1 h2 _ _ => capS_bad s0 r0 q0 c0 xs0 a1 w lo hi h1 h2 h, fun q0 c0 w lo hi h1 h2 _ _ => capI_bad s0 r0 q0 c0 xs0 a1 w lo hi h1 h2 h⟩
  | true =>
    have hr : rowB s0 r0 xs0 = true := by unfold capB at h; rw [Bool.and_eq_true] at h; exact h.1
    obtain ⟨n, S, a, rfl, rfl, rfl, h2, hn, ha⟩ := capB_is h
    exact ⟨_, _, fun q0 c0 w lo hi h1 _ _ _ => capS_any n a r0 q0 c0 S w lo hi h1 h2 hn ha hr, fun q0 c0 w lo hi h1 _ _ _ => capI_any n a r0 q0 c0 S w lo hi h1 h2 hn ha hr⟩
end Go.Proofs.Ytfabannlebolfaa
