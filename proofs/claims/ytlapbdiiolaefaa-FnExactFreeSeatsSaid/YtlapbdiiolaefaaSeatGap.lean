/- spec.SeatGap and impl.SeatGap, for every Row and all seats. -/
import Derived.Test.YtlapbdiiolaefaaGap
namespace Go.Proofs.Ytlapbdiiolaefaa
open Go.RowKit

theorem seatB_is {s : Int} {ring : Bool} {xs : List Int} {x : Int} (h : seatB s ring xs x = true) :
    ∃ (n : Nat) (S : Nat → Bool) (k : Nat), s = (n : Int) ∧ xs = ints (tk n S) ∧ x = (k : Int) ∧ k < n ∧ 2 ≤ n ∧ n ≤ 24 ∧ (ring = true → 3 ≤ n) := by
  unfold seatB at h
  simp only [Bool.and_eq_true, decide_eq_true_eq] at h
  obtain ⟨n, S, rfl, rfl, h1, h2, h3⟩ := rowB_is h.1
  exact ⟨n, S, x.toNat, rfl, rfl, by omega, by omega, h1, h2, h3⟩

set_option maxHeartbeats 800000 in
theorem seatGapS_any (s : Int) (ring : Bool) (p : Option Addr) (cap : Nat) (xs : List Int) (a b : Int) (w : World) (lo hi : Nat) (hin : Ri lo hi w p xs) (hlen : xs.length ≤ 1048576) (R : Int) (B : Bool)
    (hB : (seatB s ring xs a && seatB s ring xs b) = B) (h0 : B = false → R = 0) (hR : B = true → ∀ w', Calls Try.prog 38 #[rowV s ring p xs.length cap, .int .i64 a, .int .i64 b] w' fun e w'' => e = .returned (.int .i64 R) ∧ Below w'.heap.size w' w'') :
    Calls Try.prog 15 #[rowV s ring p xs.length cap, .int .i64 a, .int .i64 b] w fun e w' => e = .returned (.tuple #[.int .i64 R, .bool B]) ∧ Below w.heap.size w w' := by
  have hb := box_below w s ring p xs.length cap 27
  have I := fun (x : Int) (w' : World) (h : Below w.heap.size w w') => l2Seat_any s ring p cap xs x w' lo hi (hin.below h hin.top) hlen
  have HX := Lib.hid (OwnArr.made w 27 [.int .i64 s, .bool ring, .slice p xs.length cap])
  replace hb := Lib.hid hb
  replace I := Lib.hid I
  replace hR := Lib.hid hR
  clear hin
  by_cases hA : seatB s ring xs a = true
  · have IA := Lib.hid (I.out a _ hb.out)
    rw [hA] at IA hB
    have IB := Lib.hid (I.out b)
    clear hA I
    obtain ⟨C, hC⟩ : ∃ C, seatB s ring xs b = C := ⟨_, rfl⟩
    rw [hC] at IB hB
    simp only [Bool.true_and] at hB
    subst hB
    clear hC
    cases C with
    | true =>
      have G := Lib.hid (hR.out rfl)
      clear hR h0
      go_enter Try.func15, Try.ntmps15
      go_wp2_with fail
      refine IA.out.mono ?_
      rintro e w1 ⟨rfl, hb1⟩
      have HX1 := Lib.hid (HX.out.below hb1 (by simp))
      have hB1 := Lib.hid (hb.out.trans (hb1.mono hb.out.size))
      obtain ⟨c0, c1, c2, -⟩ := HX1.out.three
      clear hb1 hb IA HX
      go_wp2_with fail
      refine (IB.out _ hB1.out).mono ?_
      rintro e w2 ⟨rfl, hb2⟩
      have HX2 := Lib.hid (HX1.out.below hb2 HX1.out.lt)
      have hB2 := Lib.hid (hB1.out.trans (hb2.mono hB1.out.size))
      clear c0 c1 c2 hb2 hB1 IB HX1
      obtain ⟨c0, c1, c2, -⟩ := HX2.out.three
      go_wp2_with fail
      refine (G.out _).mono ?_
      rintro e w3 ⟨rfl, hb3⟩
      go_wp2_with fail
      go_ret2
      exact ⟨rfl, hB2.out.trans (hb3.mono hB2.out.size)⟩
    | false =>
      have h1 := h0 rfl
      subst h1
      clear hR h0
      go_enter Try.func15, Try.ntmps15
      go_wp2_with fail
      refine IA.out.mono ?_
      rintro e w1 ⟨rfl, hb1⟩
      have HX1 := Lib.hid (HX.out.below hb1 (by simp))
      have hB1 := Lib.hid (hb.out.trans (hb1.mono hb.out.size))
      obtain ⟨c0, c1, c2, -⟩ := HX1.out.three
      clear hb1 hb IA HX
      go_wp2_with fail
      refine (IB.out _ hB1.out).mono ?_
      rintro e w2 ⟨rfl, hb2⟩
      go_wp2_with fail
      go_ret2
      exact ⟨rfl, hB1.out.trans (hb2.mono hB1.out.size)⟩
  · have hA' : seatB s ring xs a = false := by simpa using hA
    have IA := Lib.hid (I.out a _ hb.out)
    rw [hA'] at IA hB
    simp only [Bool.false_and] at hB
    subst hB
    have h1 := h0 rfl
    subst h1
    clear hR h0 hA hA' I
    go_enter Try.func15, Try.ntmps15
    go_wp2_with fail
    refine IA.out.mono ?_
    rintro e w1 ⟨rfl, hb1⟩
    go_wp2_with fail
    go_ret2
    exact ⟨rfl, hb.out.trans (hb1.mono hb.out.size)⟩

set_option maxHeartbeats 800000 in
theorem seatGapI_any (s : Int) (ring : Bool) (p : Option Addr) (cap : Nat) (xs : List Int) (a b : Int) (w : World) (lo hi : Nat) (hin : Ri lo hi w p xs) (hlen : xs.length ≤ 1048576) (R : Int) (B : Bool)
    (hB : (seatB s ring xs a && seatB s ring xs b) = B) (h0 : B = false → R = 0) (hR : B = true → ∀ w', Calls Try.prog 40 #[rowV s ring p xs.length cap, .int .i64 a, .int .i64 b] w' fun e w'' => e = .returned (.int .i64 R) ∧ Below w'.heap.size w' w'') :
    Calls Try.prog 16 #[rowV s ring p xs.length cap, .int .i64 a, .int .i64 b] w fun e w' => e = .returned (.tuple #[.int .i64 R, .bool B]) ∧ Below w.heap.size w w' := by
  have hb := box_below w s ring p xs.length cap 27
  have I := fun (x : Int) (w' : World) (h : Below w.heap.size w w') => isSeatOf_any s ring p cap xs x w' lo hi (hin.below h hin.top) hlen
  have HX := Lib.hid (OwnArr.made w 27 [.int .i64 s, .bool ring, .slice p xs.length cap])
  replace hb := Lib.hid hb
  replace I := Lib.hid I
  replace hR := Lib.hid hR
  clear hin
  by_cases hA : seatB s ring xs a = true
  · have IA := Lib.hid (I.out a _ hb.out)
    rw [hA] at IA hB
    have IB := Lib.hid (I.out b)
    clear hA I
    obtain ⟨C, hC⟩ : ∃ C, seatB s ring xs b = C := ⟨_, rfl⟩
    rw [hC] at IB hB
    simp only [Bool.true_and] at hB
    subst hB
    clear hC
    cases C with
    | true =>
      have G := Lib.hid (hR.out rfl)
      clear hR h0
      go_enter Try.func16, Try.ntmps16
      go_wp2_with fail
      refine IA.out.mono ?_
      rintro e w1 ⟨rfl, hb1⟩
      have HX1 := Lib.hid (HX.out.below hb1 (by simp))
      have hB1 := Lib.hid (hb.out.trans (hb1.mono hb.out.size))
      obtain ⟨c0, c1, c2, -⟩ := HX1.out.three
      clear hb1 hb IA HX
      go_wp2_with fail
      refine (IB.out _ hB1.out).mono ?_
      rintro e w2 ⟨rfl, hb2⟩
      have HX2 := Lib.hid (HX1.out.below hb2 HX1.out.lt)
      have hB2 := Lib.hid (hB1.out.trans (hb2.mono hB1.out.size))
      clear c0 c1 c2 hb2 hB1 IB HX1
      obtain ⟨c0, c1, c2, -⟩ := HX2.out.three
      go_wp2_with fail
      refine (G.out _).mono ?_
      rintro e w3 ⟨rfl, hb3⟩
      go_wp2_with fail
      go_ret2
      exact ⟨rfl, hB2.out.trans (hb3.mono hB2.out.size)⟩
    | false =>
      have h1 := h0 rfl
      subst h1
      clear hR h0
      go_enter Try.func16, Try.ntmps16
      go_wp2_with fail
      refine IA.out.mono ?_
      rintro e w1 ⟨rfl, hb1⟩
      have HX1 := Lib.hid (HX.out.below hb1 (by simp))
      have hB1 := Lib.hid (hb.out.trans (hb1.mono hb.out.size))
      obtain ⟨c0, c1, c2, -⟩ := HX1.out.three
      clear hb1 hb IA HX
      go_wp2_with fail
      refine (IB.out _ hB1.out).mono ?_
      rintro e w2 ⟨rfl, hb2⟩
      go_wp2_with fail
      go_ret2
      exact ⟨rfl, hB1.out.trans (hb2.mono hB1.out.size)⟩
  · have hA' : seatB s ring xs a = false := by simpa using hA
    have IA := Lib.hid (I.out a _ hb.out)
    rw [hA'] at IA hB
    simp only [Bool.false_and] at hB
    subst hB
    have h1 := h0 rfl
    subst h1
    clear hR h0 hA hA' I
    go_enter Try.func16, Try.ntmps16
    go_wp2_with fail
    refine IA.out.mono ?_
    rintro e w1 ⟨rfl, hb1⟩
    go_wp2_with fail
    go_ret2
    exact ⟨rfl, hb.out.trans (hb1.mono hb.out.size)⟩

/-- both functions give one gap -/
theorem seatGap_both (s : Int) (ring : Bool) (xs : List Int) (a b : Int) : ∃ (R : Int) (B : Bool),
    (∀ (p : Option Addr) (cap : Nat) (w : World) (lo hi : Nat), Ri lo hi w p xs → xs.length ≤ 1048576 → Calls Try.prog 15 #[rowV s ring p xs.length cap, .int .i64 a, .int .i64 b] w fun e w' => e = .returned (.tuple #[.int .i64 R, .bool B]) ∧ Below w.heap.size w w') ∧
    (∀ (p : Option Addr) (cap : Nat) (w : World) (lo hi : Nat), Ri lo hi w p xs → xs.length ≤ 1048576 → Calls Try.prog 16 #[rowV s ring p xs.length cap, .int .i64 a, .int .i64 b] w fun e w' => e = .returned (.tuple #[.int .i64 R, .bool B]) ∧ Below w.heap.size w w') := by
  by_cases h : (seatB s ring xs a && seatB s ring xs b) = true
  · have h' := h
    simp only [Bool.and_eq_true] at h'
    obtain ⟨n, S, k, rfl, rfl, rfl, hk, h1, h2, h3⟩ := seatB_is h'.1
    obtain ⟨m, T, l, hm, _, rfl, hl, _⟩ := seatB_is h'.2
    have hl' : l < n := by omega
    exact ⟨(gapM n ring k l : Nat), true,
      fun p cap w lo hi hin hlen => seatGapS_any n ring p cap _ k l w lo hi hin hlen _ _ h (fun h => by cases h) (fun _ w' => gapS_any n ring p _ cap k l w' h2 hk hl'),
      fun p cap w lo hi hin hlen => seatGapI_any n ring p cap _ k l w lo hi hin hlen _ _ h (fun h => by cases h) (fun _ w' => gapI_any n ring p _ cap k l w' h2 hk hl')⟩
  · have h' : (seatB s ring xs a && seatB s ring xs b) = false := by simpa using h
    exact ⟨0, false,
      fun p cap w lo hi hin hlen => seatGapS_any s ring p cap _ a b w lo hi hin hlen _ _ h' (fun _ => rfl) (fun h => by cases h),
      fun p cap w lo hi hin hlen => seatGapI_any s ring p cap _ a b w lo hi hin hlen _ _ h' (fun _ => rfl) (fun h => by cases h)⟩
end Go.Proofs.Ytlapbdiiolaefaa
