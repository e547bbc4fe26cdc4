/- spec.NearestTaken and NearestFree, impl.NearestTaken and NearestFree, for every Row and all seats. -/
import Derived.Test.YtlapbdiiolaefaaNearI
import Derived.Deep.RegionWith
namespace Go.Proofs.Ytlapbdiiolaefaa
open Go.RowKit


set_option maxHeartbeats 800000 in
theorem nearestTakenI (s : Int) (ring : Bool) (p : Option Addr) (m cap : Nat) (a : Int) (w : World) (R1 R2 : Int) (B : Bool)
    (h : ∀ w', Below w.heap.size w w' → Calls Try.prog 42 #[rowV s ring p m cap, .int .i64 a, .func (.func 43) #[] #[]] w' fun e w'' => e = .returned (.tuple #[.int .i64 R1, .int .i64 R2, .bool B]) ∧ Below w'.heap.size w' w'') :
    Calls Try.prog 18 #[rowV s ring p m cap, .int .i64 a] w fun e w' => e = .returned (.tuple #[.int .i64 R1, .int .i64 R2, .bool B]) ∧ Below w.heap.size w w' := by
  have hb := box_below w s ring p m cap 27
  have R := Lib.hid (h _ hb)
  have HB := Lib.hid hb
  clear hb h
  go_enter Try.func18, Try.ntmps18
  go_wp2_with fail
  refine R.out.mono ?_
  rintro e w1 ⟨rfl, hb1⟩
  go_wp2_with fail
  go_ret3
  exact ⟨rfl, HB.out.trans (hb1.mono HB.out.size)⟩


set_option maxHeartbeats 800000 in
theorem nearestFreeI (s : Int) (ring : Bool) (p : Option Addr) (m cap : Nat) (a : Int) (w : World) (R1 R2 : Int) (B : Bool)
    (h : ∀ w', Below w.heap.size w w' → Calls Try.prog 42 #[rowV s ring p m cap, .int .i64 a, .func (.func 45) #[] #[]] w' fun e w'' => e = .returned (.tuple #[.int .i64 R1, .int .i64 R2, .bool B]) ∧ Below w'.heap.size w' w'') :
    Calls Try.prog 20 #[rowV s ring p m cap, .int .i64 a] w fun e w' => e = .returned (.tuple #[.int .i64 R1, .int .i64 R2, .bool B]) ∧ Below w.heap.size w w' := by
  have hb := box_below w s ring p m cap 27
  have R := Lib.hid (h _ hb)
  have HB := Lib.hid hb
  clear hb h
  go_enter Try.func20, Try.ntmps20
  go_wp2_with fail
  refine R.out.mono ?_
  rintro e w1 ⟨rfl, hb1⟩
  go_wp2_with fail
  go_ret3
  exact ⟨rfl, HB.out.trans (hb1.mono HB.out.size)⟩


set_option maxHeartbeats 800000 in
theorem nearestTakenS_bad (s : Int) (ring : Bool) (p : Option Addr) (cap : Nat) (xs : List Int) (a : Int) (w : World) (lo hi : Nat) (hin : Ri lo hi w p xs) (hlen : xs.length ≤ 1048576) (hv : seatB s ring xs a = false) :
    Calls Try.prog 17 #[rowV s ring p xs.length cap, .int .i64 a] w fun e w' => e = .returned (.tuple #[.int .i64 0, .int .i64 0, .bool false]) ∧ Below w.heap.size w w' := by
  have hb := box_below w s ring p xs.length cap 27
  have R := Lib.hid (l2Seat_any s ring p cap xs a _ lo hi (hin.bel hb) hlen)
  rw [hv] at R
  have HB := Lib.hid hb
  clear hb hin hv
  go_enter Try.func17, Try.ntmps17
  go_wp2_with fail
  refine R.out.mono ?_
  rintro e w1 ⟨rfl, hb1⟩
  go_wp2_with fail
  go_ret3
  exact ⟨rfl, HB.out.trans (hb1.mono HB.out.size)⟩


set_option maxHeartbeats 800000 in
theorem nearestFreeS_bad (s : Int) (ring : Bool) (p : Option Addr) (cap : Nat) (xs : List Int) (a : Int) (w : World) (lo hi : Nat) (hin : Ri lo hi w p xs) (hlen : xs.length ≤ 1048576) (hv : seatB s ring xs a = false) :
    Calls Try.prog 19 #[rowV s ring p xs.length cap, .int .i64 a] w fun e w' => e = .returned (.tuple #[.int .i64 0, .int .i64 0, .bool false]) ∧ Below w.heap.size w w' := by
  have hb := box_below w s ring p xs.length cap 27
  have R := Lib.hid (l2Seat_any s ring p cap xs a _ lo hi (hin.bel hb) hlen)
  rw [hv] at R
  have HB := Lib.hid hb
  clear hb hin hv
  go_enter Try.func19, Try.ntmps19
  go_wp2_with fail
  refine R.out.mono ?_
  rintro e w1 ⟨rfl, hb1⟩
  go_wp2_with fail
  go_ret3
  exact ⟨rfl, HB.out.trans (hb1.mono HB.out.size)⟩


set_option maxRecDepth 4000 in
set_option maxHeartbeats 2000000 in
theorem nearestTakenS_any (n : Nat) (ring : Bool) (p : Option Addr) (cap : Nat) (S : Nat → Bool) (k : Nat) (w : World) (lo hi : Nat) (hin : Ri lo hi w p (ints (tk n S))) (h2 : 2 ≤ n) (hn : n ≤ 24) (h3 : ring = true → 3 ≤ n) (hk : k < n) (R1 R2 : Int) (B : Bool)
    (hgood : B = true → ¬ (ints (tk n S)).length = 0 ∧ nearP (gapM n ring k) (tk n (S)) = (R1, R2)) (hbad : B = false → R1 = 0 ∧ R2 = 0 ∧ (ints (tk n S)).length = 0) :
    Calls Try.prog 17 #[rowV n ring p (ints (tk n S)).length cap, .int .i64 k] w fun e w' => e = .returned (.tuple #[.int .i64 R1, .int .i64 R2, .bool B]) ∧ Below w.heap.size w w' := by
  have hb := box_below w n ring p (ints (tk n S)).length cap 27
  have hlen := ints_tk_len n S
  have R := Lib.hid (l2Seat_any n ring p cap (ints (tk n S)) k _ lo hi (hin.bel hb) (by omega))
  have hv : seatB n ring (ints (tk n S)) k = true := by
    unfold seatB
    rw [rowB_of h2 hn h3]
    simp
    omega
  rw [hv] at R
  have HX := Lib.hid (OwnArr.made w 27 [.int .i64 n, .bool ring, .slice p (ints (tk n S)).length cap])
  have HI := Lib.hid (hin.bel hb)
  have HB := Lib.hid hb
  clear hb hin hv h3
  cases B with
  | true =>
      obtain ⟨hz, hres⟩ := hgood rfl
      have N := Lib.hid (fun w' (h : Ri lo hi w' p (ints (tk n S))) => nearestS_any n ring p (ints (tk n S)).length cap p cap (tk n S) k w' lo hi h (fun x hx => (mem_tk.1 hx).1) (by have := tk_length_le n S; omega) hn hk)
      rw [hres, ← ints_length] at N
      clear hgood hbad hres
      obtain ⟨m, hm⟩ : ∃ m, (ints (tk n S)).length = m := ⟨_, rfl⟩
      rw [hm] at R HX HI HB N hz ⊢
      clear hm hlen
      go_enter Try.func17, Try.ntmps17
      go_wp2_with fail
      refine R.out.mono ?_
      rintro e w1 ⟨rfl, hb1⟩
      have HX2 := Lib.hid (HX.out.below hb1 (by simp))
      have HI2 := Lib.hid (HI.out.bel hb1)
      have HB2 := Lib.hid (HB.out.trans (hb1.mono HB.out.size))
      clear HX HI HB hb1 R
      obtain ⟨c0, c1, c2, -⟩ := HX2.out.three
      go_wp2_with fail
      refine (N.out _ HI2.out).mono ?_
      rintro e w3 ⟨rfl, hb3⟩
      go_wp2_with fail
      go_ret3
      exact ⟨rfl, HB2.out.trans (hb3.mono HB2.out.size)⟩
  | false =>
      obtain ⟨rfl, rfl, hz⟩ := hbad rfl
      clear hgood hbad
      obtain ⟨m, hm⟩ : ∃ m, (ints (tk n S)).length = m := ⟨_, rfl⟩
      rw [hm] at R HX HI HB hz ⊢
      subst hz
      clear hlen HI
      go_enter Try.func17, Try.ntmps17
      go_wp2_with fail
      refine R.out.mono ?_
      rintro e w1 ⟨rfl, hb1⟩
      have HX2 := Lib.hid (HX.out.below hb1 (by simp))
      have HB2 := Lib.hid (HB.out.trans (hb1.mono HB.out.size))
      clear HX HB hb1 R
      obtain ⟨c0, c1, c2, -⟩ := HX2.out.three
      go_wp2_with fail
      go_ret3
      exact ⟨rfl, HB2.out⟩


set_option maxRecDepth 4000 in
set_option maxHeartbeats 2000000 in
theorem nearestFreeS_any (n : Nat) (ring : Bool) (p : Option Addr) (cap : Nat) (S : Nat → Bool) (k : Nat) (w : World) (lo hi : Nat) (hin : Ri lo hi w p (ints (tk n S))) (h2 : 2 ≤ n) (hn : n ≤ 24) (h3 : ring = true → 3 ≤ n) (hk : k < n) (R1 R2 : Int) (B : Bool)
    (hgood : B = true → ¬ (ints (tk n S)).length = n ∧ nearP (gapM n ring k) (tk n (fun z => !S z)) = (R1, R2)) (hbad : B = false → R1 = 0 ∧ R2 = 0 ∧ (ints (tk n S)).length = n) :
    Calls Try.prog 19 #[rowV n ring p (ints (tk n S)).length cap, .int .i64 k] w fun e w' => e = .returned (.tuple #[.int .i64 R1, .int .i64 R2, .bool B]) ∧ Below w.heap.size w w' := by
  have hb := box_below w n ring p (ints (tk n S)).length cap 27
  have hlen := ints_tk_len n S
  have R := Lib.hid (l2Seat_any n ring p cap (ints (tk n S)) k _ lo hi (hin.bel hb) (by omega))
  have hv : seatB n ring (ints (tk n S)) k = true := by
    unfold seatB
    rw [rowB_of h2 hn h3]
    simp
    omega
  rw [hv] at R
  have HX := Lib.hid (OwnArr.made w 27 [.int .i64 n, .bool ring, .slice p (ints (tk n S)).length cap])
  have HI := Lib.hid (hin.bel hb)
  have HB := Lib.hid hb
  clear hb hin hv h3
  cases B with
  | true =>
      obtain ⟨hz, hres⟩ := hgood rfl
      have N := Lib.hid (fun (q : Option Addr) (qcap : Nat) w' (l' h' : Nat) (h : Ri l' h' w' q (ints (tk n fun z => !S z))) => nearestS_any n ring p (ints (tk n S)).length cap q qcap (tk n fun z => !S z) k w' l' h' h (fun x hx => (mem_tk.1 hx).1) (by have := tk_length_le n (fun z => !S z); omega) hn hk)
      rw [hres] at N
      have FR := Lib.hid (fun w' (h : Ri lo hi w' p (ints (tk n S))) => freeS_any n ring p cap S w' lo hi h hn)
      clear hgood hbad hres
      obtain ⟨m, hm⟩ : ∃ m, (ints (tk n S)).length = m := ⟨_, rfl⟩
      rw [hm] at R HX HI HB N hz FR ⊢
      clear hm hlen
      go_enter Try.func19, Try.ntmps19
      go_wp2_with fail
      refine R.out.mono ?_
      rintro e w1 ⟨rfl, hb1⟩
      have HX2 := Lib.hid (HX.out.below hb1 (by simp))
      have HI2 := Lib.hid (HI.out.bel hb1)
      have HB2 := Lib.hid (HB.out.trans (hb1.mono HB.out.size))
      clear HX HI HB hb1 R
      obtain ⟨c0, c1, c2, -⟩ := HX2.out.three
      have HId := Lib.hid (HI2.out.bel ((Below.refl _ w1).drew))
      have HXd := Lib.hid (HX2.out.drew)
      have HBd := Lib.hid (HB2.out.drew)
      clear HI2 HX2 HB2
      go_wp2_with fail
      go_region_with (first
        | (go_at_call 44; refine (FR.out _ HId.out).mono ?_; rintro e w2 ⟨v, rfl, hO2, hb2⟩; obtain ⟨q, qcap, rfl, -, -, hR2, -⟩ := hO2.rd; rw [ints_length]; have HB3 := Lib.hid (HBd.out.trans (hb2.mono HBd.out.size)); have N3 := Lib.hid (N.out q qcap w2 _ _ hR2); have HX3 := Lib.hid (HXd.out.below hb2 HXd.out.lt); obtain ⟨d0, d1, d2, -⟩ := HX3.out.three; clear hO2 hb2 hR2)
        | (go_at_call 41; refine N3.out.mono ?_; rintro e w3 ⟨rfl, hb4⟩; have HB4 := Lib.hid (HB3.out.trans (hb4.mono HB3.out.size)); clear hb4))
      all_goals
        go_wp2_with fail
        go_ret3
        exact ⟨rfl, HB4.out⟩
  | false =>
      obtain ⟨rfl, rfl, hz⟩ := hbad rfl
      clear hgood hbad
      obtain ⟨m, hm⟩ : ∃ m, (ints (tk n S)).length = m := ⟨_, rfl⟩
      rw [hm] at R HX HI HB hz ⊢
      subst hz
      clear hlen HI
      go_enter Try.func19, Try.ntmps19
      go_wp2_with fail
      refine R.out.mono ?_
      rintro e w1 ⟨rfl, hb1⟩
      have HX2 := Lib.hid (HX.out.below hb1 (by simp))
      have HB2 := Lib.hid (HB.out.trans (hb1.mono HB.out.size))
      clear HX HB hb1 R
      obtain ⟨c0, c1, c2, -⟩ := HX2.out.three
      go_wp2_with fail
      go_ret3
      exact ⟨rfl, HB2.out⟩

theorem noTaken {n : Nat} {S : Nat → Bool} : tk n S = [] ↔ (ints (tk n S)).length = 0 := by
  rw [ints_length, List.length_eq_zero_iff]

theorem nearestTaken_both (s : Int) (ring : Bool) (xs : List Int) (a : Int) : ∃ (R1 R2 : Int) (B : Bool),
    (∀ (p : Option Addr) (cap : Nat) (w : World) (lo hi : Nat), Ri lo hi w p xs → xs.length ≤ 1048576 → Calls Try.prog 17 #[rowV s ring p xs.length cap, .int .i64 a] w fun e w' => e = .returned (.tuple #[.int .i64 R1, .int .i64 R2, .bool B]) ∧ Below w.heap.size w w') ∧
    (∀ (p : Option Addr) (cap : Nat) (w : World) (lo hi : Nat), Ri lo hi w p xs → xs.length ≤ 1048576 → Calls Try.prog 18 #[rowV s ring p xs.length cap, .int .i64 a] w fun e w' => e = .returned (.tuple #[.int .i64 R1, .int .i64 R2, .bool B]) ∧ Below w.heap.size w w') := by
  by_cases hr : rowB s ring xs = true
  · obtain ⟨n, S, rfl, rfl, h2, hn, h3⟩ := rowB_is hr
    by_cases hs : 0 ≤ a ∧ a < n
    · obtain ⟨k, rfl⟩ : ∃ k : Nat, a = k := ⟨a.toNat, by omega⟩
      have hk : k < n := by omega
      by_cases he : (ints (tk n S)).length = 0
      · exact ⟨0, 0, false,
          fun p cap w lo hi hin _ => nearestTakenS_any n ring p cap S k w lo hi hin h2 hn h3 hk 0 0 false (fun h => by cases h) (fun _ => ⟨rfl, rfl, he⟩),
          fun p cap w lo hi hin _ => nearestTakenI n ring p _ cap k w 0 0 false (fun w' hb => nearTaken_any n ring p cap S k w' lo hi (hin.below hb hin.top) h2 hn h3 0 0 false (fun h => by cases h) (fun _ => ⟨rfl, rfl, .inl (noTaken.2 he)⟩))⟩
      · refine ⟨(nearP (gapM n ring k) (tk n (S))).1, (nearP (gapM n ring k) (tk n (S))).2, true, ?_, ?_⟩
        · exact fun p cap w lo hi hin _ => nearestTakenS_any n ring p cap S k w lo hi hin h2 hn h3 hk _ _ true (fun _ => ⟨he, rfl⟩) (fun h => by cases h)
        · exact fun p cap w lo hi hin _ => nearestTakenI n ring p _ cap k w _ _ true (fun w' hb => nearTaken_any n ring p cap S k w' lo hi (hin.below hb hin.top) h2 hn h3 _ _ true (fun _ => ⟨k, rfl, hk, fun h => he (noTaken.1 h), rfl⟩) (fun h => by cases h))
    · have hv : seatB n ring (ints (tk n S)) a = false := by
        unfold seatB
        rw [hr]
        simp
        omega
      exact ⟨0, 0, false,
        fun p cap w lo hi hin hl => nearestTakenS_bad n ring p cap _ a w lo hi hin hl hv,
        fun p cap w lo hi hin _ => nearestTakenI n ring p _ cap a w 0 0 false (fun w' hb => nearTaken_any n ring p cap S a w' lo hi (hin.below hb hin.top) h2 hn h3 0 0 false (fun h => by cases h) (fun _ => ⟨rfl, rfl, .inr hs⟩))⟩
  · have hr' : rowB s ring xs = false := by simpa using hr
    have hv : seatB s ring xs a = false := by unfold seatB; rw [hr']; rfl
    exact ⟨0, 0, false,
      fun p cap w lo hi hin hl => nearestTakenS_bad s ring p cap _ a w lo hi hin hl hv,
      fun p cap w lo hi hin hl => nearestTakenI s ring p _ cap a w 0 0 false (fun w' hb => nearTaken_bad s ring p cap xs a w' lo hi (hin.below hb hin.top) hl hr')⟩

theorem tk_parts (n : Nat) (S : Nat → Bool) : (tk n S).length + (tk n fun z => !S z).length = n := by
  induction n with
  | zero => rfl
  | succ n ih =>
    rw [tk_succ, tk_succ, List.length_append, List.length_append]
    cases S n <;> simp <;> omega
theorem noFree {n : Nat} {S : Nat → Bool} : (tk n fun z => !S z) = [] ↔ (ints (tk n S)).length = n := by
  rw [ints_length, ← List.length_eq_zero_iff]
  have := tk_parts n S
  omega

theorem nearestFree_both (s : Int) (ring : Bool) (xs : List Int) (a : Int) : ∃ (R1 R2 : Int) (B : Bool),
    (∀ (p : Option Addr) (cap : Nat) (w : World) (lo hi : Nat), Ri lo hi w p xs → xs.length ≤ 1048576 → Calls Try.prog 19 #[rowV s ring p xs.length cap, .int .i64 a] w fun e w' => e = .returned (.tuple #[.int .i64 R1, .int .i64 R2, .bool B]) ∧ Below w.heap.size w w') ∧
    (∀ (p : Option Addr) (cap : Nat) (w : World) (lo hi : Nat), Ri lo hi w p xs → xs.length ≤ 1048576 → Calls Try.prog 20 #[rowV s ring p xs.length cap, .int .i64 a] w fun e w' => e = .returned (.tuple #[.int .i64 R1, .int .i64 R2, .bool B]) ∧ Below w.heap.size w w') := by
  by_cases hr : rowB s ring xs = true
  · obtain ⟨n, S, rfl, rfl, h2, hn, h3⟩ := rowB_is hr
    by_cases hs : 0 ≤ a ∧ a < n
    · obtain ⟨k, rfl⟩ : ∃ k : Nat, a = k := ⟨a.toNat, by omega⟩
      have hk : k < n := by omega
      by_cases he : (ints (tk n S)).length = n
      · exact ⟨0, 0, false,
          fun p cap w lo hi hin _ => nearestFreeS_any n ring p cap S k w lo hi hin h2 hn h3 hk 0 0 false (fun h => by cases h) (fun _ => ⟨rfl, rfl, he⟩),
          fun p cap w lo hi hin _ => nearestFreeI n ring p _ cap k w 0 0 false (fun w' hb => nearFree_any n ring p cap S k w' lo hi (hin.below hb hin.top) h2 hn h3 0 0 false (fun h => by cases h) (fun _ => ⟨rfl, rfl, .inl (noFree.2 he)⟩))⟩
      · refine ⟨(nearP (gapM n ring k) (tk n (fun z => !S z))).1, (nearP (gapM n ring k) (tk n (fun z => !S z))).2, true, ?_, ?_⟩
        · exact fun p cap w lo hi hin _ => nearestFreeS_any n ring p cap S k w lo hi hin h2 hn h3 hk _ _ true (fun _ => ⟨he, rfl⟩) (fun h => by cases h)
        · exact fun p cap w lo hi hin _ => nearestFreeI n ring p _ cap k w _ _ true (fun w' hb => nearFree_any n ring p cap S k w' lo hi (hin.below hb hin.top) h2 hn h3 _ _ true (fun _ => ⟨k, rfl, hk, fun h => he (noFree.1 h), rfl⟩) (fun h => by cases h))
    · have hv : seatB n ring (ints (tk n S)) a = false := by
        unfold seatB
        rw [hr]
        simp
        omega
      exact ⟨0, 0, false,
        fun p cap w lo hi hin hl => nearestFreeS_bad n ring p cap _ a w lo hi hin hl hv,
        fun p cap w lo hi hin _ => nearestFreeI n ring p _ cap a w 0 0 false (fun w' hb => nearFree_any n ring p cap S a w' lo hi (hin.below hb hin.top) h2 hn h3 0 0 false (fun h => by cases h) (fun _ => ⟨rfl, rfl, .inr hs⟩))⟩
  · have hr' : rowB s ring xs = false := by simpa using hr
    have hv : seatB s ring xs a = false := by unfold seatB; rw [hr']; rfl
    exact ⟨0, 0, false,
      fun p cap w lo hi hin hl => nearestFreeS_bad s ring p cap _ a w lo hi hin hl hv,
      fun p cap w lo hi hin hl => nearestFreeI s ring p _ cap a w 0 0 false (fun w' hb => nearFree_bad s ring p cap xs a w' lo hi (hin.below hb hin.top) hl hr')⟩

end Go.Proofs.Ytlapbdiiolaefaa
