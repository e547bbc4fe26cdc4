/- spec.SeatNeighbors and impl.SeatNeighbors, for every Row and all seats. -/
import Derived.Test.YtpgabblmnpbajaaNb
import Derived.Test.YtpgabblmnpbajaaNear
import Derived.Test.YtpgabblmnpbajaaTake0
namespace Go.Proofs.Ytpgabblmnpbajaa
open Go.RowKit

theorem nearI_any (n : Nat) (ring : Bool) (p : Option Addr) (m cap : Nat) (a : Nat) (w : World) (h2 : 2 ≤ n) (hn : n ≤ 24) (h3 : ring = true → 3 ≤ n) (ha : a < n) :
    Calls Try.prog 45 #[rowV n ring p m cap, .int .i64 a] w fun e w' => ∃ v, e = .returned v ∧ Out w.heap.size w' v (ints (nearM n ring a)) ∧ Below w.heap.size w w' := by
  cases ring with
  | true => exact neighbors_ring n p m cap a w hn (h3 rfl) ha
  | false => exact neighbors_line n p m cap a w hn h2 ha

set_option maxHeartbeats 800000 in
theorem seatNbS_bad (s : Int) (ring : Bool) (p : Option Addr) (cap : Nat) (xs : List Int) (a : Int) (w : World) (lo hi : Nat) (hin : Ri lo hi w p xs) (hlen : xs.length ≤ 1048576) (h : seatB s ring xs a = false) :
    Calls Try.prog 22 #[rowV s ring p xs.length cap, .int .i64 a] w fun e w' => ∃ v, e = .returned (.tuple #[v, .bool false]) ∧ Out w.heap.size w' v [] ∧ Below w.heap.size w w' := by
  have hb := box_below w s ring p xs.length cap 28
  have I := Lib.hid (l2Seat_any s ring p cap xs a _ lo hi (hin.bel hb) hlen)
  rw [h] at I
  have HB := Lib.hid hb
  clear hb hin h
  go_enter Try.func22, Try.ntmps22
  go_wp2_with fail
  refine I.out.mono ?_
  rintro e w1 ⟨rfl, hb1⟩
  have HB1 := HB.out.trans (hb1.mono HB.out.size)
  clear I HB hb1
  go_wp2_with fail
  go_ret2
  exact ⟨_, rfl, (Out.nilLit w1).mono HB1.size, HB1.alloc HB1.size _⟩

set_option maxHeartbeats 800000 in
theorem seatNbS_any (n : Nat) (ring : Bool) (p : Option Addr) (cap : Nat) (S : Nat → Bool) (a : Nat) (w : World) (lo hi : Nat) (hin : Ri lo hi w p (ints (tk n S))) (h2 : 2 ≤ n) (hn : n ≤ 24) (h3 : ring = true → 3 ≤ n) (ha : a < n) :
    Calls Try.prog 22 #[rowV n ring p (ints (tk n S)).length cap, .int .i64 a] w fun e w' => ∃ v, e = .returned (.tuple #[v, .bool true]) ∧ Out w.heap.size w' v (ints (nearM n ring a)) ∧ Below w.heap.size w w' := by
  have hb := box_below w n ring p (ints (tk n S)).length cap 28
  have hlen := ints_tk_len n S
  have I := Lib.hid (l2Seat_any n ring p cap (ints (tk n S)) a _ lo hi (hin.bel hb) (by omega))
  have hv : seatB n ring (ints (tk n S)) a = true := by
    unfold seatB
    rw [rowB_of h2 hn h3]
    simp
    omega
  rw [hv] at I
  obtain ⟨m, hm⟩ : ∃ m, (ints (tk n S)).length = m := ⟨_, rfl⟩
  rw [hm] at hb I ⊢
  have NB := Lib.hid (fun w' => nearS_any n ring p m cap a w' hn ha)
  have HX := Lib.hid (OwnArr.made w 28 [.int .i64 n, .bool ring, .slice p m cap])
  have HB := Lib.hid hb
  clear hb hin hlen h3 hv hm
  go_enter Try.func22, Try.ntmps22
  go_wp2_with fail
  refine I.out.mono ?_
  rintro e w1 ⟨rfl, hb1⟩
  have HX1 := Lib.hid (HX.out.below hb1 HX.out.lt)
  have HB1 := Lib.hid (HB.out.trans (hb1.mono HB.out.size))
  clear I HB hb1 HX
  obtain ⟨c0, c1, c2, -⟩ := HX1.out.three
  go_wp2_with fail
  refine (NB.out _).mono ?_
  rintro e w2 ⟨v, rfl, hO, hb2⟩
  have HO := Lib.hid (hO.mono (by have := HB1.out.size; omega : w.heap.size ≤ _))
  clear hO
  go_wp2_with fail
  go_ret2
  exact ⟨v, rfl, HO.out, HB1.out.trans (hb2.mono HB1.out.size)⟩

set_option maxHeartbeats 800000 in
theorem seatNbI_bad (s : Int) (ring : Bool) (p : Option Addr) (cap : Nat) (xs : List Int) (a : Int) (w : World) (lo hi : Nat) (hin : Ri lo hi w p xs) (hlen : xs.length ≤ 1048576) (h : seatB s ring xs a = false) :
    Calls Try.prog 23 #[rowV s ring p xs.length cap, .int .i64 a] w fun e w' => ∃ v, e = .returned (.tuple #[v, .bool false]) ∧ Out w.heap.size w' v [] ∧ Below w.heap.size w w' := by
  have hb := box_below w s ring p xs.length cap 28
  have I := Lib.hid (isSeatOf_any s ring p cap xs a _ lo hi (hin.bel hb) hlen)
  rw [h] at I
  have HB := Lib.hid hb
  clear hb hin h
  go_enter Try.func23, Try.ntmps23
  go_wp2_with fail
  refine I.out.mono ?_
  rintro e w1 ⟨rfl, hb1⟩
  have HB1 := HB.out.trans (hb1.mono HB.out.size)
  clear I HB hb1
  go_wp2_with fail
  go_ret2
  exact ⟨_, rfl, (Out.nilLit w1).mono HB1.size, HB1.alloc HB1.size _⟩

set_option maxHeartbeats 800000 in
theorem seatNbI_any (n : Nat) (ring : Bool) (p : Option Addr) (cap : Nat) (S : Nat → Bool) (a : Nat) (w : World) (lo hi : Nat) (hin : Ri lo hi w p (ints (tk n S))) (h2 : 2 ≤ n) (hn : n ≤ 24) (h3 : ring = true → 3 ≤ n) (ha : a < n) :
    Calls Try.prog 23 #[rowV n ring p (ints (tk n S)).length cap, .int .i64 a] w fun e w' => ∃ v, e = .returned (.tuple #[v, .bool true]) ∧ Out w.heap.size w' v (ints (nearM n ring a)) ∧ Below w.heap.size w w' := by
  have hb := box_below w n ring p (ints (tk n S)).length cap 28
  have hlen := ints_tk_len n S
  have I := Lib.hid (isSeatOf_any n ring p cap (ints (tk n S)) a _ lo hi (hin.bel hb) (by omega))
  have hv : seatB n ring (ints (tk n S)) a = true := by
    unfold seatB
    rw [rowB_of h2 hn h3]
    simp
    omega
  rw [hv] at I
  obtain ⟨m, hm⟩ : ∃ m, (ints (tk n S)).length = m := ⟨_, rfl⟩
  rw [hm] at hb I ⊢
  have NB := Lib.hid (fun w' => nearI_any n ring p m cap a w' h2 hn h3 ha)
  have HX := Lib.hid (OwnArr.made w 28 [.int .i64 n, .bool ring, .slice p m cap])
  have HB := Lib.hid hb
  clear hb hin hlen h3 hv hm
  go_enter Try.func23, Try.ntmps23
  go_wp2_with fail
  refine I.out.mono ?_
  rintro e w1 ⟨rfl, hb1⟩
  have HX1 := Lib.hid (HX.out.below hb1 HX.out.lt)
  have HB1 := Lib.hid (HB.out.trans (hb1.mono HB.out.size))
  clear I HB hb1 HX
  obtain ⟨c0, c1, c2, -⟩ := HX1.out.three
  go_wp2_with fail
  refine (NB.out _).mono ?_
  rintro e w2 ⟨v, rfl, hO, hb2⟩
  have HO := Lib.hid (hO.mono (by have := HB1.out.size; omega : w.heap.size ≤ _))
  clear hO
  go_wp2_with fail
  go_ret2
  exact ⟨v, rfl, HO.out, HB1.out.trans (hb2.mono HB1.out.size)⟩

theorem nearM_len (n : Nat) (ring : Bool) (p : Nat) : (ints (nearM n ring p)).length ≤ n := by
  rw [ints_length]; exact tk_length_le n _

theorem seatNeighbors_both (s : Int) (ring : Bool) (xs : List Int) (a : Int) : ∃ (L : List Int) (B : Bool), L.length ≤ 24 ∧
    (∀ (p : Option Addr) (cap : Nat) (w : World) (lo hi : Nat), Ri lo hi w p xs → xs.length ≤ 1048576 → Calls Try.prog 22 #[rowV s ring p xs.length cap, .int .i64 a] w fun e w' => ∃ v, e = .returned (.tuple #[v, .bool B]) ∧ Out w.heap.size w' v L ∧ Below w.heap.size w w') ∧
    (∀ (p : Option Addr) (cap : Nat) (w : World) (lo hi : Nat), Ri lo hi w p xs → xs.length ≤ 1048576 → Calls Try.prog 23 #[rowV s ring p xs.length cap, .int .i64 a] w fun e w' => ∃ v, e = .returned (.tuple #[v, .bool B]) ∧ Out w.heap.size w' v L ∧ Below w.heap.size w w') := by
  cases h : seatB s ring xs a with
  | true =>
    obtain ⟨n, S, k, rfl, rfl, rfl, hk, h2, hn, h3⟩ := seat_is h
    exact ⟨ints (nearM n ring k), true, by have := nearM_len n ring k; omega,
      fun p cap w lo hi hin _ => seatNbS_any n ring p cap S k w lo hi hin h2 hn h3 hk,
      fun p cap w lo hi hin _ => seatNbI_any n ring p cap S k w lo hi hin h2 hn h3 hk⟩
  | false =>
    exact ⟨[], false, by simp,
      fun p cap w lo hi hin hl => seatNbS_bad s ring p cap xs a w lo hi hin hl h,
      fun p cap w lo hi hin hl => seatNbI_bad s ring p cap xs a w lo hi hin hl h⟩
end Go.Proofs.Ytpgabblmnpbajaa
