/- spec.PoliteTies and impl.PoliteTies, for every Row. -/
import Derived.Test.YtfpndbekinibhaaTieI
import Derived.Test.YtfpndbekinibhaaTieS
namespace Go.Proofs.Ytfpndbekinibhaa
open Go.RowKit


set_option maxHeartbeats 800000 in
theorem tiesOS_no (s : Int) (ring : Bool) (p : Option Addr) (cap : Nat) (xs : List Int) (w : World) (lo hi : Nat) (hin : Ri lo hi w p xs) (hlen : xs.length ≤ 1048576) (hr : rowB s ring xs = false) :
    Calls Try.prog 12 #[rowV s ring p xs.length cap] w fun e w' => e = .returned (.tuple #[.int .i64 0, .bool false]) ∧ Below w.heap.size w w' := by
  have hb := box_below w s ring p xs.length cap 31
  have R := Lib.hid (l2Row_any s ring p cap xs _ lo hi (hin.bel hb) hlen)
  rw [hr] at R
  have HB := Lib.hid hb
  clear hb hin hr
  go_enter Try.func12, Try.ntmps12
  go_wp2_with fail
  refine R.out.mono ?_
  rintro e w1 ⟨rfl, hb1⟩
  go_wp2_with fail
  go_ret2
  exact ⟨rfl, HB.out.trans (hb1.mono HB.out.size)⟩

set_option maxHeartbeats 800000 in
theorem tiesOS_many (n : Nat) (ring : Bool) (p : Option Addr) (cap : Nat) (S : Nat → Bool) (w : World) (lo hi : Nat) (hin : Ri lo hi w p (ints (tk n S))) (h2 : 2 ≤ n) (hn : n ≤ 24) (h3 : ring = true → 3 ≤ n) (hf : (tk n S).length + 10 < n) :
    Calls Try.prog 12 #[rowV n ring p (ints (tk n S)).length cap] w fun e w' => e = .returned (.tuple #[.int .i64 0, .bool false]) ∧ Below w.heap.size w w' := by
  have hb := box_below w n ring p (ints (tk n S)).length cap 31
  have R := Lib.hid (l2Row_any n ring p cap (ints (tk n S)) _ lo hi (hin.bel hb) (by have := ints_tk_len n S; omega))
  rw [rowB_of h2 hn h3] at R
  have HX := Lib.hid (OwnArr.made w 31 [.int .i64 n, .bool ring, .slice p (ints (tk n S)).length cap])
  have HB := Lib.hid hb
  have hml := ints_length (tk n S)
  obtain ⟨m, hm⟩ : ∃ m, (ints (tk n S)).length = m := ⟨_, rfl⟩
  rw [hm] at R HX HB hml ⊢
  rw [← hml] at hf
  have hw : IntKind.i64.wrap ((n : Int) - (m : Int)) = (n : Int) - (m : Int) := IntWalk.i64_in _ (by omega)
  have hgt : (10 : Int) < (n : Int) - (m : Int) := by omega
  clear hb hin h3 hm hml hf
  go_enter Try.func12, Try.ntmps12
  go_wp2_with fail
  refine R.out.mono ?_
  rintro e w1 ⟨rfl, hb1⟩
  have HX1 := Lib.hid (HX.out.below hb1 HX.out.lt)
  have HB1 := Lib.hid (HB.out.trans (hb1.mono HB.out.size))
  clear hb1 HX HB R
  obtain ⟨c0, c1, c2, -⟩ := HX1.out.three
  go_wp2_with fail
  go_ret2
  exact ⟨rfl, HB1.out⟩

set_option maxHeartbeats 800000 in
theorem tiesOS_ok (n : Nat) (ring : Bool) (p : Option Addr) (cap : Nat) (S : Nat → Bool) (f : Nat) (w : World) (lo hi : Nat) (hin : Ri lo hi w p (ints (tk n S))) (h2 : 2 ≤ n) (hn : n ≤ 24) (h3 : ring = true → 3 ≤ n) (hf : f ≤ 10) (hS : (tk n S).length + f = n) :
    Calls Try.prog 12 #[rowV n ring p (ints (tk n S)).length cap] w fun e w' => e = .returned (.tuple #[.int .i64 (tiesM n ring f S : Nat), .bool true]) ∧ Below w.heap.size w w' := by
  have hb := box_below w n ring p (ints (tk n S)).length cap 31
  have R := Lib.hid (l2Row_any n ring p cap (ints (tk n S)) _ lo hi (hin.bel hb) (by have := ints_tk_len n S; omega))
  rw [rowB_of h2 hn h3] at R
  have T := fun (w' : World) (h' : Below w.heap.size w w') => ties_any n ring h2 hn f hf S p cap w' lo hi (hin.below h' hin.top) hS
  have HX := Lib.hid (OwnArr.made w 31 [.int .i64 n, .bool ring, .slice p (ints (tk n S)).length cap])
  have HB := Lib.hid hb
  have hml := ints_length (tk n S)
  obtain ⟨m, hm⟩ : ∃ m, (ints (tk n S)).length = m := ⟨_, rfl⟩
  rw [hm] at R HX HB hml T ⊢
  rw [← hml] at hS
  replace T := Lib.hid T
  have hw : IntKind.i64.wrap ((n : Int) - (m : Int)) = (n : Int) - (m : Int) := IntWalk.i64_in _ (by omega)
  have hgt : ¬ (10 : Int) < (n : Int) - (m : Int) := by omega
  clear hb hin h3 hm hml hS
  go_enter Try.func12, Try.ntmps12
  go_wp2_with fail
  refine R.out.mono ?_
  rintro e w1 ⟨rfl, hb1⟩
  have HX1 := Lib.hid (HX.out.below hb1 HX.out.lt)
  have HB1 := Lib.hid (HB.out.trans (hb1.mono HB.out.size))
  clear hb1 HX HB R
  obtain ⟨c0, c1, c2, -⟩ := HX1.out.three
  go_wp2_with fail
  refine (T.out _ HB1.out).mono ?_
  rintro e w2 ⟨rfl, hb2⟩
  have HB2 := Lib.hid (HB1.out.trans (hb2.mono HB1.out.size))
  clear hb2 HX1 HB1 T c0 c1 c2
  go_wp2_with fail
  go_ret2
  exact ⟨rfl, HB2.out⟩

set_option maxHeartbeats 800000 in
theorem tiesOI_no (s : Int) (ring : Bool) (p : Option Addr) (cap : Nat) (xs : List Int) (w : World) (lo hi : Nat) (hin : Ri lo hi w p xs) (hlen : xs.length ≤ 1048576) (hr : rowB s ring xs = false) :
    Calls Try.prog 14 #[rowV s ring p xs.length cap] w fun e w' => e = .returned (.tuple #[.int .i64 0, .bool false]) ∧ Below w.heap.size w w' := by
  have hb := box_below w s ring p xs.length cap 31
  have R := Lib.hid (isRow_any s ring p cap xs _ lo hi (hin.bel hb) hlen)
  rw [hr] at R
  have HB := Lib.hid hb
  clear hb hin hr
  go_enter Try.func14, Try.ntmps14
  go_wp2_with fail
  refine R.out.mono ?_
  rintro e w1 ⟨rfl, hb1⟩
  go_wp2_with fail
  go_ret2
  exact ⟨rfl, HB.out.trans (hb1.mono HB.out.size)⟩

set_option maxHeartbeats 800000 in
theorem tiesOI_many (n : Nat) (ring : Bool) (p : Option Addr) (cap : Nat) (S : Nat → Bool) (w : World) (lo hi : Nat) (hin : Ri lo hi w p (ints (tk n S))) (h2 : 2 ≤ n) (hn : n ≤ 24) (h3 : ring = true → 3 ≤ n) (hf : (tk n S).length + 10 < n) :
    Calls Try.prog 14 #[rowV n ring p (ints (tk n S)).length cap] w fun e w' => e = .returned (.tuple #[.int .i64 0, .bool false]) ∧ Below w.heap.size w w' := by
  have hb := box_below w n ring p (ints (tk n S)).length cap 31
  have R := Lib.hid (isRow_any n ring p cap (ints (tk n S)) _ lo hi (hin.bel hb) (by have := ints_tk_len n S; omega))
  rw [rowB_of h2 hn h3] at R
  have HX := Lib.hid (OwnArr.made w 31 [.int .i64 n, .bool ring, .slice p (ints (tk n S)).length cap])
  have HB := Lib.hid hb
  have hml := ints_length (tk n S)
  obtain ⟨m, hm⟩ : ∃ m, (ints (tk n S)).length = m := ⟨_, rfl⟩
  rw [hm] at R HX HB hml ⊢
  rw [← hml] at hf
  have hw : IntKind.i64.wrap ((n : Int) - (m : Int)) = (n : Int) - (m : Int) := IntWalk.i64_in _ (by omega)
  have hgt : (10 : Int) < (n : Int) - (m : Int) := by omega
  clear hb hin h3 hm hml hf
  go_enter Try.func14, Try.ntmps14
  go_wp2_with fail
  refine R.out.mono ?_
  rintro e w1 ⟨rfl, hb1⟩
  have HX1 := Lib.hid (HX.out.below hb1 HX.out.lt)
  have HB1 := Lib.hid (HB.out.trans (hb1.mono HB.out.size))
  clear hb1 HX HB R
  obtain ⟨c0, c1, c2, -⟩ := HX1.out.three
  go_wp2_with fail
  go_ret2
  exact ⟨rfl, HB1.out⟩

set_option maxHeartbeats 800000 in
theorem tiesOI_ok (n : Nat) (ring : Bool) (p : Option Addr) (cap : Nat) (S : Nat → Bool) (f : Nat) (w : World) (lo hi : Nat) (hin : Ri lo hi w p (ints (tk n S))) (h2 : 2 ≤ n) (hn : n ≤ 24) (h3 : ring = true → 3 ≤ n) (hf : f ≤ 10) (hS : (tk n S).length + f = n) :
    Calls Try.prog 14 #[rowV n ring p (ints (tk n S)).length cap] w fun e w' => e = .returned (.tuple #[.int .i64 (tiesM n ring f S : Nat), .bool true]) ∧ Below w.heap.size w w' := by
  have hb := box_below w n ring p (ints (tk n S)).length cap 31
  have R := Lib.hid (isRow_any n ring p cap (ints (tk n S)) _ lo hi (hin.bel hb) (by have := ints_tk_len n S; omega))
  rw [rowB_of h2 hn h3] at R
  have T := fun (w' : World) (h' : Below w.heap.size w w') => ways_any n ring h2 hn h3 f hf S p cap w' lo hi (hin.below h' hin.top) hS
  have HX := Lib.hid (OwnArr.made w 31 [.int .i64 n, .bool ring, .slice p (ints (tk n S)).length cap])
  have HB := Lib.hid hb
  have hml := ints_length (tk n S)
  obtain ⟨m, hm⟩ : ∃ m, (ints (tk n S)).length = m := ⟨_, rfl⟩
  rw [hm] at R HX HB hml T ⊢
  rw [← hml] at hS
  replace T := Lib.hid T
  have hw : IntKind.i64.wrap ((n : Int) - (m : Int)) = (n : Int) - (m : Int) := IntWalk.i64_in _ (by omega)
  have hgt : ¬ (10 : Int) < (n : Int) - (m : Int) := by omega
  clear hb hin h3 hm hml hS
  go_enter Try.func14, Try.ntmps14
  go_wp2_with fail
  refine R.out.mono ?_
  rintro e w1 ⟨rfl, hb1⟩
  have HX1 := Lib.hid (HX.out.below hb1 HX.out.lt)
  have HB1 := Lib.hid (HB.out.trans (hb1.mono HB.out.size))
  clear hb1 HX HB R
  obtain ⟨c0, c1, c2, -⟩ := HX1.out.three
  go_wp2_with fail
  refine (T.out _ HB1.out).mono ?_
  rintro e w2 ⟨rfl, hb2⟩
  have HB2 := Lib.hid (HB1.out.trans (hb2.mono HB1.out.size))
  clear hb2 HX1 HB1 T c0 c1 c2
  go_wp2_with fail
  go_ret2
  exact ⟨rfl, HB2.out⟩
theorem politeTies_both (s : Int) (ring : Bool) (xs : List Int) : ∃ (R : Int) (B : Bool),
    (∀ (p : Option Addr) (cap : Nat) (w : World) (lo hi : Nat), Ri lo hi w p xs → xs.length ≤ 1048576 → Calls Try.prog 12 #[rowV s ring p xs.length cap] w fun e w' => e = .returned (.tuple #[.int .i64 R, .bool B]) ∧ Below w.heap.size w w') ∧
    (∀ (p : Option Addr) (cap : Nat) (w : World) (lo hi : Nat), Ri lo hi w p xs → xs.length ≤ 1048576 → Calls Try.prog 14 #[rowV s ring p xs.length cap] w fun e w' => e = .returned (.tuple #[.int .i64 R, .bool B]) ∧ Below w.heap.size w w') := by
  cases h : rowB s ring xs with
  | true =>
    obtain ⟨n, S, rfl, rfl, h2, hn, h3⟩ := rowB_is h
    have hle := tk_length_le n S
    by_cases hf : n - (tk n S).length ≤ 10
    · exact ⟨_, _, fun p cap w lo hi hin _ => tiesOS_ok n ring p cap S (n - (tk n S).length) w lo hi hin h2 hn h3 hf (by omega), fun p cap w lo hi hin _ => tiesOI_ok n ring p cap S (n - (tk n S).length) w lo hi hin h2 hn h3 hf (by omega)⟩
    · exact ⟨_, _, fun p cap w lo hi hin _ => tiesOS_many n ring p cap S w lo hi hin h2 hn h3 (by omega), fun p cap w lo hi hin _ => tiesOI_many n ring p cap S w lo hi hin h2 hn h3 (by omega)⟩
  | false =>
    exact ⟨_, _, fun p cap w lo hi hin hl => tiesOS_no s ring p cap xs w lo hi hin hl h, fun p cap w lo hi hin hl => tiesOI_no s ring p cap xs w lo hi hin hl h⟩
end Go.Proofs.Ytfpndbekinibhaa
