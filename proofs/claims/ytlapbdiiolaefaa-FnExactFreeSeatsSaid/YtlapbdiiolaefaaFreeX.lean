/- spec.FreeSeats and impl.FreeSeats, for every Row: both give the same seats. -/
import Derived.Test.YtlapbdiiolaefaaFilt
import Derived.Test.YtlapbdiiolaefaaNearI
namespace Go.Proofs.Ytlapbdiiolaefaa
open Go.RowKit

set_option maxHeartbeats 800000 in
theorem freeSeatsS_bad (s : Int) (ring : Bool) (p : Option Addr) (cap : Nat) (xs : List Int) (w : World) (lo hi : Nat) (hin : Ri lo hi w p xs) (hlen : xs.length ≤ 1048576) (hr : rowB s ring xs = false) :
    Calls Try.prog 21 #[rowV s ring p xs.length cap] w fun e w' => ∃ v, e = .returned (.tuple #[v, .bool false]) ∧ Out w.heap.size w' v [] ∧ Below w.heap.size w w' := by
  have hb := box_below w s ring p xs.length cap 27
  have R := Lib.hid (l2Row_any s ring p cap xs _ lo hi (hin.bel hb) hlen)
  rw [hr] at R
  have HB := Lib.hid hb
  clear hb hin hr
  go_enter Try.func21, Try.ntmps21
  go_wp2_with fail
  refine R.out.mono ?_
  rintro e w1 ⟨rfl, hb1⟩
  have HB1 := Lib.hid (HB.out.trans (hb1.mono HB.out.size))
  go_wp2_with fail
  go_ret2
  exact ⟨_, rfl, (Out.nilLit w1).mono HB1.out.size, HB1.out.alloc HB1.out.size _⟩

set_option maxHeartbeats 800000 in
theorem freeSeatsS_any (n : Nat) (ring : Bool) (p : Option Addr) (cap : Nat) (S : Nat → Bool) (w : World) (lo hi : Nat) (hin : Ri lo hi w p (ints (tk n S))) (h2 : 2 ≤ n) (hn : n ≤ 24) (h3 : ring = true → 3 ≤ n) :
    Calls Try.prog 21 #[rowV n ring p (ints (tk n S)).length cap] w fun e w' => ∃ v, e = .returned (.tuple #[v, .bool true]) ∧ Out w.heap.size w' v (ints (tk n fun q => !S q)) ∧ Below w.heap.size w w' := by
  have hb := box_below w n ring p (ints (tk n S)).length cap 27
  have hlen := ints_tk_len n S
  have R := Lib.hid (l2Row_any n ring p cap (ints (tk n S)) _ lo hi (hin.bel hb) (by omega))
  rw [rowB_of h2 hn h3] at R
  have FR := Lib.hid (fun w' (h : Ri lo hi w' p (ints (tk n S))) => freeS_any n ring p cap S w' lo hi h hn)
  have HX := Lib.hid (OwnArr.made w 27 [.int .i64 n, .bool ring, .slice p (ints (tk n S)).length cap])
  have HI := Lib.hid (hin.bel hb)
  have HB := Lib.hid hb
  clear hb hin hlen h3
  obtain ⟨m, hm⟩ : ∃ m, (ints (tk n S)).length = m := ⟨_, rfl⟩
  rw [hm] at R FR HX HI HB ⊢
  clear hm
  go_enter Try.func21, Try.ntmps21
  go_wp2_with fail
  refine R.out.mono ?_
  rintro e w1 ⟨rfl, hb1⟩
  have HX1 := Lib.hid (HX.out.below hb1 (by simp))
  have HI1 := Lib.hid (HI.out.bel hb1)
  have HB1 := Lib.hid (HB.out.trans (hb1.mono HB.out.size))
  clear HX HI HB hb1 R
  obtain ⟨c0, c1, c2, -⟩ := HX1.out.three
  go_wp2_with fail
  refine (FR.out _ HI1.out).mono ?_
  rintro e w2 ⟨v, rfl, hO, hb2⟩
  have HO := Lib.hid (hO.mono (by have := HB1.out.size; omega : w.heap.size ≤ _))
  clear hO
  go_wp2_with fail
  go_ret2
  exact ⟨v, rfl, HO.out, HB1.out.trans (hb2.mono HB1.out.size)⟩

set_option maxHeartbeats 800000 in
theorem freeSeatsI_any (s : Int) (ring : Bool) (p : Option Addr) (m cap : Nat) (w : World) (B : Bool) (L : List Int)
    (h : ∀ w', Below w.heap.size w w' → Calls Try.prog 46 #[rowV s ring p m cap, .func (.func 45) #[] #[]] w' fun e w'' => ∃ v, e = .returned (.tuple #[v, .bool B]) ∧ Out (w'.heap.size + 1) w'' v L ∧ Below w'.heap.size w' w'') :
    Calls Try.prog 22 #[rowV s ring p m cap] w fun e w' => ∃ v, e = .returned (.tuple #[v, .bool B]) ∧ Out w.heap.size w' v L ∧ Below w.heap.size w w' := by
  have hb := box_below w s ring p m cap 27
  have R := Lib.hid (h _ hb)
  have HB := Lib.hid hb
  clear hb h
  go_enter Try.func22, Try.ntmps22
  go_wp2_with fail
  refine R.out.mono ?_
  rintro e w1 ⟨v, rfl, hO, hb1⟩
  have HO := Lib.hid (hO.mono (by have := HB.out.size; omega : w.heap.size ≤ _))
  clear hO
  go_wp2_with fail
  go_ret2
  exact ⟨v, rfl, HO.out, HB.out.trans (hb1.mono HB.out.size)⟩

theorem freeSeats_both (s : Int) (ring : Bool) (xs : List Int) : ∃ (L : List Int) (B : Bool), L.length ≤ 24 ∧
    (∀ (p : Option Addr) (cap : Nat) (w : World) (lo hi : Nat), Ri lo hi w p xs → xs.length ≤ 1048576 → Calls Try.prog 21 #[rowV s ring p xs.length cap] w fun e w' => ∃ v, e = .returned (.tuple #[v, .bool B]) ∧ Out w.heap.size w' v L ∧ Below w.heap.size w w') ∧
    (∀ (p : Option Addr) (cap : Nat) (w : World) (lo hi : Nat), Ri lo hi w p xs → xs.length ≤ 1048576 → Calls Try.prog 22 #[rowV s ring p xs.length cap] w fun e w' => ∃ v, e = .returned (.tuple #[v, .bool B]) ∧ Out w.heap.size w' v L ∧ Below w.heap.size w w') := by
  by_cases hr : rowB s ring xs = true
  · obtain ⟨n, S, rfl, rfl, h2, hn, h3⟩ := rowB_is hr
    refine ⟨ints (tk n fun q => !S q), true, by have := ints_tk_len n (fun q => !S q); omega, ?_, ?_⟩
    · exact fun p cap w lo hi hin _ => freeSeatsS_any n ring p cap S w lo hi hin h2 hn h3
    · intro p cap w lo hi hin hl
      exact freeSeatsI_any n ring p _ cap w true _ (fun w' hb => seatsFree_any n ring p cap S (fun q => !S q) w' lo hi (hin.below hb hin.top) h2 hn h3 (fun k hk w'' hb' => by
        have := isFree_any n ring p cap (ints (tk n S)) k w'' lo hi ((hin.below hb hin.top).bel hb') hl
        rw [has_tk hk] at this
        exact this))
  · have hr' : rowB s ring xs = false := by simpa using hr
    exact ⟨[], false, by simp,
      fun p cap w lo hi hin hl => freeSeatsS_bad s ring p cap xs w lo hi hin hl hr',
      fun p cap w lo hi hin hl => freeSeatsI_any s ring p _ cap w false [] (fun w' hb => seatsFree_bad s ring p cap xs w' lo hi (hin.below hb hin.top) hl hr')⟩
end Go.Proofs.Ytlapbdiiolaefaa
