/- spec.PoliteSeats and impl.PoliteSeats, for every Row. -/
import Derived.Test.YtgjfclkkobjfoaaPol
import Derived.Test.YtgjfclkkobjfoaaPolS
import Derived.Deep.RegionHeld3
namespace Go.Proofs.Ytgjfclkkobjfoaa
open Go.RowKit

set_option maxHeartbeats 1000000 in
theorem polOfI_any (s : Int) (ring : Bool) (p : Option Addr) (m cap : Nat) (L : List Int) (B : Bool) (w : World)
    (hP : ∀ w', Below w.heap.size w w' → Calls Try.prog 35 #[rowV s ring p m cap, .int .i64 0] w' fun e w'' => ∃ v, e = .returned v ∧ Out w'.heap.size w'' v L ∧ Below w'.heap.size w' w'')
    (hR : ∀ w', Below w.heap.size w w' → Calls Try.prog 32 #[rowV s ring p m cap] w' fun e w'' => e = .returned (.bool B) ∧ Below w'.heap.size w' w'') :
    Calls Try.prog 19 #[rowV s ring p m cap] w fun e w' => ∃ v, e = .returned (.tuple #[v, .bool B]) ∧ Out w.heap.size w' v L ∧ Below w.heap.size w w' := by
  have PA := Lib.hid hP
  have PR := Lib.hid hR
  obtain ⟨w1, hw1⟩ : ∃ w1, w.alloc (.cells #[.int .i64 s, .bool ring, .slice p m cap] 28) = w1 := ⟨_, rfl⟩
  have hX : OwnArr w1 w.heap.size 28 [.int .i64 s, .bool ring, .slice p m cap] := by rw [← hw1]; exact OwnArr.made _ _ _
  have hB : Below w.heap.size w w1 := by rw [← hw1]; exact box_below w s ring p m cap 28
  have HW := Lib.hid hw1
  have HXd := Lib.hid hX.drew
  have HBd := Lib.hid hB.drew
  have HZ := Lib.hid (show w.heap.size ≤ w1.drew.heap.size from HBd.out.size)
  obtain ⟨c0, c1, c2, -⟩ := hX.three
  clear hP hR hX hB hw1
  go_enter Try.func19, Try.ntmps19
  go_wp2_with fail
  rw [HW.out]
  go_region_held3 (fun w' => w'.cell? ⟨w.heap.size, 0, none⟩ = some (.int .i64 s) ∧ w'.cell? ⟨w.heap.size, 1, none⟩ = some (.bool ring) ∧ w'.cell? ⟨w.heap.size, 2, none⟩ = some (.slice p m cap) ∧ Hid (OwnArr w' w.heap.size 28 [.int .i64 s, .bool ring, .slice p m cap]) ∧ Hid (Below w.heap.size w w')) ((first | exact ⟨c0, c1, c2, HXd, HBd⟩ | exact ⟨d0, d1, d2, HXe, HBe⟩)) (first | (go_at_call 35; obtain ⟨-, -, -, HXc, HBc⟩ := (by assumption : _ ∧ _ ∧ _ ∧ Hid (OwnArr _ _ _ _) ∧ Hid (Below w.heap.size w _)); refine (PA.out _ HBc.out).mono ?_; rintro e w' ⟨v, rfl, hO', hb'⟩; have HOa := Lib.hid (hO'.mono (HBc.out.size)); have HXe := Lib.hid (HXc.out.below hb' HXc.out.lt); have HBe := Lib.hid (HBc.out.trans (hb'.mono HBc.out.size)); clear hO' hb'; obtain ⟨d0, d1, d2, -⟩ := HXe.out.three) | (go_at_call 32; obtain ⟨-, -, -, HXc, HBc⟩ := (by assumption : _ ∧ _ ∧ _ ∧ Hid (OwnArr _ _ _ _) ∧ Hid (Below w.heap.size w _)); refine (PR.out _ HBc.out).mono ?_; rintro e w' ⟨rfl, hb'⟩; try have HOb := Lib.hid (HOa.out.below hb'); have HXe := Lib.hid (HXc.out.below hb' HXc.out.lt); have HBe := Lib.hid (HBc.out.trans (hb'.mono HBc.out.size)); clear hb'; obtain ⟨d0, d1, d2, -⟩ := HXe.out.three))
  all_goals
    go_wp2_with fail
    go_ret2
    first | exact ⟨_, rfl, HOb.out, HBe.out⟩ | exact ⟨_, rfl, HOa.out, HBe.out⟩

set_option maxHeartbeats 800000 in
theorem polOfS_bad (s : Int) (ring : Bool) (p : Option Addr) (cap : Nat) (xs : List Int) (w : World) (lo hi : Nat) (hin : Ri lo hi w p xs) (hlen : xs.length ≤ 1048576) (hr : rowB s ring xs = false) :
    Calls Try.prog 18 #[rowV s ring p xs.length cap] w fun e w' => ∃ v, e = .returned (.tuple #[v, .bool false]) ∧ Out w.heap.size w' v [] ∧ Below w.heap.size w w' := by
  have hb := box_below w s ring p xs.length cap 28
  have I := Lib.hid (l2Row_any s ring p cap xs _ lo hi (hin.bel hb) hlen)
  rw [hr] at I
  have HB := Lib.hid hb
  clear hb hin hr
  go_enter Try.func18, Try.ntmps18
  go_wp2_with fail
  refine I.out.mono ?_
  rintro e w1 ⟨rfl, hb1⟩
  have HB1 := HB.out.trans (hb1.mono HB.out.size)
  clear I HB hb1
  go_wp2_with fail
  go_ret2
  exact ⟨_, rfl, (Out.nilLit w1).mono HB1.size, HB1.alloc HB1.size _⟩

set_option maxHeartbeats 800000 in
theorem polOfS_any (n : Nat) (ring : Bool) (p : Option Addr) (cap : Nat) (S : Nat → Bool) (w : World) (lo hi : Nat) (hin : Ri lo hi w p (ints (tk n S))) (h2 : 2 ≤ n) (hn : n ≤ 24) (h3 : ring = true → 3 ≤ n) :
    Calls Try.prog 18 #[rowV n ring p (ints (tk n S)).length cap] w fun e w' => ∃ v, e = .returned (.tuple #[v, .bool true]) ∧ Out w.heap.size w' v (ints (polS n ring S)) ∧ Below w.heap.size w w' := by
  have hlen := ints_tk_len n S
  have hb := box_below w n ring p (ints (tk n S)).length cap 28
  have I := Lib.hid (fun (w' : World) (h' : Below w.heap.size w w') => l2Row_any n ring p cap (ints (tk n S)) w' lo hi (hin.below h' hin.top) (by omega))
  rw [rowB_of h2 hn h3] at I
  have PS := Lib.hid (fun (w' : World) (h' : Below w.heap.size w w') => politeS_any n ring p cap S w' lo hi (hin.below h' hin.top) h2 hn)
  obtain ⟨R, hR⟩ : ∃ R, ints (polS n ring S) = R := ⟨_, rfl⟩
  rw [hR] at PS ⊢
  obtain ⟨m, hm⟩ : ∃ m, (ints (tk n S)).length = m := ⟨_, rfl⟩
  rw [hm] at hb I PS ⊢
  have HX := Lib.hid (OwnArr.made w 28 [.int .i64 n, .bool ring, .slice p m cap])
  have HB := Lib.hid hb
  clear hb hin hlen h3 hR hm
  go_enter Try.func18, Try.ntmps18
  go_wp2_with fail
  refine (I.out _ HB.out).mono ?_
  rintro e w1 ⟨rfl, hb1⟩
  have HX1 := Lib.hid (HX.out.below hb1 HX.out.lt)
  have HB1 := Lib.hid (HB.out.trans (hb1.mono HB.out.size))
  clear HX HB hb1 I
  obtain ⟨c0, c1, c2, -⟩ := HX1.out.three
  go_wp2_with fail
  refine (PS.out _ HB1.out).mono ?_
  rintro e w2 ⟨v, rfl, hO, hb2⟩
  have HO := Lib.hid (hO.mono (HB1.out.size))
  clear hO
  go_wp2_with fail
  go_ret2
  exact ⟨v, rfl, HO.out, HB1.out.trans (hb2.mono HB1.out.size)⟩

theorem polS_len (n : Nat) (ring : Bool) (S : Nat → Bool) : (ints (polS n ring S)).length ≤ n := by
  rw [← pol_same, ints_length]; exact polM_len n ring S 0
theorem politeSeats_both (s : Int) (ring : Bool) (xs : List Int) : ∃ (L : List Int) (B : Bool), L.length ≤ 24 ∧
    (∀ (p : Option Addr) (cap : Nat) (w : World) (lo hi : Nat), Ri lo hi w p xs → xs.length ≤ 1048576 → Calls Try.prog 18 #[rowV s ring p xs.length cap] w fun e w' => ∃ v, e = .returned (.tuple #[v, .bool B]) ∧ Out w.heap.size w' v L ∧ Below w.heap.size w w') ∧
    (∀ (p : Option Addr) (cap : Nat) (w : World) (lo hi : Nat), Ri lo hi w p xs → xs.length ≤ 1048576 → Calls Try.prog 19 #[rowV s ring p xs.length cap] w fun e w' => ∃ v, e = .returned (.tuple #[v, .bool B]) ∧ Out w.heap.size w' v L ∧ Below w.heap.size w w') := by
  cases h : rowB s ring xs with
  | true =>
    obtain ⟨n, S, rfl, rfl, h2, hn, h3⟩ := rowB_is h
    refine ⟨ints (polS n ring S), true, by have := polS_len n ring S; omega, fun p cap w lo hi hin _ => polOfS_any n ring p cap S w lo hi hin h2 hn h3, fun p cap w lo hi hin hl => ?_⟩
    refine polOfI_any n ring p _ cap _ true w (fun w' h' => ?_) (fun w' h' => ?_)
    · have := politeI_any n ring p cap S 0 w' lo hi (hin.below h' hin.top) h2 hn h3 (by omega)
      rw [pol_same] at this
      exact this
    · have := isRow_any n ring p cap (ints (tk n S)) w' lo hi (hin.below h' hin.top) hl
      rw [h] at this
      exact this
  | false =>
    refine ⟨[], false, by simp, fun p cap w lo hi hin hl => polOfS_bad s ring p cap xs w lo hi hin hl h, fun p cap w lo hi hin hl => ?_⟩
    refine polOfI_any s ring p _ cap _ false w (fun w' h' => ?_) (fun w' h' => ?_)
    · exact politeI_bad s ring p cap xs 0 w' lo hi (hin.below h' hin.top) hl h (by omega)
    · have := isRow_any s ring p cap xs w' lo hi (hin.below h' hin.top) hl
      rw [h] at this
      exact this
end Go.Proofs.Ytgjfclkkobjfoaa
