/- impl's startsRun, at the seats of a valid Row. -/
import Derived.Test.YtbgmfjhcgfnfoaaIsFree
import Derived.Test.YtbgmfjhcgfnfoaaSkip
import Derived.Deep.RegionHeld3
import Derived.Deep.RegionWith
import Derived.StillTailTactics
namespace Go.Proofs.Ytbgmfjhcgfnfoaa
open Go.RowKit

set_option maxRecDepth 4000 in
set_option maxHeartbeats 2000000 in
theorem start_line (n : Nat) (ring : Bool) (p : Option Addr) (cap m : Nat) (a k : Nat) (b1 b2 : Bool) (w : World) (hn : n ≤ 24) (ha : a < n) (_ : m ≤ 24) (hk : (a + n - 1) % n = k)
    (FR : Hid (∀ (w' : World) (_ : Below w.heap.size w w'), Calls Try.prog 59 #[rowV n ring p m cap, .int .i64 (a : Nat)] w' fun e w'' => e = .returned (.bool (!b1)) ∧ Below w'.heap.size w' w''))
    (TK : Hid (∀ (w' : World) (_ : Below w.heap.size w w'), Calls Try.prog 62 #[rowV n ring p m cap, .int .i64 (k : Nat)] w' fun e w'' => e = .returned (.bool b2) ∧ Below w'.heap.size w' w'')) (h0 : a = 0) (hr : ring = false) :
    Calls Try.prog 39 #[rowV n ring p m cap, .int .i64 (a : Nat)] w fun e w' => e = .returned (.bool (!b1)) ∧ Below w.heap.size w w' := by
  have HX := Lib.hid (OwnArr.made w 28 [.int .i64 n, .bool ring, .slice p m cap])
  have hb := box_below w n ring p m cap 28
  have hw1 : IntKind.i64.wrap ((a : Int) + (n : Int)) = (a : Int) + (n : Int) := IntWalk.i64_in _ (by omega)
  have hw2 : IntKind.i64.wrap ((a : Int) + (n : Int) - 1) = (a : Int) + (n : Int) - 1 := IntWalk.i64_in _ (by omega)
  have hn0 : ¬ n = 0 := by omega
  have hn0' : ¬ (n : Int) = 0 := by omega
  have hkn : k < n := by rw [← hk]; exact Nat.mod_lt _ (by omega)
  have ht : Int.tmod ((a : Int) + (n : Int) - 1) (n : Int) = (k : Int) := by
    rw [show ((a : Int) + (n : Int) - 1) = ((a + n - 1 : Nat) : Int) from by omega, Int.tmod_eq_emod_of_nonneg (by omega)]
    rw [← hk]; omega
  have hw3 : IntKind.i64.wrap (k : Int) = (k : Int) := IntWalk.i64_in _ (by omega)
  have HB := Lib.hid hb
  have HBd := Lib.hid hb.drew
  have HXd : Hid (OwnArr (w.alloc (.cells #[.int .i64 n, .bool ring, .slice p m cap] 28)).drew w.heap.size 28 [.int .i64 n, .bool ring, .slice p m cap]) := HX.out
  clear hb hk
  obtain ⟨c0, c1, c2, -⟩ := HX.out.three
  subst h0
  subst hr
  go_enter Try.func39, Try.ntmps39
  go_wp2_with fail
  refine (FR.out _ HB.out).mono ?_
  rintro e w1 ⟨rfl, hb1⟩
  have HB1 := Lib.hid (HB.out.trans (hb1.mono HB.out.size))
  clear hb1
  go_wp2_with fail
  go_ret
  exact ⟨by simp, HB1.out⟩

set_option maxRecDepth 4000 in
set_option maxHeartbeats 2000000 in
theorem start_bare (n : Nat) (ring : Bool) (p : Option Addr) (cap m : Nat) (a k : Nat) (b1 b2 : Bool) (w : World) (hn : n ≤ 24) (ha : a < n) (_ : m ≤ 24) (hk : (a + n - 1) % n = k)
    (FR : Hid (∀ (w' : World) (_ : Below w.heap.size w w'), Calls Try.prog 59 #[rowV n ring p m cap, .int .i64 (a : Nat)] w' fun e w'' => e = .returned (.bool (!b1)) ∧ Below w'.heap.size w' w''))
    (TK : Hid (∀ (w' : World) (_ : Below w.heap.size w w'), Calls Try.prog 62 #[rowV n ring p m cap, .int .i64 (k : Nat)] w' fun e w'' => e = .returned (.bool b2) ∧ Below w'.heap.size w' w'')) (h0 : a = 0) (hr : ring = true) (hm : m = 0) :
    Calls Try.prog 39 #[rowV n ring p m cap, .int .i64 (a : Nat)] w fun e w' => e = .returned (.bool (!b1)) ∧ Below w.heap.size w w' := by
  have HX := Lib.hid (OwnArr.made w 28 [.int .i64 n, .bool ring, .slice p m cap])
  have hb := box_below w n ring p m cap 28
  have hw1 : IntKind.i64.wrap ((a : Int) + (n : Int)) = (a : Int) + (n : Int) := IntWalk.i64_in _ (by omega)
  have hw2 : IntKind.i64.wrap ((a : Int) + (n : Int) - 1) = (a : Int) + (n : Int) - 1 := IntWalk.i64_in _ (by omega)
  have hn0 : ¬ n = 0 := by omega
  have hn0' : ¬ (n : Int) = 0 := by omega
  have hkn : k < n := by rw [← hk]; exact Nat.mod_lt _ (by omega)
  have ht : Int.tmod ((a : Int) + (n : Int) - 1) (n : Int) = (k : Int) := by
    rw [show ((a : Int) + (n : Int) - 1) = ((a + n - 1 : Nat) : Int) from by omega, Int.tmod_eq_emod_of_nonneg (by omega)]
    rw [← hk]; omega
  have hw3 : IntKind.i64.wrap (k : Int) = (k : Int) := IntWalk.i64_in _ (by omega)
  have HB := Lib.hid hb
  have HBd := Lib.hid hb.drew
  have HXd : Hid (OwnArr (w.alloc (.cells #[.int .i64 n, .bool ring, .slice p m cap] 28)).drew w.heap.size 28 [.int .i64 n, .bool ring, .slice p m cap]) := HX.out
  clear hb hk
  obtain ⟨c0, c1, c2, -⟩ := HX.out.three
  subst h0
  subst hr
  subst hm
  go_enter Try.func39, Try.ntmps39
  go_wp2_with fail
  refine (FR.out _ HB.out).mono ?_
  rintro e w1 ⟨rfl, hb1⟩
  have HB1 := Lib.hid (HB.out.trans (hb1.mono HB.out.size))
  clear hb1
  go_wp2_with fail
  go_ret
  exact ⟨by simp, HB1.out⟩

set_option maxRecDepth 4000 in
set_option maxHeartbeats 2000000 in
theorem start_zero_t (n : Nat) (ring : Bool) (p : Option Addr) (cap m : Nat) (a k : Nat) (b2 : Bool) (w : World) (hn : n ≤ 24) (ha : a < n) (_ : m ≤ 24) (hk : (a + n - 1) % n = k)
    (FR : Hid (∀ (w' : World) (_ : Below w.heap.size w w'), Calls Try.prog 59 #[rowV n ring p m cap, .int .i64 (a : Nat)] w' fun e w'' => e = .returned (.bool (!true)) ∧ Below w'.heap.size w' w''))
    (TK : Hid (∀ (w' : World) (_ : Below w.heap.size w w'), Calls Try.prog 62 #[rowV n ring p m cap, .int .i64 (k : Nat)] w' fun e w'' => e = .returned (.bool b2) ∧ Below w'.heap.size w' w'')) (h0 : a = 0) (hr : ring = true) (hm : ¬ m = 0) :
    Calls Try.prog 39 #[rowV n ring p m cap, .int .i64 (a : Nat)] w fun e w' => e = .returned (.bool (false)) ∧ Below w.heap.size w w' := by
  have HX := Lib.hid (OwnArr.made w 28 [.int .i64 n, .bool ring, .slice p m cap])
  have hb := box_below w n ring p m cap 28
  have hw1 : IntKind.i64.wrap ((a : Int) + (n : Int)) = (a : Int) + (n : Int) := IntWalk.i64_in _ (by omega)
  have hw2 : IntKind.i64.wrap ((a : Int) + (n : Int) - 1) = (a : Int) + (n : Int) - 1 := IntWalk.i64_in _ (by omega)
  have hn0 : ¬ n = 0 := by omega
  have hn0' : ¬ (n : Int) = 0 := by omega
  have hkn : k < n := by rw [← hk]; exact Nat.mod_lt _ (by omega)
  have ht : Int.tmod ((a : Int) + (n : Int) - 1) (n : Int) = (k : Int) := by
    rw [show ((a : Int) + (n : Int) - 1) = ((a + n - 1 : Nat) : Int) from by omega, Int.tmod_eq_emod_of_nonneg (by omega)]
    rw [← hk]; omega
  have hw3 : IntKind.i64.wrap (k : Int) = (k : Int) := IntWalk.i64_in _ (by omega)
  have HB := Lib.hid hb
  have HBd := Lib.hid hb.drew
  have HXd : Hid (OwnArr (w.alloc (.cells #[.int .i64 n, .bool ring, .slice p m cap] 28)).drew w.heap.size 28 [.int .i64 n, .bool ring, .slice p m cap]) := HX.out
  clear hb hk
  obtain ⟨c0, c1, c2, -⟩ := HX.out.three
  have hmb : ((m : Int) == 0) = false := by simp; omega
  subst h0
  subst hr
  have hz1 : IntKind.i64.wrap (n : Int) = (n : Int) := IntWalk.i64_in _ (by omega)
  have hz2 : IntKind.i64.wrap ((n : Int) - 1) = (n : Int) - 1 := IntWalk.i64_in _ (by omega)
  have hz3 : Int.tmod ((n : Int) - 1) (n : Int) = (k : Int) := by
    rw [show (((0 : Nat) : Int) + (n : Int) - 1) = (n : Int) - 1 from by omega] at ht
    exact ht
  have FR' := FR.out
  simp only [Bool.not_true] at FR'
  replace FR := Lib.hid FR'
  clear FR' TK
  go_enter Try.func39, Try.ntmps39
  go_wp2_with fail
  refine wp_region_any (by kernel_rfl) ?_
  change wpAny _ _ _ _ _ _ _ (World.drew _)
  refine move_take (i := 1) (d := some 22) (v := .int .i64 ((0 : Nat) : Int)) rfl rfl rfl rfl (by kernel_rfl) (by kernel_rfl) (by kernel_rfl) (fun _ _ _ h => h) (by kernel_rfl) ?_
  simp only [Act.put, List.setIfInBounds_toArray, List.set_cons_zero, List.set_cons_succ]
  refine wpAny_ready (rs := [0]) (by kernel_rfl) (by simp) ?_
  refine AllReady.cons rfl (fun K hK => ?_) AllReady.nil
  go_simp
  refine hK _ _ ?_
  clear hK K
  refine wpAny_ready (rs := [2]) (by kernel_rfl) (by simp) ?_
  refine AllReady.cons rfl (fun K hK => ?_) AllReady.nil
  go_simp
  go_wp2_with (first | (go_at_call 59; refine (FR.out _ HBd.out).mono ?_; rintro e w1 ⟨rfl, hb1⟩; have HB1 := Lib.hid (HBd.out.trans (hb1.mono HBd.out.size)); clear hb1))
  refine move_take (i := 3) (d := some 24) (v := .bool false) rfl rfl rfl rfl (by kernel_rfl) (by kernel_rfl) (by kernel_rfl) (fun _ _ _ h => h) (by kernel_rfl) ?_
  simp only [Act.put, List.setIfInBounds_toArray, List.set_cons_zero, List.set_cons_succ]
  refine skip_take (i := 4) (d := some 25) rfl rfl (by kernel_rfl) (by kernel_rfl) (by kernel_rfl) (fun _ _ _ h => h) (by kernel_rfl) ?_
  simp only [Act.put, List.setIfInBounds_toArray, List.set_cons_zero, List.set_cons_succ]
  refine skip_take (i := 5) (d := some 26) rfl rfl (by kernel_rfl) (by kernel_rfl) (by kernel_rfl) (fun _ _ _ h => h) (by kernel_rfl) ?_
  simp only [Act.put, List.setIfInBounds_toArray, List.set_cons_zero, List.set_cons_succ]
  refine skip_take (i := 6) (d := some 27) rfl rfl (by kernel_rfl) (by kernel_rfl) (by kernel_rfl) (fun _ _ _ h => h) (by kernel_rfl) ?_
  simp only [Act.put, List.setIfInBounds_toArray, List.set_cons_zero, List.set_cons_succ]
  refine skip_take (i := 7) (d := some 28) rfl rfl (by kernel_rfl) (by kernel_rfl) (by kernel_rfl) (fun _ _ _ h => h) (by kernel_rfl) ?_
  simp only [Act.put, List.setIfInBounds_toArray, List.set_cons_zero, List.set_cons_succ]
  refine skip_take (i := 8) (d := some 29) rfl rfl (by kernel_rfl) (by kernel_rfl) (by kernel_rfl) (fun _ _ _ h => h) (by kernel_rfl) ?_
  simp only [Act.put, List.setIfInBounds_toArray, List.set_cons_zero, List.set_cons_succ]
  refine skip_take (i := 9) (d := some 30) rfl rfl (by kernel_rfl) (by kernel_rfl) (by kernel_rfl) (fun _ _ _ h => h) (by kernel_rfl) ?_
  simp only [Act.put, List.setIfInBounds_toArray, List.set_cons_zero, List.set_cons_succ]
  refine skip_take (i := 10) (d := some 31) rfl rfl (by kernel_rfl) (by kernel_rfl) (by kernel_rfl) (fun _ _ _ h => h) (by kernel_rfl) ?_
  simp only [Act.put, List.setIfInBounds_toArray, List.set_cons_zero, List.set_cons_succ]
  refine skip_take (i := 11) (d := some 32) rfl rfl (by kernel_rfl) (by kernel_rfl) (by kernel_rfl) (fun _ _ _ h => h) (by kernel_rfl) ?_
  simp only [Act.put, List.setIfInBounds_toArray, List.set_cons_zero, List.set_cons_succ]
  refine skip_take (i := 12) (d := some 33) rfl rfl (by kernel_rfl) (by kernel_rfl) (by kernel_rfl) (fun _ _ _ h => h) (by kernel_rfl) ?_
  simp only [Act.put, List.setIfInBounds_toArray, List.set_cons_zero, List.set_cons_succ]
  refine skip_take (i := 13) (d := some 34) rfl rfl (by kernel_rfl) (by kernel_rfl) (by kernel_rfl) (fun _ _ _ h => h) (by kernel_rfl) ?_
  simp only [Act.put, List.setIfInBounds_toArray, List.set_cons_zero, List.set_cons_succ]
  refine take_d (i := 14) (d := some 35) (v := .bool false) rfl rfl (by kernel_rfl) (by kernel_rfl) (by kernel_rfl) (fun _ _ _ h => h) (by kernel_rfl) (by intro w; go_simp; try (with_reducible rfl)) ?_
  simp only [Act.put, List.setIfInBounds_toArray, List.set_cons_zero, List.set_cons_succ]
  refine take_d (i := 15) (d := some 4) (v := .bool false) rfl rfl (by kernel_rfl) (by kernel_rfl) (by kernel_rfl) (fun _ _ _ h => h) (by kernel_rfl) (by intro w; go_simp; try (with_reducible rfl)) ?_
  simp only [Act.put, List.setIfInBounds_toArray, List.set_cons_zero, List.set_cons_succ]
  refine wpAny_done (by kernel_rfl) ?_ _
  go_wp2_with fail
  go_ret
  exact ⟨rfl, HB1.out⟩

set_option maxRecDepth 4000 in
set_option maxHeartbeats 2000000 in
theorem start_zero_f (n : Nat) (ring : Bool) (p : Option Addr) (cap m : Nat) (a k : Nat) (b2 : Bool) (w : World) (hn : n ≤ 24) (ha : a < n) (_ : m ≤ 24) (hk : (a + n - 1) % n = k)
    (FR : Hid (∀ (w' : World) (_ : Below w.heap.size w w'), Calls Try.prog 59 #[rowV n ring p m cap, .int .i64 (a : Nat)] w' fun e w'' => e = .returned (.bool (!false)) ∧ Below w'.heap.size w' w''))
    (TK : Hid (∀ (w' : World) (_ : Below w.heap.size w w'), Calls Try.prog 62 #[rowV n ring p m cap, .int .i64 (k : Nat)] w' fun e w'' => e = .returned (.bool b2) ∧ Below w'.heap.size w' w'')) (h0 : a = 0) (hr : ring = true) (hm : ¬ m = 0) :
    Calls Try.prog 39 #[rowV n ring p m cap, .int .i64 (a : Nat)] w fun e w' => e = .returned (.bool (b2)) ∧ Below w.heap.size w w' := by
  have HX := Lib.hid (OwnArr.made w 28 [.int .i64 n, .bool ring, .slice p m cap])
  have hb := box_below w n ring p m cap 28
  have hw1 : IntKind.i64.wrap ((a : Int) + (n : Int)) = (a : Int) + (n : Int) := IntWalk.i64_in _ (by omega)
  have hw2 : IntKind.i64.wrap ((a : Int) + (n : Int) - 1) = (a : Int) + (n : Int) - 1 := IntWalk.i64_in _ (by omega)
  have hn0 : ¬ n = 0 := by omega
  have hn0' : ¬ (n : Int) = 0 := by omega
  have hkn : k < n := by rw [← hk]; exact Nat.mod_lt _ (by omega)
  have ht : Int.tmod ((a : Int) + (n : Int) - 1) (n : Int) = (k : Int) := by
    rw [show ((a : Int) + (n : Int) - 1) = ((a + n - 1 : Nat) : Int) from by omega, Int.tmod_eq_emod_of_nonneg (by omega)]
    rw [← hk]; omega
  have hw3 : IntKind.i64.wrap (k : Int) = (k : Int) := IntWalk.i64_in _ (by omega)
  have HB := Lib.hid hb
  have HBd := Lib.hid hb.drew
  have HXd : Hid (OwnArr (w.alloc (.cells #[.int .i64 n, .bool ring, .slice p m cap] 28)).drew w.heap.size 28 [.int .i64 n, .bool ring, .slice p m cap]) := HX.out
  clear hb hk
  obtain ⟨c0, c1, c2, -⟩ := HX.out.three
  have hmb : ((m : Int) == 0) = false := by simp; omega
  subst h0
  subst hr
  have hz1 : IntKind.i64.wrap (n : Int) = (n : Int) := IntWalk.i64_in _ (by omega)
  have hz2 : IntKind.i64.wrap ((n : Int) - 1) = (n : Int) - 1 := IntWalk.i64_in _ (by omega)
  have hz3 : Int.tmod ((n : Int) - 1) (n : Int) = (k : Int) := by
    rw [show (((0 : Nat) : Int) + (n : Int) - 1) = (n : Int) - 1 from by omega] at ht
    exact ht
  have FR' := FR.out
  simp only [Bool.not_false] at FR'
  replace FR := Lib.hid FR'
  clear FR'
  go_enter Try.func39, Try.ntmps39
  go_wp2_with fail
  go_region_held3 (fun w' => w'.cell? ⟨w.heap.size, 0, none⟩ = some (.int .i64 n) ∧ w'.cell? ⟨w.heap.size, 1, none⟩ = some (.bool true) ∧ w'.cell? ⟨w.heap.size, 2, none⟩ = some (.slice p m cap)) ((first | with_reducible exact ⟨c0, c1, c2⟩ | with_reducible exact ⟨d0, d1, d2⟩ | with_reducible exact ⟨e0, e1, e2⟩ | go_keep)) (first | (go_at_call 59; refine (FR.out _ HBd.out).mono ?_; rintro e w1 ⟨rfl, hb1⟩; have HX1 := Lib.hid (HXd.out.below hb1 HXd.out.lt); have HB1 := Lib.hid (HBd.out.trans (hb1.mono HBd.out.size)); clear hb1; obtain ⟨d0, d1, d2, -⟩ := HX1.out.three) | (go_at_call 62; refine (TK.out _ HB1.out).mono ?_; rintro e w2 ⟨rfl, hb2⟩; have HX2 := Lib.hid (HX1.out.below hb2 HX1.out.lt); have HB2 := Lib.hid (HB1.out.trans (hb2.mono HB1.out.size)); clear hb2; obtain ⟨e0, e1, e2, -⟩ := HX2.out.three))
  all_goals
    go_wp2_with fail
    go_ret
    exact ⟨rfl, HB2.out⟩

set_option maxRecDepth 4000 in
set_option maxHeartbeats 2000000 in
theorem start_more_t (n : Nat) (ring : Bool) (p : Option Addr) (cap m : Nat) (a k : Nat) (b2 : Bool) (w : World) (hn : n ≤ 24) (ha : a < n) (_ : m ≤ 24) (hk : (a + n - 1) % n = k)
    (FR : Hid (∀ (w' : World) (_ : Below w.heap.size w w'), Calls Try.prog 59 #[rowV n ring p m cap, .int .i64 (a : Nat)] w' fun e w'' => e = .returned (.bool (!true)) ∧ Below w'.heap.size w' w''))
    (_ : Hid (∀ (w' : World) (_ : Below w.heap.size w w'), Calls Try.prog 62 #[rowV n ring p m cap, .int .i64 (k : Nat)] w' fun e w'' => e = .returned (.bool b2) ∧ Below w'.heap.size w' w'')) (h0 : ¬ a = 0) :
    Calls Try.prog 39 #[rowV n ring p m cap, .int .i64 (a : Nat)] w fun e w' => e = .returned (.bool (false)) ∧ Below w.heap.size w w' := by
  have HX := Lib.hid (OwnArr.made w 28 [.int .i64 n, .bool ring, .slice p m cap])
  have hb := box_below w n ring p m cap 28
  have hw1 : IntKind.i64.wrap ((a : Int) + (n : Int)) = (a : Int) + (n : Int) := IntWalk.i64_in _ (by omega)
  have hw2 : IntKind.i64.wrap ((a : Int) + (n : Int) - 1) = (a : Int) + (n : Int) - 1 := IntWalk.i64_in _ (by omega)
  have hn0 : ¬ n = 0 := by omega
  have hn0' : ¬ (n : Int) = 0 := by omega
  have hkn : k < n := by rw [← hk]; exact Nat.mod_lt _ (by omega)
  have ht : Int.tmod ((a : Int) + (n : Int) - 1) (n : Int) = (k : Int) := by
    rw [show ((a : Int) + (n : Int) - 1) = ((a + n - 1 : Nat) : Int) from by omega, Int.tmod_eq_emod_of_nonneg (by omega)]
    rw [← hk]; omega
  have hw3 : IntKind.i64.wrap (k : Int) = (k : Int) := IntWalk.i64_in _ (by omega)
  have HB := Lib.hid hb
  have HBd := Lib.hid hb.drew
  have HXd : Hid (OwnArr (w.alloc (.cells #[.int .i64 n, .bool ring, .slice p m cap] 28)).drew w.heap.size 28 [.int .i64 n, .bool ring, .slice p m cap]) := HX.out
  clear hb hk
  obtain ⟨c0, c1, c2, -⟩ := HX.out.three
  have hab : ((a : Int) == 0) = false := by simp; omega
  have FR' := FR.out
  simp only [Bool.not_true] at FR'
  replace FR := Lib.hid FR'
  clear FR'
  go_enter Try.func39, Try.ntmps39
  go_wp2_with fail
  refine wp_region_any (by kernel_rfl) ?_
  change wpAny _ _ _ _ _ _ _ (World.drew _)
  refine move_take (i := 1) (d := some 22) (v := .int .i64 ((a : Nat) : Int)) rfl rfl rfl rfl (by kernel_rfl) (by kernel_rfl) (by kernel_rfl) (fun _ _ _ h => h) (by kernel_rfl) ?_
  simp only [Act.put, List.setIfInBounds_toArray, List.set_cons_zero, List.set_cons_succ]
  refine wpAny_ready (rs := [0]) (by kernel_rfl) (by simp) ?_
  refine AllReady.cons rfl (fun K hK => ?_) AllReady.nil
  go_simp
  refine hK _ _ ?_
  clear hK K
  refine wpAny_ready (rs := [2]) (by kernel_rfl) (by simp) ?_
  refine AllReady.cons rfl (fun K hK => ?_) AllReady.nil
  go_simp
  go_wp2_with (first | (go_at_call 59; refine (FR.out _ HBd.out).mono ?_; rintro e w1 ⟨rfl, hb1⟩; have HB1 := Lib.hid (HBd.out.trans (hb1.mono HBd.out.size)); clear hb1))
  refine move_take (i := 3) (d := some 24) (v := .bool false) rfl rfl rfl rfl (by kernel_rfl) (by kernel_rfl) (by kernel_rfl) (fun _ _ _ h => h) (by kernel_rfl) ?_
  simp only [Act.put, List.setIfInBounds_toArray, List.set_cons_zero, List.set_cons_succ]
  refine skip_take (i := 4) (d := some 25) rfl rfl (by kernel_rfl) (by kernel_rfl) (by kernel_rfl) (fun _ _ _ h => h) (by kernel_rfl) ?_
  simp only [Act.put, List.setIfInBounds_toArray, List.set_cons_zero, List.set_cons_succ]
  refine skip_take (i := 5) (d := some 26) rfl rfl (by kernel_rfl) (by kernel_rfl) (by kernel_rfl) (fun _ _ _ h => h) (by kernel_rfl) ?_
  simp only [Act.put, List.setIfInBounds_toArray, List.set_cons_zero, List.set_cons_succ]
  refine skip_take (i := 6) (d := some 27) rfl rfl (by kernel_rfl) (by kernel_rfl) (by kernel_rfl) (fun _ _ _ h => h) (by kernel_rfl) ?_
  simp only [Act.put, List.setIfInBounds_toArray, List.set_cons_zero, List.set_cons_succ]
  refine skip_take (i := 7) (d := some 28) rfl rfl (by kernel_rfl) (by kernel_rfl) (by kernel_rfl) (fun _ _ _ h => h) (by kernel_rfl) ?_
  simp only [Act.put, List.setIfInBounds_toArray, List.set_cons_zero, List.set_cons_succ]
  refine skip_take (i := 8) (d := some 29) rfl rfl (by kernel_rfl) (by kernel_rfl) (by kernel_rfl) (fun _ _ _ h => h) (by kernel_rfl) ?_
  simp only [Act.put, List.setIfInBounds_toArray, List.set_cons_zero, List.set_cons_succ]
  refine skip_take (i := 9) (d := some 30) rfl rfl (by kernel_rfl) (by kernel_rfl) (by kernel_rfl) (fun _ _ _ h => h) (by kernel_rfl) ?_
  simp only [Act.put, List.setIfInBounds_toArray, List.set_cons_zero, List.set_cons_succ]
  refine skip_take (i := 10) (d := some 31) rfl rfl (by kernel_rfl) (by kernel_rfl) (by kernel_rfl) (fun _ _ _ h => h) (by kernel_rfl) ?_
  simp only [Act.put, List.setIfInBounds_toArray, List.set_cons_zero, List.set_cons_succ]
  refine skip_take (i := 11) (d := some 32) rfl rfl (by kernel_rfl) (by kernel_rfl) (by kernel_rfl) (fun _ _ _ h => h) (by kernel_rfl) ?_
  simp only [Act.put, List.setIfInBounds_toArray, List.set_cons_zero, List.set_cons_succ]
  refine skip_take (i := 12) (d := some 33) rfl rfl (by kernel_rfl) (by kernel_rfl) (by kernel_rfl) (fun _ _ _ h => h) (by kernel_rfl) ?_
  simp only [Act.put, List.setIfInBounds_toArray, List.set_cons_zero, List.set_cons_succ]
  refine skip_take (i := 13) (d := some 34) rfl rfl (by kernel_rfl) (by kernel_rfl) (by kernel_rfl) (fun _ _ _ h => h) (by kernel_rfl) ?_
  simp only [Act.put, List.setIfInBounds_toArray, List.set_cons_zero, List.set_cons_succ]
  refine take_d (i := 14) (d := some 35) (v := .bool false) rfl rfl (by kernel_rfl) (by kernel_rfl) (by kernel_rfl) (fun _ _ _ h => h) (by kernel_rfl) (by intro w; go_simp; try (with_reducible rfl)) ?_
  simp only [Act.put, List.setIfInBounds_toArray, List.set_cons_zero, List.set_cons_succ]
  refine take_d (i := 15) (d := some 4) (v := .bool false) rfl rfl (by kernel_rfl) (by kernel_rfl) (by kernel_rfl) (fun _ _ _ h => h) (by kernel_rfl) (by intro w; go_simp; try (with_reducible rfl)) ?_
  simp only [Act.put, List.setIfInBounds_toArray, List.set_cons_zero, List.set_cons_succ]
  refine wpAny_done (by kernel_rfl) ?_ _
  go_wp2_with fail
  go_ret
  exact ⟨rfl, HB1.out⟩

set_option maxRecDepth 4000 in
set_option maxHeartbeats 2000000 in
theorem start_more_f (n : Nat) (ring : Bool) (p : Option Addr) (cap m : Nat) (a k : Nat) (b2 : Bool) (w : World) (hn : n ≤ 24) (ha : a < n) (_ : m ≤ 24) (hk : (a + n - 1) % n = k)
    (FR : Hid (∀ (w' : World) (_ : Below w.heap.size w w'), Calls Try.prog 59 #[rowV n ring p m cap, .int .i64 (a : Nat)] w' fun e w'' => e = .returned (.bool (!false)) ∧ Below w'.heap.size w' w''))
    (TK : Hid (∀ (w' : World) (_ : Below w.heap.size w w'), Calls Try.prog 62 #[rowV n ring p m cap, .int .i64 (k : Nat)] w' fun e w'' => e = .returned (.bool b2) ∧ Below w'.heap.size w' w'')) (h0 : ¬ a = 0) :
    Calls Try.prog 39 #[rowV n ring p m cap, .int .i64 (a : Nat)] w fun e w' => e = .returned (.bool (b2)) ∧ Below w.heap.size w w' := by
  have HX := Lib.hid (OwnArr.made w 28 [.int .i64 n, .bool ring, .slice p m cap])
  have hb := box_below w n ring p m cap 28
  have hw1 : IntKind.i64.wrap ((a : Int) + (n : Int)) = (a : Int) + (n : Int) := IntWalk.i64_in _ (by omega)
  have hw2 : IntKind.i64.wrap ((a : Int) + (n : Int) - 1) = (a : Int) + (n : Int) - 1 := IntWalk.i64_in _ (by omega)
  have hn0 : ¬ n = 0 := by omega
  have hn0' : ¬ (n : Int) = 0 := by omega
  have hkn : k < n := by rw [← hk]; exact Nat.mod_lt _ (by omega)
  have ht : Int.tmod ((a : Int) + (n : Int) - 1) (n : Int) = (k : Int) := by
    rw [show ((a : Int) + (n : Int) - 1) = ((a + n - 1 : Nat) : Int) from by omega, Int.tmod_eq_emod_of_nonneg (by omega)]
    rw [← hk]; omega
  have hw3 : IntKind.i64.wrap (k : Int) = (k : Int) := IntWalk.i64_in _ (by omega)
  have HB := Lib.hid hb
  have HBd := Lib.hid hb.drew
  have HXd : Hid (OwnArr (w.alloc (.cells #[.int .i64 n, .bool ring, .slice p m cap] 28)).drew w.heap.size 28 [.int .i64 n, .bool ring, .slice p m cap]) := HX.out
  clear hb hk
  obtain ⟨c0, c1, c2, -⟩ := HX.out.three
  have hab : ((a : Int) == 0) = false := by simp; omega
  have FR' := FR.out
  simp only [Bool.not_false] at FR'
  replace FR := Lib.hid FR'
  clear FR'
  go_enter Try.func39, Try.ntmps39
  go_wp2_with fail
  go_region_held3 (fun w' => w'.cell? ⟨w.heap.size, 0, none⟩ = some (.int .i64 n) ∧ w'.cell? ⟨w.heap.size, 1, none⟩ = some (.bool ring) ∧ w'.cell? ⟨w.heap.size, 2, none⟩ = some (.slice p m cap)) ((first | with_reducible exact ⟨c0, c1, c2⟩ | with_reducible exact ⟨d0, d1, d2⟩ | with_reducible exact ⟨e0, e1, e2⟩ | go_keep)) (first | (go_at_call 59; refine (FR.out _ HBd.out).mono ?_; rintro e w1 ⟨rfl, hb1⟩; have HX1 := Lib.hid (HXd.out.below hb1 HXd.out.lt); have HB1 := Lib.hid (HBd.out.trans (hb1.mono HBd.out.size)); clear hb1; obtain ⟨d0, d1, d2, -⟩ := HX1.out.three) | (go_at_call 62; refine (TK.out _ HB1.out).mono ?_; rintro e w2 ⟨rfl, hb2⟩; have HX2 := Lib.hid (HX1.out.below hb2 HX1.out.lt); have HB2 := Lib.hid (HB1.out.trans (hb2.mono HB1.out.size)); clear hb2; obtain ⟨e0, e1, e2, -⟩ := HX2.out.three))
  all_goals
    go_wp2_with fail
    go_ret
    exact ⟨rfl, HB2.out⟩

theorem startsRun_any (n : Nat) (ring : Bool) (p : Option Addr) (cap : Nat) (S : Nat → Bool) (a : Nat) (w : World) (lo hi : Nat) (hin : Ri lo hi w p (ints (tk n S))) (hn : n ≤ 24) (ha : a < n) :
    Calls Try.prog 39 #[rowV n ring p (ints (tk n S)).length cap, .int .i64 (a : Nat)] w fun e w' => e = .returned (.bool (startM n ring S a)) ∧ Below w.heap.size w w' := by
  have hlen := ints_tk_len n S
  have FR : ∀ (w' : World) (_ : Below w.heap.size w w'), Calls Try.prog 59 #[rowV n ring p (ints (tk n S)).length cap, .int .i64 (a : Nat)] w' fun e w'' => e = .returned (.bool (!S a)) ∧ Below w'.heap.size w' w'' := by
    intro w' h'
    have := isFree_any n ring p cap (ints (tk n S)) a w' lo hi (hin.below h' hin.top) (by omega)
    rw [has_tk ha] at this
    exact this
  have hmod : (a + n - 1) % n < n := Nat.mod_lt _ (by omega)
  have TK : ∀ (w' : World) (_ : Below w.heap.size w w'), Calls Try.prog 62 #[rowV n ring p (ints (tk n S)).length cap, .int .i64 (((a + n - 1) % n : Nat) : Int)] w' fun e w'' => e = .returned (.bool (S ((a + n - 1) % n))) ∧ Below w'.heap.size w' w'' := by
    intro w' h'
    have := isTaken_any n ring p cap (ints (tk n S)) (((a + n - 1) % n : Nat) : Int) w' lo hi (hin.below h' hin.top) (by omega)
    rw [has_tk hmod] at this
    exact this
  have hml := ints_length (tk n S)
  have hemp : (ints (tk n S)).length = 0 ↔ tk n S = [] := by rw [hml]; exact List.length_eq_zero_iff
  have hm24 : (ints (tk n S)).length ≤ 24 := by omega
  unfold startM
  by_cases ha0 : a = 0
  · cases hr : ring with
    | false =>
      subst hr
      rw [if_pos ⟨ha0, .inl rfl⟩]
      exact start_line n false p cap _ a _ _ _ w hn ha hm24 rfl (Lib.hid FR) (Lib.hid TK) ha0 rfl
    | true =>
      subst hr
      by_cases hm0 : (ints (tk n S)).length = 0
      · rw [if_pos ⟨ha0, .inr (hemp.1 hm0)⟩]
        exact start_bare n true p cap _ a _ _ _ w hn ha hm24 rfl (Lib.hid FR) (Lib.hid TK) ha0 rfl hm0
      · rw [if_neg (by rintro ⟨-, h | h⟩; cases h; exact hm0 (hemp.2 h))]
        cases hS : S a with
        | true => rw [hS] at FR; exact start_zero_t n true p cap _ a _ _ w hn ha hm24 rfl (Lib.hid FR) (Lib.hid TK) ha0 rfl hm0
        | false => rw [hS] at FR; exact start_zero_f n true p cap _ a _ _ w hn ha hm24 rfl (Lib.hid FR) (Lib.hid TK) ha0 rfl hm0
  · rw [if_neg (fun h => ha0 h.1)]
    cases hS : S a with
    | true => rw [hS] at FR; exact start_more_t n ring p cap _ a _ _ w hn ha hm24 rfl (Lib.hid FR) (Lib.hid TK) ha0
    | false => rw [hS] at FR; exact start_more_f n ring p cap _ a _ _ w hn ha hm24 rfl (Lib.hid FR) (Lib.hid TK) ha0
end Go.Proofs.Ytbgmfjhcgfnfoaa
