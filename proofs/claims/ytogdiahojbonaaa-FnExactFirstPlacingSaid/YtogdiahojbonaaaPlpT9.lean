/- Chapter 9, spec side: spec.CountPlacings, spec.FirstPlacing. -/
import Derived.Test.YtogdiahojbonaaaPlpS9
import Derived.BigQuiet
import Derived.Deep.QuietTactic
namespace Go.Proofs.Ytogdiahojbonaaa
open Go.RowKit

theorem World.below_drewN9 {B : Nat} {a w : World} (h : Below B a w) (n : Nat) : Below B a (w.drewN n) := h.trans ⟨rfl, rfl, rfl, Nat.le_refl _, fun _ _ => rfl⟩

set_option maxRecDepth 4000 in
set_option maxHeartbeats 1000000 in
theorem countPlacingsS_bad (s : Int) (ring : Bool) (p : Option Addr) (cap : Nat) (xs : List Int) (qg : Option Addr) (cg : Nat) (gs : List Int) (d : Int) (w : World) (lo hi lo2 hi2 : Nat)
    (hin : Ri lo hi w p xs) (hlen : xs.length ≤ 1048576) (hing : Ri lo2 hi2 w qg gs) (hleng : gs.length ≤ 1048576) (hr : pvB s ring xs gs d = false) :
    Calls Try.prog 25 #[rowV s ring p xs.length cap, .slice qg gs.length cg, .int .i64 d] w fun e w' => e = .returned (.tuple #[.int .i64 0, .bool false]) ∧ Below w.heap.size w w' := by
  have hX := OwnArr.made w 28 [.int .i64 s, .bool ring, .slice p xs.length cap]
  have hB := box_below w s ring p xs.length cap 28
  have I := l9Groups_any s ring p cap xs qg cg gs d _ lo hi lo2 hi2 (hin.below hB hin.top) hlen (hing.below hB hing.top) hleng
  rw [hr] at I
  replace I := Lib.hid I
  obtain ⟨m0, hm0⟩ : ∃ m, xs.length = m := ⟨_, rfl⟩
  rw [hm0] at hX hB I ⊢
  obtain ⟨m1, hm1⟩ : ∃ m, gs.length = m := ⟨_, rfl⟩
  rw [hm1] at I ⊢
  obtain ⟨c0, c1, c2, -⟩ := hX.three
  have HB := Lib.hid hB
  clear hin hm0 hlen hX hB hing hleng hr hm1
  go_enter Try.func25, Try.ntmps25
  go_wp2_with fail
  refine I.out.mono ?_
  rintro e w2 ⟨rfl, hb2⟩
  have HB2 := Lib.hid (HB.out.trans (hb2.mono HB.out.size))
  clear I HB hb2 c0 c1 c2
  go_wp2_with fail
  go_ret2
  exact ⟨rfl, HB2.out⟩


set_option maxRecDepth 4000 in
set_option maxHeartbeats 2000000 in
theorem countPlacingsS_any (n : Nat) (p : Option Addr) (cap : Nat) (S : Nat → Bool) (qg : Option Addr) (cg : Nat) (gs : List Int) (d : Int) (w : World) (lo hi lo2 hi2 : Nat)
    (hin : Ri lo hi w p (ints (tk n S))) (hing : Ri lo2 hi2 w qg gs) (hr : pvB n false (ints (tk n S)) gs d = true) :
    Calls Try.prog 25 #[rowV n false p (ints (tk n S)).length cap, .slice qg gs.length cg, .int .i64 d] w fun e w' => e = .returned (.tuple #[.int .i64 ((cntP n S d gs : Nat) : Int), .bool true]) ∧ Below w.heap.size w w' := by
  obtain ⟨g1, g2, -, g4, g5, g6⟩ := pvB_is hr
  have hn : 2 ≤ n ∧ n ≤ 24 := by
    obtain ⟨n', S', e, -, h0, h, -⟩ := rowB_is g2
    have : n = n' := by omega
    omega
  have hlen := ints_tk_len n S
  have hX := OwnArr.made w 28 [.int .i64 n, .bool false, .slice p (ints (tk n S)).length cap]
  have hB := box_below w n false p (ints (tk n S)).length cap 28
  have I := l9Groups_any n false p cap (ints (tk n S)) qg cg gs d _ lo hi lo2 hi2 (hin.below hB hin.top) (by omega) (hing.below hB hing.top) (by omega)
  rw [hr] at I
  replace I := Lib.hid I
  have PL := fun (w1 : World) (h' : Below w.heap.size w w1) => l9Place_any n p cap S qg cg gs d false (by omega) hn.2 g5 g6 g1 gs.length [] w1.heap.size (.slice (some ⟨w1.heap.size, 0, none⟩) 0 0) (.slice (some ⟨w1.heap.size + 1, 0, none⟩) 0 0) [] 0 ((w1.alloc (.cells #[] 3)).alloc (.cells #[] 3)) lo hi lo2 hi2
    (hin.below ((h'.alloc h'.size _).alloc (by have := h'.size; simp; omega) _) hin.top) (hing.below ((h'.alloc h'.size _).alloc (by have := h'.size; simp; omega) _) hing.top) (by simp) (fun j hj => absurd hj (by simp))
    ((Out.nilLit w1).below ((Below.refl _ _).alloc (Nat.le_refl _) _)) (by have := Out.nilLit (w1.alloc (.cells #[] 3)); simp only [World.size_alloc] at this; exact this.mono (Nat.le_succ _)) (by simp only [World.size_alloc]; omega) (cwS_nil hn.2 g5 (by omega))
  rw [plS_all] at PL
  obtain ⟨N, hN⟩ : ∃ N, cntP n S d gs = N := ⟨_, rfl⟩
  rw [hN] at PL ⊢
  obtain ⟨m0, hm0⟩ : ∃ m, (ints (tk n S)).length = m := ⟨_, rfl⟩
  rw [hm0] at hX hB I PL ⊢
  obtain ⟨m1, hm1⟩ : ∃ m, gs.length = m := ⟨_, rfl⟩
  rw [hm1] at I PL ⊢
  replace PL := Lib.hid PL
  obtain ⟨c0, c1, c2, -⟩ := hX.three
  have HX := Lib.hid hX
  have HB := Lib.hid hB
  clear hin hm0 hlen hX hB hing hr hm1 g1 g2 g4 g5 g6 hn
  go_enter Try.func25, Try.ntmps25
  go_wp2_with fail
  refine I.out.mono ?_
  rintro e w2 ⟨rfl, hb2⟩
  have HB2 := Lib.hid (HB.out.trans (hb2.mono HB.out.size))
  have HX2 := Lib.hid (HX.out.below hb2 HX.out.lt)
  clear I HB hb2 c0 c1 c2
  obtain ⟨c0, c1, c2, -⟩ := HX2.out.three
  have PL2 := Lib.hid (PL.out _ HB2.out)
  clear PL
  have i4 : ∀ (v0 v1 : Value) (w' : World), (Instr.field 56 (.agg #[v0, v1]) 1).run Try.prog w' = .ok v1 w' := fun _ _ _ => by kernel_rfl
  go_wp2_with fail
  refine PL2.out.mono ?_
  rintro e w3 ⟨fv, rfl, hO, hb3⟩
  obtain ⟨qv, kv, rfl, -⟩ := hO.rd
  clear hO
  have HB3 := Lib.hid (((HB2.out.alloc HB2.out.size _).alloc (by have := HB2.out.size; simp; omega) _).trans (hb3.mono (by have := HB2.out.size; simp; omega)))
  clear HB2 hb3 c0 c1 c2
  go_wp2_with fail
  go_ret2
  exact ⟨rfl, HB3.out⟩


set_option maxRecDepth 4000 in
set_option maxHeartbeats 1000000 in
theorem firstPlacingS_bad (s : Int) (ring : Bool) (p : Option Addr) (cap : Nat) (xs : List Int) (qg : Option Addr) (cg : Nat) (gs : List Int) (d : Int) (w : World) (lo hi lo2 hi2 : Nat)
    (hin : Ri lo hi w p xs) (hlen : xs.length ≤ 1048576) (hing : Ri lo2 hi2 w qg gs) (hleng : gs.length ≤ 1048576) (hr : pvB s ring xs gs d = false) :
    Calls Try.prog 23 #[rowV s ring p xs.length cap, .slice qg gs.length cg, .int .i64 d] w fun e w' => ∃ v, e = .returned (.tuple #[v, .bool false]) ∧ Out w.heap.size w' v [] ∧ Below w.heap.size w w' := by
  have hX := OwnArr.made w 28 [.int .i64 s, .bool ring, .slice p xs.length cap]
  have hB := box_below w s ring p xs.length cap 28
  have I := l9Groups_any s ring p cap xs qg cg gs d _ lo hi lo2 hi2 (hin.below hB hin.top) hlen (hing.below hB hing.top) hleng
  rw [hr] at I
  replace I := Lib.hid I
  obtain ⟨m0, hm0⟩ : ∃ m, xs.length = m := ⟨_, rfl⟩
  rw [hm0] at hX hB I ⊢
  obtain ⟨m1, hm1⟩ : ∃ m, gs.length = m := ⟨_, rfl⟩
  rw [hm1] at I ⊢
  obtain ⟨c0, c1, c2, -⟩ := hX.three
  have HB := Lib.hid hB
  clear hin hm0 hlen hX hB hing hleng hr hm1
  go_enter Try.func23, Try.ntmps23
  go_wp2_with fail
  refine I.out.mono ?_
  rintro e w2 ⟨rfl, hb2⟩
  have HB2 := Lib.hid (HB.out.trans (hb2.mono HB.out.size))
  clear I HB hb2 c0 c1 c2
  have HN := Lib.hid ((Out.nilLit w2).mono HB2.out.size)
  have HB3 := Lib.hid (HB2.out.alloc HB2.out.size (.cells #[] 3))
  go_wp2_with fail
  go_ret2
  exact ⟨_, rfl, HN.out, HB3.out⟩


set_option maxRecDepth 4000 in
set_option maxHeartbeats 2000000 in
theorem firstPlacingS_any (n : Nat) (p : Option Addr) (cap : Nat) (S : Nat → Bool) (qg : Option Addr) (cg : Nat) (gs : List Int) (d : Int) (w : World) (lo hi lo2 hi2 : Nat)
    (hin : Ri lo hi w p (ints (tk n S))) (hing : Ri lo2 hi2 w qg gs) (hr : pvB n false (ints (tk n S)) gs d = true) :
    Calls Try.prog 23 #[rowV n false p (ints (tk n S)).length cap, .slice qg gs.length cg, .int .i64 d] w fun e w' => ∃ v, e = .returned (.tuple #[v, .bool (frsP n S d gs).isSome]) ∧ Out w.heap.size w' v (ints ((frsP n S d gs).getD [])) ∧ Below w.heap.size w w' := by
  obtain ⟨g1, g2, -, g4, g5, g6⟩ := pvB_is hr
  have hn : 2 ≤ n ∧ n ≤ 24 := by
    obtain ⟨n', S', e, -, h0, h, -⟩ := rowB_is g2
    have : n = n' := by omega
    omega
  have hlen := ints_tk_len n S
  have hX := OwnArr.made w 28 [.int .i64 n, .bool false, .slice p (ints (tk n S)).length cap]
  have hB := box_below w n false p (ints (tk n S)).length cap 28
  have I := l9Groups_any n false p cap (ints (tk n S)) qg cg gs d _ lo hi lo2 hi2 (hin.below hB hin.top) (by omega) (hing.below hB hing.top) (by omega)
  rw [hr] at I
  replace I := Lib.hid I
  have PL := fun (w1 : World) (h' : Below w.heap.size w w1) => l9Place_any n p cap S qg cg gs d true (by omega) hn.2 g5 g6 g1 gs.length [] w1.heap.size (.slice (some ⟨w1.heap.size, 0, none⟩) 0 0) (.slice (some ⟨w1.heap.size + 1, 0, none⟩) 0 0) [] 0 ((w1.alloc (.cells #[] 3)).alloc (.cells #[] 3)) lo hi lo2 hi2
    (hin.below ((h'.alloc h'.size _).alloc (by have := h'.size; simp; omega) _) hin.top) (hing.below ((h'.alloc h'.size _).alloc (by have := h'.size; simp; omega) _) hing.top) (by simp) (fun j hj => absurd hj (by simp))
    ((Out.nilLit w1).below ((Below.refl _ _).alloc (Nat.le_refl _) _)) (by have := Out.nilLit (w1.alloc (.cells #[] 3)); simp only [World.size_alloc] at this; exact this.mono (Nat.le_succ _)) (by simp only [World.size_alloc]; omega) (cwS_nil hn.2 g5 (by omega))
  obtain ⟨hp1, hp2⟩ := plS_first n S d gs
  rw [hp1] at PL
  obtain ⟨C, hC⟩ : ∃ C, (plS n S d gs true [] ([], 0)).2 = C := ⟨_, rfl⟩
  rw [hC] at PL hp2
  rw [← hp2]
  obtain ⟨Y, hY⟩ : ∃ Y, (frsP n S d gs).getD [] = Y := ⟨_, rfl⟩
  rw [hY] at PL ⊢
  clear hp1 hp2 hC hY
  obtain ⟨m0, hm0⟩ : ∃ m, (ints (tk n S)).length = m := ⟨_, rfl⟩
  rw [hm0] at hX hB I PL ⊢
  obtain ⟨m1, hm1⟩ : ∃ m, gs.length = m := ⟨_, rfl⟩
  rw [hm1] at I PL ⊢
  replace PL := Lib.hid PL
  obtain ⟨c0, c1, c2, -⟩ := hX.three
  have HX := Lib.hid hX
  have HB := Lib.hid hB
  clear hin hm0 hlen hX hB hing hr hm1 g1 g2 g4 g5 g6 hn
  go_enter Try.func23, Try.ntmps23
  go_wp2_with fail
  refine I.out.mono ?_
  rintro e w2 ⟨rfl, hb2⟩
  have HB2 := Lib.hid (HB.out.trans (hb2.mono HB.out.size))
  have HX2 := Lib.hid (HX.out.below hb2 HX.out.lt)
  clear I HB hb2 c0 c1 c2
  obtain ⟨c0, c1, c2, -⟩ := HX2.out.three
  have PL2 := Lib.hid (PL.out _ HB2.out)
  clear PL
  go_wp2_with fail
  refine PL2.out.mono ?_
  rintro e w3 ⟨fv, rfl, hO, hb3⟩
  have HB3 := Lib.hid (((HB2.out.alloc HB2.out.size _).alloc (by have := HB2.out.size; simp; omega) _).trans (hb3.mono (by have := HB2.out.size; simp; omega)))
  have HO3 := Lib.hid ((hO.mono HB2.out.size).below ((Below.refl _ _).alloc (Nat.le_refl _) (.cells #[fv, .int .i64 (C : Int)] 56)))
  have HB4 := Lib.hid (HB3.out.alloc HB3.out.size (.cells #[fv, .int .i64 (C : Int)] 56))
  obtain ⟨qv, kv, rfl, -⟩ := hO.rd
  clear HB2 hb3 c0 c1 c2 HB3 hO
  go_wp2_with fail
  go_quiet (fail)
  go_wp2_with fail
  go_ret2
  exact ⟨_, rfl, HO3.out.below (World.below_drewN9 (Below.refl _ _) _), World.below_drewN9 HB4.out _⟩


end Go.Proofs.Ytogdiahojbonaaa
