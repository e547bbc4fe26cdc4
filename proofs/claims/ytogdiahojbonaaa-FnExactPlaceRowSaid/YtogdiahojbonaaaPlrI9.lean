/- Chapter 9, impl side: impl.PlaceRow; both sides. -/
import Derived.Test.YtogdiahojbonaaaSgsI9
import Derived.Test.YtogdiahojbonaaaPlrS9
namespace Go.Proofs.Ytogdiahojbonaaa
open Go.RowKit

set_option maxRecDepth 4000 in
set_option maxHeartbeats 2000000 in
theorem placeRowI_bad (s : Int) (ring : Bool) (p : Option Addr) (cap : Nat) (xs : List Int) (qg : Option Addr) (cg : Nat) (gs : List Int) (d : Int) (qp : Option Addr) (cp : Nat) (ps : List Int) (w : World) (lo hi lo2 hi2 : Nat)
    (hin : Ri lo hi w p xs) (hlen : xs.length ≤ 1048576) (hing : Ri lo2 hi2 w qg gs) (hleng : gs.length ≤ 1048576) (hr : pvB s ring xs gs d = false) :
    Calls Try.prog 28 #[rowV s ring p xs.length cap, .slice qg gs.length cg, .int .i64 d, .slice qp ps.length cp] w (MadeRow w 0 false [] false) := by
  have hE := Beg.start w s ring p xs.length cap
  have I := canPlace_any s ring p cap xs qg cg gs d _ lo hi lo2 hi2 (hin.below hE.bel hin.top) hlen (hing.below hE.bel hing.top) hleng
  rw [hr] at I
  replace I := Lib.hid I
  obtain ⟨m0, hm0⟩ : ∃ m, xs.length = m := ⟨_, rfl⟩
  rw [hm0] at hE I ⊢
  obtain ⟨m1, hm1⟩ : ∃ m, gs.length = m := ⟨_, rfl⟩
  rw [hm1] at I ⊢
  have HE := Lib.hid hE
  obtain ⟨c0, c1, c2, -⟩ := HE.out.row.three
  clear hin hm0 hlen hE hing hleng hr hm1
  unfold MadeRow
  go_enter Try.func28, Try.ntmps28
  go_wp2_with fail
  refine I.out.mono ?_
  rintro e w2 ⟨rfl, hb2⟩
  have HE2 := Lib.hid (HE.out.next hb2)
  obtain ⟨z0, z1, z2, y0, y1, y2⟩ := HE2.out.res.three
  clear I HE hb2 c0 c1 c2
  go_wp2_with fail
  exact ret_row2 Try.results28 rfl rfl (HE2.out.out _ _ _).1 rfl ⟨_, rfl, Out.none _ _, (HE2.out.out _ _ _).2⟩

set_option maxRecDepth 4000 in
set_option maxHeartbeats 2000000 in
theorem placeRowI_any (n : Nat) (p : Option Addr) (cap : Nat) (S : Nat → Bool) (qg : Option Addr) (cg : Nat) (gs : List Int) (d : Int) (qp : Option Addr) (cp : Nat) (ps : List Int) (w : World) (lo hi lo2 hi2 lo3 hi3 : Nat)
    (hin : Ri lo hi w p (ints (tk n S))) (hing : Ri lo2 hi2 w qg gs) (hinp : Ri lo3 hi3 w qp ps) (hp64 : ∀ x ∈ ps, -9223372036854775808 ≤ x ∧ x ≤ 9223372036854775807) (hr : pvB n false (ints (tk n S)) gs d = true) :
    Calls Try.prog 28 #[rowV n false p (ints (tk n S)).length cap, .slice qg gs.length cg, .int .i64 d, .slice qp ps.length cp] w
      (MadeRow w (if plgB n S d gs ps then (n : Int) else 0) false (if plgB n S d gs ps then ints (tk n (seatedM S gs ps gs.length)) else []) (plgB n S d gs ps)) := by
  obtain ⟨g1, g2, -, g4, g5, g6⟩ := pvB_is hr
  have hn : 2 ≤ n ∧ n ≤ 24 := by
    obtain ⟨n', S', e, -, h0, h, -⟩ := rowB_is g2
    have : n = n' := by omega
    omega
  have hlen := ints_tk_len n S
  have hE := Beg.start w n false p (ints (tk n S)).length cap
  have I := canPlace_any n false p cap (ints (tk n S)) qg cg gs d _ lo hi lo2 hi2 (hin.below hE.bel hin.top) (by omega) (hing.below hE.bel hing.top) (by omega)
  rw [hr] at I
  replace I := Lib.hid I
  have PL := fun (w' : World) (h' : Below w.heap.size w w') => seatGroups_any n p cap S qg cg gs d qp cp ps w' lo hi lo2 hi2 lo3 hi3 (hin.below h' hin.top) hn.1 hn.2 (hing.below h' hing.top) g4 g5 (hinp.below h' hinp.top) g1 hp64
  obtain ⟨R, hR⟩ : ∃ R, plgB n S d gs ps = R := ⟨_, rfl⟩
  rw [hR] at PL ⊢
  simp only [madeIf] at PL
  unfold MadeRow at PL
  obtain ⟨N, hN⟩ : ∃ N : Int, (if R then (n : Int) else 0) = N := ⟨_, rfl⟩
  obtain ⟨L, hL⟩ : ∃ L, (if R then ints (tk n (seatedM S gs ps gs.length)) else []) = L := ⟨_, rfl⟩
  simp only [hN, hL] at PL ⊢
  replace PL := Lib.hid PL
  obtain ⟨m0, hm0⟩ : ∃ m, (ints (tk n S)).length = m := ⟨_, rfl⟩
  rw [hm0] at hE I PL ⊢
  obtain ⟨m1, hm1⟩ : ∃ m, gs.length = m := ⟨_, rfl⟩
  rw [hm1] at I PL ⊢
  obtain ⟨m2, hm2⟩ : ∃ m, ps.length = m := ⟨_, rfl⟩
  rw [hm2] at PL ⊢
  have HE := Lib.hid hE
  obtain ⟨c0, c1, c2, -⟩ := HE.out.row.three
  clear hin hm0 hlen hE hing hr hm1 hm2 hinp g1 g2 g4 g5 g6 hR hL hN
  unfold MadeRow
  go_enter Try.func28, Try.ntmps28
  go_wp2_with fail
  refine I.out.mono ?_
  rintro e w2 ⟨rfl, hb2⟩
  have HE2 := Lib.hid (HE.out.next hb2)
  clear I HE hb2 c0 c1 c2
  obtain ⟨c0, c1, c2, -⟩ := HE2.out.row.three
  have PL2 := Lib.hid (PL.out _ HE2.out.bel)
  go_wp2_with fail
  refine PL2.out.mono ?_
  rintro e w3 ⟨v, rfl, hO, hb3⟩
  have HE3 := Lib.hid (HE2.out.next hb3)
  have HO := Lib.hid (hO.mono HE2.out.bel.size)
  obtain ⟨qv, kv, rfl, -⟩ := hO.rd
  obtain ⟨z0, z1, z2, y0, y1, y2⟩ := HE3.out.res.three
  clear HE2 hb3 c0 c1 c2 hO
  go_wp2_with fail
  exact ret_row2 Try.results28 rfl rfl (HE3.out.out _ _ _).1 rfl ⟨_, rfl, HO.out.boxed HE3.out.res _ _ _, (HE3.out.out _ _ _).2⟩

theorem placeRow_both (s0 : Int) (r0 : Bool) (xs0 : List Int) (xs1 : List Int) (a2 : Int) (xs3 : List Int) : ∃ (x0 : Int) (y0 : Bool) (L0 : List Int) (y1 : Bool), L0.length ≤ 1000 ∧
    (∀ (q0 : Option Addr) (c0 : Nat) (q1 : Option Addr) (c1 : Nat) (q3 : Option Addr) (c3 : Nat) (w : World) (lo0 hi0 : Nat) (lo1 hi1 : Nat) (lo3 hi3 : Nat), Ri lo0 hi0 w q0 xs0 → xs0.length ≤ 1048576 → xs0.length ≤ c0 → c0 ≤ maxLen → Ri lo1 hi1 w q1 xs1 → xs1.length ≤ 1048576 → xs1.length ≤ c1 → c1 ≤ maxLen → Ri lo3 hi3 w q3 xs3 → xs3.length ≤ 1048576 → xs3.length ≤ c3 → c3 ≤ maxLen → Calls Try.prog 27 #[rowV s0 r0 q0 xs0.length c0, .slice q1 xs1.length c1, .int .i64 a2, .slice q3 xs3.length c3] w fun e w' => ∃ v0, e = .returned (.tuple #[.agg #[.int .i64 x0, .bool y0, v0], .bool y1]) ∧ Out w.heap.size w' v0 L0 ∧ Below w.heap.size w w') ∧
    ((∀ x ∈ xs3, -9223372036854775808 ≤ x ∧ x ≤ 9223372036854775807) → ∀ (q0 : Option Addr) (c0 : Nat) (q1 : Option Addr) (c1 : Nat) (q3 : Option Addr) (c3 : Nat) (w : World) (lo0 hi0 : Nat) (lo1 hi1 : Nat) (lo3 hi3 : Nat), Ri lo0 hi0 w q0 xs0 → xs0.length ≤ 1048576 → xs0.length ≤ c0 → c0 ≤ maxLen → Ri lo1 hi1 w q1 xs1 → xs1.length ≤ 1048576 → xs1.length ≤ c1 → c1 ≤ maxLen → Ri lo3 hi3 w q3 xs3 → xs3.length ≤ 1048576 → xs3.length ≤ c3 → c3 ≤ maxLen → Calls Try.prog 28 #[rowV s0 r0 q0 xs0.length c0, .slice q1 xs1.length c1, .int .i64 a2, .slice q3 xs3.length c3] w fun e w' => ∃ v0, e = .returned (.tuple #[.agg #[.int .i64 x0, .bool y0, v0], .bool y1]) ∧ Out w.heap.size w' v0 L0 ∧ Below w.heap.size w w') := by
  cases h : pvB s0 r0 xs0 xs1 a2 with
  | false =>
    exact ⟨0, false, [], false, by simp,
      fun q0 c0 q1 c1 q3 c3 w lo0 hi0 lo1 hi1 lo3 hi3 h1 h2 _ _ h3 h4 _ _ _ _ _ _ => placeRowS_bad s0 r0 q0 c0 xs0 q1 c1 xs1 a2 q3 c3 xs3 w lo0 hi0 lo1 hi1 h1 h2 h3 h4 h,
      fun _ q0 c0 q1 c1 q3 c3 w lo0 hi0 lo1 hi1 lo3 hi3 h1 h2 _ _ h3 h4 _ _ _ _ _ _ => placeRowI_bad s0 r0 q0 c0 xs0 q1 c1 xs1 a2 q3 c3 xs3 w lo0 hi0 lo1 hi1 h1 h2 h3 h4 h⟩
  | true =>
    obtain ⟨-, g2, rfl, -⟩ := pvB_is h
    obtain ⟨n, S, rfl, rfl, -, hn, -⟩ := rowB_is g2
    refine ⟨if plgB n S a2 xs1 xs3 then (n : Int) else 0, false, if plgB n S a2 xs1 xs3 then ints (tk n (seatedM S xs1 xs3 xs1.length)) else [], plgB n S a2 xs1 xs3, ?_,
      fun q0 c0 q1 c1 q3 c3 w lo0 hi0 lo1 hi1 lo3 hi3 h1 _ _ _ h3 _ _ _ h5 h6 h7 h8 => placeRowS_any n q0 c0 S q1 c1 xs1 a2 q3 c3 xs3 w lo0 hi0 lo1 hi1 lo3 hi3 h1 h3 h5 h6 h7 h8 h,
      fun h64 q0 c0 q1 c1 q3 c3 w lo0 hi0 lo1 hi1 lo3 hi3 h1 _ _ _ h3 _ _ _ h5 _ _ _ => placeRowI_any n q0 c0 S q1 c1 xs1 a2 q3 c3 xs3 w lo0 hi0 lo1 hi1 lo3 hi3 h1 h3 h5 h64 h⟩
    split
    · have := ints_tk_len n (seatedM S xs1 xs3 xs1.length); omega
    · simp
end Go.Proofs.Ytogdiahojbonaaa
