/- Chapter 9, impl side: impl.CountPlacings, impl.FirstPlacing. -/
import Derived.Test.YtogdiahojbonaaaCplI9
import Derived.Test.YtogdiahojbonaaaPlpT9
import Derived.Test.YtogdiahojbonaaaSgsI9
namespace Go.Proofs.Ytogdiahojbonaaa
open Go.RowKit

set_option maxRecDepth 4000 in
set_option maxHeartbeats 1000000 in
theorem countPlacingsI_bad (s : Int) (ring : Bool) (p : Option Addr) (cap : Nat) (xs : List Int) (qg : Option Addr) (cg : Nat) (gs : List Int) (d : Int) (w : World) (lo hi lo2 hi2 : Nat)
    (hin : Ri lo hi w p xs) (hlen : xs.length ≤ 1048576) (hing : Ri lo2 hi2 w qg gs) (hleng : gs.length ≤ 1048576) (hr : pvB s ring xs gs d = false) :
    Calls Try.prog 26 #[rowV s ring p xs.length cap, .slice qg gs.length cg, .int .i64 d] w fun e w' => e = .returned (.tuple #[.int .i64 0, .bool false]) ∧ Below w.heap.size w w' := by
  have hX := OwnArr.made w 28 [.int .i64 s, .bool ring, .slice p xs.length cap]
  have hB := box_below w s ring p xs.length cap 28
  have I := canPlace_any s ring p cap xs qg cg gs d _ lo hi lo2 hi2 (hin.below hB hin.top) hlen (hing.below hB hing.top) hleng
  rw [hr] at I
  replace I := Lib.hid I
  obtain ⟨m0, hm0⟩ : ∃ m, xs.length = m := ⟨_, rfl⟩
  rw [hm0] at hX hB I ⊢
  obtain ⟨m1, hm1⟩ : ∃ m, gs.length = m := ⟨_, rfl⟩
  rw [hm1] at I ⊢
  obtain ⟨c0, c1, c2, -⟩ := hX.three
  have HB := Lib.hid hB
  clear hin hm0 hlen hX hB hing hleng hr hm1
  go_enter Try.func26, Try.ntmps26
  go_wp2_with fail
  refine I.out.mono ?_
  rintro e w2 ⟨rfl, hb2⟩
  have HB2 := Lib.hid (HB.out.trans (hb2.mono HB.out.size))
  clear I HB hb2 c0 c1 c2
  go_wp2_with fail
  go_ret2
  exact ⟨rfl, HB2.out⟩


set_option maxRecDepth 4000 in
set_option maxHeartbeats 2000000 in
theorem countPlacingsI_any (n : Nat) (p : Option Addr) (cap : Nat) (S : Nat → Bool) (qg : Option Addr) (cg : Nat) (gs : List Int) (d : Int) (w : World) (lo hi lo2 hi2 : Nat)
    (hin : Ri lo hi w p (ints (tk n S))) (hing : Ri lo2 hi2 w qg gs) (hd2 : d ≤ 9223372036854775807) (hr : pvB n false (ints (tk n S)) gs d = true) :
    Calls Try.prog 26 #[rowV n false p (ints (tk n S)).length cap, .slice qg gs.length cg, .int .i64 d] w fun e w' => e = .returned (.tuple #[.int .i64 ((cntP n S d gs : Nat) : Int), .bool true]) ∧ Below w.heap.size w w' := by
  obtain ⟨g1, g2, -, g4, g5, g6⟩ := pvB_is hr
  have hn : 2 ≤ n ∧ n ≤ 24 := by
    obtain ⟨n', S', e, -, h0, h, -⟩ := rowB_is g2
    have : n = n' := by omega
    omega
  have hlen := ints_tk_len n S
  have hX := OwnArr.made w 28 [.int .i64 n, .bool false, .slice p (ints (tk n S)).length cap]
  have hB := box_below w n false p (ints (tk n S)).length cap 28
  have I := canPlace_any n false p cap (ints (tk n S)) qg cg gs d _ lo hi lo2 hi2 (hin.below hB hin.top) (by omega) (hing.below hB hing.top) (by omega)
  rw [hr] at I
  replace I := Lib.hid I
  have PL := fun (w1 : World) (h' : Below w.heap.size w w1) => countPlacings_any n p cap S qg cg gs d w1 lo hi lo2 hi2 (hin.below h' hin.top) (hing.below h' hing.top) (by omega) hn.2 g5 g6 hd2 g1
  obtain ⟨N, hN⟩ : ∃ N, cntP n S d gs = N := ⟨_, rfl⟩
  rw [show cntW n d gs (phiL n S d) = N from hN] at PL
  rw [hN]
  obtain ⟨m0, hm0⟩ : ∃ m, (ints (tk n S)).length = m := ⟨_, rfl⟩
  rw [hm0] at hX hB I PL ⊢
  obtain ⟨m1, hm1⟩ : ∃ m, gs.length = m := ⟨_, rfl⟩
  rw [hm1] at I PL ⊢
  replace PL := Lib.hid PL
  obtain ⟨c0, c1, c2, -⟩ := hX.three
  have HX := Lib.hid hX
  have HB := Lib.hid hB
  clear hin hm0 hlen hX hB hing hr hm1 g1 g2 g4 g5 g6 hn
  go_enter Try.func26, Try.ntmps26
  go_wp2_with fail
  refine I.out.mono ?_
  rintro e w2 ⟨rfl, hb2⟩
  have HB2 := Lib.hid (HB.out.trans (hb2.mono HB.out.size))
  have HX2 := Lib.hid (HX.out.below hb2 HX.out.lt)
  clear I HB hb2 c0 c1 c2
  obtain ⟨c0, c1, c2, -⟩ := HX2.out.three
  have PL2 := Lib.hid (PL.out _ HB2.out)
  clear PL
  go_wp2_with fail
  refine PL2.out.mono ?_
  rintro e w3 ⟨rfl, hb3⟩
  have HB3 := Lib.hid (HB2.out.trans (hb3.mono HB2.out.size))
  clear HB2 hb3 c0 c1 c2
  go_wp2_with fail
  go_ret2
  exact ⟨rfl, HB3.out⟩


set_option maxRecDepth 4000 in
set_option maxHeartbeats 1000000 in
theorem firstPlacingI_bad (s : Int) (ring : Bool) (p : Option Addr) (cap : Nat) (xs : List Int) (qg : Option Addr) (cg : Nat) (gs : List Int) (d : Int) (w : World) (lo hi lo2 hi2 : Nat)
    (hin : Ri lo hi w p xs) (hlen : xs.length ≤ 1048576) (hing : Ri lo2 hi2 w qg gs) (hleng : gs.length ≤ 1048576) (hr : pvB s ring xs gs d = false) :
    Calls Try.prog 24 #[rowV s ring p xs.length cap, .slice qg gs.length cg, .int .i64 d] w fun e w' => ∃ v, e = .returned (.tuple #[v, .bool false]) ∧ Out w.heap.size w' v [] ∧ Below w.heap.size w w' := by
  have hX := OwnArr.made w 28 [.int .i64 s, .bool ring, .slice p xs.length cap]
  have hB := box_below w s ring p xs.length cap 28
  have I := canPlace_any s ring p cap xs qg cg gs d _ lo hi lo2 hi2 (hin.below hB hin.top) hlen (hing.below hB hing.top) hleng
  rw [hr] at I
  replace I := Lib.hid I
  obtain ⟨m0, hm0⟩ : ∃ m, xs.length = m := ⟨_, rfl⟩
  rw [hm0] at hX hB I ⊢
  obtain ⟨m1, hm1⟩ : ∃ m, gs.length = m := ⟨_, rfl⟩
  rw [hm1] at I ⊢
  obtain ⟨c0, c1, c2, -⟩ := hX.three
  have HB := Lib.hid hB
  clear hin hm0 hlen hX hB hing hleng hr hm1
  go_enter Try.func24, Try.ntmps24
  go_wp2_with fail
  refine I.out.mono ?_
  rintro e w2 ⟨rfl, hb2⟩
  have HB2 := Lib.hid (HB.out.trans (hb2.mono HB.out.size))
  clear I HB hb2 c0 c1 c2
  have HN := Lib.hid ((Out.nilLit w2).mono HB2.out.size)
  have HB3 := Lib.hid (HB2.out.alloc HB2.out.size (.cells #[] 3))
  go_wp2_with fail
  go_ret2
  exact ⟨_, rfl, HN.out, HB3.out⟩


/-- the Row that came in, with what is stored over it -/
structure FpB (w : World) (n : Nat) (p : Option Addr) (m cap : Nat) (wr : World) : Prop where
  row : OwnArr wr w.heap.size 28 [.int .i64 n, .bool false, .slice p m cap]
  bel : Below w.heap.size w wr
theorem FpB.next {w : World} {n : Nat} {p : Option Addr} {m cap : Nat} {wr w' : World} (h : FpB w n p m cap wr) (hb : Below wr.heap.size wr w') : FpB w n p m cap w' :=
  ⟨h.row.below hb h.row.lt, h.bel.trans (hb.mono h.bel.size)⟩
theorem FpB.turn {w : World} {n : Nat} {p : Option Addr} {m cap : Nat} {wb : World} (h : FpB w n p m cap wb) (p' : Option Addr) (m' cap' : Nat) :
    FpB w n p' m' cap' (((wb.setCell ⟨w.heap.size, 0, none⟩ (.int .i64 n)).setCell ⟨w.heap.size, 1, none⟩ (.bool false)).setCell ⟨w.heap.size, 2, none⟩ (.slice p' m' cap')) :=
  ⟨((h.row.set 0 _).set 1 _).set 2 _, ((h.bel.setCell (Nat.le_refl _) _).setCell (Nat.le_refl _) _).setCell (Nat.le_refl _) _⟩
theorem seat_up {T : Nat → Bool} {X Z : Nat} : (fun q => T q || (decide ((X : Int) ≤ (q : Int)) && decide ((q : Int) < (X : Int) + (Z : Int)))) = upTo T X (X + Z) := by
  funext q
  unfold upTo
  have e1 : decide (X ≤ q) = decide ((X : Int) ≤ (q : Int)) := decide_eq_decide.2 (by omega)
  have e2 : decide (q < X + Z) = decide ((q : Int) < (X : Int) + (Z : Int)) := decide_eq_decide.2 (by omega)
  rw [e1, e2]
/-- the step, in Nat's words -/
theorem frsP_next {n : Nat} {S : Nat → Bool} {d : Int} {Z : Nat} {gs : List Int} {y : List Nat} (hd : 0 ≤ d) (hg : ∀ x ∈ (Z : Int) :: gs, 1 ≤ x) (h : frsP n S d ((Z : Int) :: gs) = some y) :
    ∃ P y', P + Z ≤ n ∧ y = P :: y' ∧ fitG n S d (Z : Int) (P : Int) = true ∧ frsP n (upTo S P (P + Z)) d gs = some y' ∧
      ∀ q, q < P → fitG n S d (Z : Int) (q : Int) = true → cntP n (upTo S q (q + Z)) d gs = 0 := by
  obtain ⟨P, y', h1, h2, h3, h4, h5⟩ := frsP_step hd hg h
  have h6 := (fitG_true.1 h3).2.1
  refine ⟨P, y', by omega, h2, h3, ?_, fun q hq hf => ?_⟩
  · rw [← seat_up]; exact h4
  · rw [← seat_up]; exact h5 q hq hf

/-- the seats of a group are taken, and its place is put to the list -/
theorem fpc_last {w w5 wa w6 : World} {n : Nat} {pk qv : Option Addr} {mk ck mm kv R : Nat} {v8 v6 : Value} {xs ys L : List Int} (hE : FpB w n pk mk ck w5) (hX : OwnArr w5 R 28 [.int .i64 n, .bool false, .slice qv mm kv])
    (hO : Out w.heap.size w5 v8 xs) (hV : Out w.heap.size w5 (.slice qv mm kv) L) (hne : (Value.slice qv mm kv).ownBlock = none ∨ (Value.slice qv mm kv).ownBlock ≠ v8.ownBlock) (hb : Below w5.heap.size w5 wa) (hg : wa.grownBy w6 v8.ownBlock) (hO6 : Out w.heap.size w6 v6 ys) :
    (OwnArr w6 R 28 [.int .i64 n, .bool false, .slice qv mm kv] ∧ OwnArr w6 w.heap.size 28 [.int .i64 n, .bool false, .slice pk mk ck]) ∧
    Hid (Out w.heap.size (((w6.setCell ⟨w.heap.size, 0, none⟩ (.int .i64 n)).setCell ⟨w.heap.size, 1, none⟩ (.bool false)).setCell ⟨w.heap.size, 2, none⟩ (.slice qv mm kv)) v6 ys) ∧
    Hid (FpB w n qv mm kv (((w6.setCell ⟨w.heap.size, 0, none⟩ (.int .i64 n)).setCell ⟨w.heap.size, 1, none⟩ (.bool false)).setCell ⟨w.heap.size, 2, none⟩ (.slice qv mm kv))) ∧
    Hid (∃ lo hi, Ri lo hi (((w6.setCell ⟨w.heap.size, 0, none⟩ (.int .i64 n)).setCell ⟨w.heap.size, 1, none⟩ (.bool false)).setCell ⟨w.heap.size, 2, none⟩ (.slice qv mm kv)) qv L) := by
  have hEa := hE.next hb
  have hXa := hX.below hb hX.lt
  have hOa := hO.below hb
  have hVa := hV.below hb
  have hX6 := hXa.grown hg (own_ne hOa hXa)
  have hR6 := hEa.row.grown hg (own_ne hOa hEa.row)
  have hB6 := hEa.bel.grown hg hEa.bel.size (own_block hOa)
  have hE6 : FpB w n pk mk ck w6 := ⟨hR6, hB6⟩
  have hV6 : Out w.heap.size w6 (.slice qv mm kv) L := World.ownsRow.kept hVa hg hne
  refine ⟨⟨hX6, hR6⟩, Out.boxed hO6 hR6 _ _ _, hE6.turn _ _ _, ?_⟩
  obtain ⟨q', c', e, -, -, hR, -⟩ := (Out.boxed hV6 hR6 (.int .i64 (n : Int)) (.bool false) (.slice qv mm kv)).rd
  simp only [Value.slice.injEq] at e
  obtain ⟨rfl, -⟩ := e
  exact ⟨_, _, hR⟩

set_option maxRecDepth 4000 in
set_option maxHeartbeats 2000000 in
theorem firstPlacingI_any (n : Nat) (p : Option Addr) (cap : Nat) (S : Nat → Bool) (qg : Option Addr) (cg : Nat) (gs : List Int) (d : Int) (w : World) (lo hi lo2 hi2 : Nat)
    (hin : Ri lo hi w p (ints (tk n S))) (hing : Ri lo2 hi2 w qg gs) (hgc : gs.length ≤ cg) (hgm : cg ≤ maxLen) (hd2 : d ≤ 9223372036854775807) (hr : pvB n false (ints (tk n S)) gs d = true) :
    Calls Try.prog 24 #[rowV n false p (ints (tk n S)).length cap, .slice qg gs.length cg, .int .i64 d] w fun e w' => ∃ v, e = .returned (.tuple #[v, .bool (frsP n S d gs).isSome]) ∧ Out w.heap.size w' v (ints ((frsP n S d gs).getD [])) ∧ Below w.heap.size w w' := by
  obtain ⟨g1, g2, -, g4, g5, g6⟩ := pvB_is hr
  have hn : 2 ≤ n ∧ n ≤ 24 := by
    obtain ⟨n', S', e, -, h0, h, -⟩ := rowB_is g2
    have : n = n' := by omega
    omega
  have hlen := ints_tk_len n S
  have hlen := ints_tk_len n S
  have hB := box_below w n false p (ints (tk n S)).length cap 28
  have hE : FpB w n p (ints (tk n S)).length cap (w.alloc (.cells #[.int .i64 n, .bool false, .slice p (ints (tk n S)).length cap] 28)) := ⟨OwnArr.made w _ [_, _, _], hB⟩
  have I := canPlace_any n false p cap (ints (tk n S)) qg cg gs d _ lo hi lo2 hi2 (hin.below hB hin.top) (by omega) (hing.below hB hing.top) (by omega)
  rw [hr] at I
  replace I := Lib.hid I
  have PL := fun (w1 : World) (h' : Below w.heap.size w w1) => countPlacings_any n p cap S qg cg gs d w1 lo hi lo2 hi2 (hin.below h' hin.top) (hing.below h' hing.top) (by omega) hn.2 g5 g6 hd2 g1
  have HRI0 := Lib.hid (fun (w' : World) (h' : Below w.heap.size w w') => hin.below h' hin.top)
  have HGI := Lib.hid (fun (w' : World) (h' : Below w.heap.size w w') => hing.below h' hing.top)
  have HRM := Lib.hid (fun (T : Nat → Bool) (p' : Option Addr) (c' : Nat) (z x : Int) (w' : World) (lo hi : Nat) (h : Ri lo hi w' p' (ints (tk n T))) (hz : 1 ≤ z) (hx : -9223372036854775808 ≤ x ∧ x ≤ 9223372036854775807) => hasRoom_any n p' c' T z d x w' lo hi h hn.2 hz hx)
  have HSG := Lib.hid (fun (T : Nat → Bool) (p' : Option Addr) (c' : Nat) (Z X : Nat) (w' : World) (lo hi : Nat) (h : Ri lo hi w' p' (ints (tk n T))) (hZ : 1 ≤ Z) (hXZ : X + Z ≤ n) => seatGroup_any n p' c' T Z X w' lo hi h hn.1 hn.2 hZ hXZ)
  have HCP := Lib.hid (fun (T : Nat → Bool) (p' : Option Addr) (c' : Nat) (q' : Option Addr) (k' : Nat) (gs' : List Int) (w' : World) (lo hi lo2 hi2 : Nat) (h1 : Ri lo hi w' p' (ints (tk n T))) (h2 : Ri lo2 hi2 w' q' gs') (h3 : gs'.length ≤ 5) (h4 : ∀ g ∈ gs', 1 ≤ g) => countPlacings_any n p' c' T q' k' gs' d w' lo hi lo2 hi2 h1 h2 (by omega) hn.2 h3 g6 hd2 h4)
  have HSTP := Lib.hid (fun (T : Nat → Bool) (Z : Nat) (gs' : List Int) (y : List Nat) (hg : ∀ x ∈ (Z : Int) :: gs', 1 ≤ x) (h : frsP n T d ((Z : Int) :: gs') = some y) => frsP_next g6 hg h)
  have HG1 := Lib.hid g1
  have hn24 := hn.2
  have hfp := frsP_pos (n := n) (S := S) (d := d) (gs := gs)
  obtain ⟨R, hR⟩ : ∃ R, frsP n S d gs = R := ⟨_, rfl⟩
  rw [hR] at hfp ⊢
  obtain ⟨m0, hm0⟩ : ∃ m, (ints (tk n S)).length = m := ⟨_, rfl⟩
  have HM0 := Lib.hid hm0
  rw [hm0] at hE I PL ⊢
  obtain ⟨k, hk⟩ : ∃ m, gs.length = m := ⟨_, rfl⟩
  have HK := Lib.hid hk
  rw [hk] at I PL g4 g5 hgc ⊢
  have HE := Lib.hid hE
  obtain ⟨c0, c1, c2, -⟩ := hE.row.three
  have hk0 : (0 : Int) < (k : Int) := by omega
  unfold maxLen at hgm
  have hcm : cg ≤ 9223372036854775807 := hgm
  cases R with
  | none =>
    have hN : ((cntW n d gs (phiL n S d) : Nat) : Int) = 0 := by
      have : ¬ 0 < cntP n S d gs := by
        intro h
        rw [decide_eq_true h] at hfp
        cases hfp
      have e : cntW n d gs (phiL n S d) = cntP n S d gs := rfl
      omega
    rw [hN] at PL
    replace PL := Lib.hid PL
    clear hin hm0 hlen hB hing hr hk g1 g2 g4 g5 g6 hn hfp hR hE hN HSTP HCP HSG HRM HG1 hgm
    go_enter Try.func24, Try.ntmps24
    go_wp2_with fail
    refine I.out.mono ?_
    rintro e w2 ⟨rfl, hb2⟩
    have HE2 := Lib.hid (HE.out.next hb2)
    clear I hb2 HE c0 c1 c2
    obtain ⟨c0, c1, c2, -⟩ := HE2.out.row.three
    have PL2 := Lib.hid (PL.out _ HE2.out.bel)
    clear PL
    go_wp2_with fail
    refine PL2.out.mono ?_
    rintro e w3 ⟨rfl, hb3⟩
    have HE3 := Lib.hid (HE2.out.next hb3)
    clear PL2 HE2 hb3 c0 c1 c2
    have HN := Lib.hid ((Out.nilLit w3).mono HE3.out.bel.size)
    have HB3 := Lib.hid (HE3.out.bel.alloc HE3.out.bel.size (.cells #[] 3))
    go_wp2_with fail
    go_ret2
    exact ⟨_, rfl, HN.out, HB3.out⟩
  | some Y =>
    obtain ⟨N, hN⟩ : ∃ N, cntW n d gs (phiL n S d) = N := ⟨_, rfl⟩
    have hN0 : ((N : Int) == 0) = false := by
      have : 0 < cntP n S d gs := of_decide_eq_true hfp
      have e : cntW n d gs (phiL n S d) = cntP n S d gs := rfl
      rw [beq_eq_false_iff_ne]
      omega
    rw [hN] at PL
    replace PL := Lib.hid PL
    have HFR0 : Hid (∃ y, frsP n S d (gs.drop 0) = some y ∧ [] ++ y = Y) := ⟨Y, by rw [List.drop_zero]; exact hR, rfl⟩
    clear hin hm0 hlen hB hing hr hk g1 g2 g4 g6 hn hfp hR hE hN hgm
    go_enter Try.func24, Try.ntmps24
    go_wp2_with fail
    refine I.out.mono ?_
    rintro e w2 ⟨rfl, hb2⟩
    have HE2 := Lib.hid (HE.out.next hb2)
    clear I hb2 HE c0 c1 c2
    obtain ⟨c0, c1, c2, -⟩ := HE2.out.row.three
    have PL2 := Lib.hid (PL.out _ HE2.out.bel)
    clear PL
    go_wp2_with fail
    refine PL2.out.mono ?_
    rintro e w3 ⟨rfl, hb3⟩
    have HE3 := Lib.hid (HE2.out.next hb3)
    clear PL2 HE2 hb3 c0 c1 c2
    have HO4 : Hid (Out w.heap.size (w3.alloc (.cells #[] 3)) (.slice (some ⟨w3.heap.size, 0, none⟩) 0 0) (ints [])) := Lib.hid ((Out.nilLit w3).mono HE3.out.bel.size)
    have HE4 := Lib.hid (HE3.out.next ((Below.refl _ w3).alloc (Nat.le_refl _) (.cells #[] 3)))
    have HRI4 : Hid (∃ lo hi, Ri lo hi (w3.alloc (.cells #[] 3)) p (ints (tk n S))) := ⟨_, _, HRI0.out _ HE4.out.bel⟩
    clear HE3 HRI0
    go_wp2_with fail
    go_loopw [8, 9, 10, 11, 12, 29, 36] (fun fv _ _ _ _ iv _ wr => ∃ (i : Nat) (T : Nat → Bool) (out : List Nat) (pk : Option Addr) (mk ck : Nat) (q8 : Option Addr) (l8 c8 : Nat), i ≤ k ∧ iv = .int .i64 (i : Int) ∧ fv = .slice q8 l8 c8 ∧ Hid (out.length = i) ∧ Hid (Out w.heap.size wr (.slice q8 l8 c8) (ints out)) ∧ Hid (∃ y, frsP n T d (gs.drop i) = some y ∧ out ++ y = Y) ∧ Hid ((ints (tk n T)).length = mk) ∧ Hid (FpB w n pk mk ck wr) ∧ Hid (∃ lo hi, Ri lo hi wr pk (ints (tk n T)))) (fun _ _ _ _ _ iv _ _ => k - (intOf iv).toNat)
    case atStart => exact ⟨0, S, [], p, m0, cap, _, _, _, Nat.zero_le _, rfl, rfl, Lib.hid rfl, HO4, HFR0, HM0, HE4, HRI4⟩
    case round =>
      obtain ⟨i, T, out, pk, mk, ck, q8, l8, c8, hi', rfl, rfl, HOL, HO, HFR, HMK, HE, HRI⟩ := hrel
      clear HO4 HFR0 HM0 HE4 HRI4
      obtain ⟨wo, hwo⟩ : ∃ wo, wo = wr := ⟨_, rfl⟩
      subst hwo
      obtain ⟨c0, c1, c2, -⟩ := HE.out.row.three
      by_cases hlt : i < k
      · have hik : (i : Int) < (k : Int) := by omega
        have hi0 : (0 : Int) ≤ (i : Int) := by omega
        have hgl : i < gs.length := by have := HK.out; omega
        obtain ⟨bg, og, rfl, -, -, -, hcg⟩ := (HGI.out wo HE.out.bel).int (by omega)
        have hg := hcg i hgl
        have hzm : gs[i]?.getD 0 ∈ gs := by rw [List.getElem?_eq_getElem hgl]; exact List.getElem_mem hgl
        have hz1 := HG1.out _ hzm
        obtain ⟨y, hy1, hy2⟩ := HFR.out
        rw [drop_cons hgl] at hy1
        have hgall : ∀ x ∈ gs[i]?.getD 0 :: gs.drop (i + 1), 1 ≤ x := by
          intro x hx
          rcases List.mem_cons.1 hx with h | h
          · rw [h]; exact hz1
          · exact HG1.out x (List.mem_of_mem_drop h)
        obtain ⟨Z, hZ⟩ : ∃ Z : Nat, gs[i]?.getD 0 = (Z : Int) := ⟨(gs[i]?.getD 0).toNat, by omega⟩
        rw [hZ] at hg hz1 hy1 hgall
        have hZ1 : 1 ≤ Z := by omega
        obtain ⟨P, y', hPn, hye, hfit, hfrs, hnone⟩ := HSTP.out T Z _ y hgall hy1
        subst hye
        have HFIT := Lib.hid hfit
        have HFRS := Lib.hid hfrs
        have HNONE := Lib.hid hnone
        have HY2 := Lib.hid hy2
        obtain ⟨l1, l2, hri⟩ := HRI.out
        obtain ⟨I1, hI1⟩ : ∃ I, i + 1 = I := ⟨_, rfl⟩
        have hI1i : (i : Int) + 1 = (I1 : Int) := by omega
        have hw1 : IntKind.i64.wrap (I1 : Int) = (I1 : Int) := IntWalk.i64_in _ (by omega)
        have hik2 : (I1 : Int) ≤ (cg : Int) := by omega
        have hik3 : (I1 : Int) ≤ (k : Int) := by omega
        have hik4 : (k : Int) ≤ (cg : Int) := by omega
        have hik5 : (0 : Int) ≤ (I1 : Int) := by omega
        have hgd : (gs.drop I1).length = k - I1 := by rw [List.length_drop, HK.out]
        have hgd5 : (gs.drop I1).length ≤ 5 := by omega
        have hga2 : ∀ g ∈ gs.drop I1, 1 ≤ g := fun g h => HG1.out g (List.mem_of_mem_drop h)
        obtain ⟨U, hU⟩ : ∃ U, (if cg = I1 then some (⟨bg, og, none⟩ : Addr) else some ⟨bg, og + I1, none⟩) = U := ⟨_, rfl⟩
        have HBEH : Hid (∀ w', Below w.heap.size w w' → Ri lo2 hi2 w' U (gs.drop I1)) := by
          show ∀ _, _
          intro w' h'
          rw [← hU]
          exact (HGI.out w' h').behind (k := I1) (cap := cg) (by rw [HK.out]; exact hgc)
        have HRS := Lib.hid (fun (x : Nat) (hx : x ≤ 100) (w' : World) (h' : Below wo.heap.size wo w') => HRM.out T pk ck (Z : Int) (x : Int) w' l1 l2 (hri.bel h') hz1 (by omega))
        have HSS := Lib.hid (fun (x : Nat) (hx : x + Z ≤ n) (w' : World) (h' : Below wo.heap.size wo w') => HSG.out T pk ck Z x w' l1 l2 (hri.bel h') hZ1 hx)
        have HGD := Lib.hid hgd
        rw [hI1] at hfrs hnone
        have HFRS := Lib.hid hfrs
        have HNONE := Lib.hid hnone
        have HGA := Lib.hid hga2
        have HGD5 := Lib.hid hgd5
        have HI1 := Lib.hid hI1
        have HFV : Hid (∀ q : Nat, fitG n T d (Z : Int) (q : Int) = true → q + Z ≤ n) := by
          show ∀ _, _
          intro q h
          have := (fitG_true.1 h).2.1
          omega
        clear hgall hy1 hy2 hfit hfrs hnone hri hI1 hgd hgd5 hga2 hcg hzm hZ HFR HRI
        have HB0 := Lib.hid (Below.refl wo.heap.size wo)
        have HOw := HO
        go_wp2_with fail
        clear c0 c1 c2
        go_loopw [8, 11, 12, 36] (fun fv _ _ xv wx => ∃ x : Nat, x ≤ P ∧ xv = .int .i64 (x : Int) ∧ fv = .slice q8 l8 c8 ∧ Hid (Out w.heap.size wx (.slice q8 l8 c8) (ints out)) ∧ Hid (FpB w n pk mk ck wx) ∧ Hid (Below wo.heap.size wo wx)) (fun _ _ _ xv _ => n - (intOf xv).toNat)
        case atStart => exact ⟨0, Nat.zero_le _, rfl, rfl, HO, HE, HB0⟩
        case round =>
          obtain ⟨x, hx, rfl, rfl, HOx, HEx, HBx⟩ := hrel
          obtain ⟨wx, hwx⟩ : ∃ wx, wx = wr := ⟨_, rfl⟩
          subst hwx
          clear HO HE HB0
          obtain ⟨c0, c1, c2, -⟩ := HEx.out.row.three
          have hxn : (x : Int) < (n : Int) := by omega
          have hwx1 : IntKind.i64.wrap ((x : Int) + 1) = (x : Int) + 1 := IntWalk.i64_in _ (by omega)
          by_cases hxP : x = P
          · have hB : fitG n T d (Z : Int) (x : Int) = true := by rw [hxP]; exact HFIT.out
            have hN2 : 0 < cntP n (upTo T x (x + Z)) d (gs.drop I1) := by
              have h := frsP_pos (n := n) (S := upTo T x (x + Z)) (d := d) (gs := gs.drop I1)
              rw [hxP] at h ⊢
              rw [HFRS.out] at h
              exact of_decide_eq_true h
            subst hxP
            clear hx
            have RM := HRS.out x (by omega) wx HBx.out
            rw [HMK.out, hB] at RM
            replace RM := Lib.hid RM
            have hPZ := HFV.out x hB
            go_wp2_with fail
            refine RM.out.mono ?_
            rintro e w2 ⟨rfl, hb2⟩
            have HE2 := Lib.hid (HEx.out.next hb2)
            have HO2 := Lib.hid (HOx.out.below hb2)
            have HB2 := Lib.hid (HBx.out.trans (hb2.mono HBx.out.size))
            clear hb2 RM HEx HOx HBx c0 c1 c2
            obtain ⟨c0, c1, c2, -⟩ := HE2.out.row.three
            have SG := HSS.out x hPZ w2 HB2.out
            rw [HMK.out] at SG
            replace SG := Lib.hid SG
            go_wp2_with fail
            refine SG.out.mono ?_
            rintro e w3 ⟨v, rfl, hO3, hb3⟩
            have hsep : ∀ j, (Value.slice q8 l8 c8).ownBlock = some j → j < w2.heap.size := fun j h => (World.ownsRow.lt HO2.out j h).2
            have hbk := own_block hO3
            obtain ⟨qv, kv, rfl, -⟩ := hO3.rd
            obtain ⟨mm, hmm⟩ : ∃ mm, (ints (tk n (upTo T x (x + Z)))).length = mm := ⟨_, rfl⟩
            rw [hmm] at hO3 hbk ⊢
            have HNE : Hid ((Value.slice qv mm kv).ownBlock = none ∨ (Value.slice qv mm kv).ownBlock ≠ (Value.slice q8 l8 c8).ownBlock) := by
              show _ ∨ _
              cases h : (Value.slice qv mm kv).ownBlock with
              | none => exact .inl rfl
              | some j =>
                right
                intro h'
                have := hsep j h'.symm
                have := hbk j h
                omega
            obtain ⟨w4, hw4⟩ : ∃ w4, w4 = w3.alloc (.cells #[.int .i64 (n : Int), .bool false, .slice qv mm kv] 28) := ⟨_, rfl⟩
            have hX4 : OwnArr w4 w3.heap.size 28 [.int .i64 (n : Int), .bool false, .slice qv mm kv] := by rw [hw4]; exact OwnArr.made w3 _ [_, _, _]
            have hb34 : Below w3.heap.size w3 w4 := by rw [hw4]; exact (Below.refl _ _).alloc (Nat.le_refl _) _
            have hb24 : Below w2.heap.size w2 w4 := hb3.trans (hb34.mono hb3.size)
            have HE4 := Lib.hid (HE2.out.next hb24)
            have HO4 := Lib.hid (HO2.out.below hb24)
            have HB4 := Lib.hid (HB2.out.trans (hb24.mono HB2.out.size))
            have HV4 := Lib.hid ((hO3.mono HE2.out.bel.size).below hb34)
            have HMM := Lib.hid hmm
            obtain ⟨l3, l4, hR4⟩ : ∃ l3 l4, Ri l3 l4 w4 qv (ints (tk n (upTo T x (x + Z)))) := by
              obtain ⟨q', c', e, -, -, hR, -⟩ := HV4.out.rd
              simp only [Value.slice.injEq] at e
              obtain ⟨rfl, -⟩ := e
              exact ⟨_, _, hR⟩
            have CP := HCP.out (upTo T x (x + Z)) qv kv U (cg - I1) (gs.drop I1) w4.drew l3 l4 lo2 hi2 (hR4.bel ((Below.refl _ w4).drew)) (HBEH.out w4.drew HE4.out.bel.drew) HGD5.out HGA.out
            rw [hmm, HGD.out] at CP
            obtain ⟨N2, hN2'⟩ : ∃ N2, cntW n d (gs.drop I1) (phiL n (upTo T x (x + Z)) d) = N2 := ⟨_, rfl⟩
            have hNp : (0 : Int) < (N2 : Int) := by
              have e : cntW n d (gs.drop I1) (phiL n (upTo T x (x + Z)) d) = cntP n (upTo T x (x + Z)) d (gs.drop I1) := rfl
              omega
            rw [hN2'] at CP
            clear hN2 hN2'
            replace CP := Lib.hid CP
            have HW4 : Hid (w3.alloc (.cells #[.int .i64 (n : Int), .bool false, .slice qv mm kv] 28) = w4) := hw4.symm
            obtain ⟨x0, x1, x2, -⟩ := hX4.three
            have HX4 := Lib.hid hX4
            clear SG HE2 HO2 HB2 hO3 hb3 hsep hbk hmm hw4 hX4 hb34 hb24 hR4 c0 c1 c2
            go_upto_region 12 with fail
            rw [HW4.out]
            by_cases hci : cg = I1
            · rw [if_pos hci] at hU
              subst hU
              have hci2 : (cg = I1) = True := eq_true hci
              have hcz : cg - I1 = 0 := by omega
              rw [hcz] at CP
              clear hci
              go_still_tail 6, (by kernel_rfl)
              change wpList _ _ _ _ _ w4.drew
              go_wp2_with fail
              refine CP.out.mono ?_
              rintro e w5 ⟨rfl, hb5⟩
              have hb45 : Below w4.heap.size w4 w5 := ((Below.refl _ w4).drew).trans hb5
              have HE5 := Lib.hid (HE4.out.next hb45)
              have HO5 := Lib.hid (HO4.out.below hb45)
              have HB5 := Lib.hid (HB4.out.trans (hb45.mono HB4.out.size))
              have HV5 := Lib.hid (HV4.out.below hb45)
              have HX5 := Lib.hid (HX4.out.below hb45 HX4.out.lt)
              try clear hci2 hcz
              clear hb5 hb45 CP HE4 HO4 HB4 HV4 HX4 HW4 x0 x1 x2
              obtain ⟨c0, c1, c2, f0, f1, f2⟩ := HE5.out.row.three
              obtain ⟨x0, x1, x2, -⟩ := HX5.out.three
              have RWC : Hid (∀ w', Below w5.heap.size w5 w' → w'.cell? ⟨w3.heap.size, 0, none⟩ = some (.int .i64 (n : Int)) ∧ w'.cell? ⟨w3.heap.size, 1, none⟩ = some (.bool false) ∧ w'.cell? ⟨w3.heap.size, 2, none⟩ = some (.slice qv mm kv)) := fun w' h' => by
                obtain ⟨a0, a1, a2, -⟩ := (HX5.out.below h' HX5.out.lt).three
                exact ⟨a0, a1, a2⟩
              have hba : Below w5.heap.size w5 (w5.alloc (.cells #[.int .i64 (x : Int)] 3)).drew := ((Below.refl _ _).alloc (Nat.le_refl _) _).drew
              obtain ⟨y0, y1, y2⟩ := RWC.out (w5.alloc (.cells #[.int .i64 (x : Int)] 3)) ((Below.refl _ _).alloc (Nat.le_refl _) _)
              have HOa := Lib.hid (HO5.out.below hba)
              have HBa := Lib.hid hba
              have HLa : Hid (Ri 0 (w5.heap.size + 1) (w5.alloc (.cells #[.int .i64 (x : Int)] 3)).drew (some ⟨w5.heap.size, 0, none⟩) [(x : Int)]) := lit_one ((OwnArr.made w5 _ [_]).drew) _ (Nat.lt_succ_self _) (by simp)
              have HSa : Hid (w.heap.size ≤ (w5.alloc (.cells #[.int .i64 (x : Int)] 3)).drew.heap.size) := by
                have := HE5.out.bel.size
                show _ ≤ (w5.alloc _).heap.size
                rw [World.size_alloc]; omega
              have hl6 : (ints out).length + 1 ≤ 100000 := by rw [ints_lenP, HOL.out]; omega
              have HLST : Hid (∀ v6 w6, Out w.heap.size w6 v6 (ints (out ++ [x])) → (w5.alloc (.cells #[.int .i64 (x : Int)] 3)).drew.grownBy w6 (Value.slice q8 l8 c8).ownBlock → _) := fun v6 w6 h1 h2 => fpc_last HE5.out HX5.out HO5.out HV5.out HNE.out HBa.out h2 h1
              have HSN : Hid (ints out ++ [(x : Int)] = ints (out ++ [x])) := (ints_snocP out x).symm
              have HOL2 : Hid ((out ++ [x]).length = i + 1) := by show _ = _; rw [List.length_append, HOL.out]; rfl
              have HL1 : Hid ((ints (out ++ [x])).length = i + 1) := by show _ = _; rw [ints_lenP]; exact HOL2.out
              have HFR7 : Hid (∃ y, frsP n (upTo T x (x + Z)) d (gs.drop (i + 1)) = some y ∧ (out ++ [x]) ++ y = Y) := ⟨y', by rw [HI1.out]; exact HFRS.out, by rw [List.append_assoc]; exact HY2.out⟩
              clear hba
              go_wp2_with fail
              go_region_law (first
                | (refine step_app rfl (.tmp 57) (.tmp 59) rfl w.heap.size (.slice q8 l8 c8) (ints out) (by simp [Act.eval, Act.put]) HOa.out _ 1 1 0 (w5.heap.size + 1) [(x : Int)] (by simp [Act.eval, Act.put]) HLa.out rfl hl6 HSa.out ?_; intro v6 w6 hO6 hg6 hn6; rw [HSN.out] at hO6; obtain ⟨⟨hX6, hR6⟩, HO7, HE7, HRI7⟩ := HLST.out v6 w6 hO6 hg6; obtain ⟨x3, x4, x5, -⟩ := hX6.three; obtain ⟨b0, b1, b2, b3, b4, b5⟩ := hR6.three; obtain ⟨q6, c6, e6, -⟩ := hO6.rd; rw [HL1.out] at e6; rw [e6] at HO7 ⊢; clear hO6 hg6 hn6 hX6 hR6 e6))
              all_goals
                clear HSN HL1 HE5 HO5 HB5 HV5 HX5 HOa HBa HLa HSa HLST RWC x0 x1 x2 y0 y1 y2 x3 x4 x5 c0 c1 c2 f0 f1 f2 b0 b1 b2 b3 b4 b5
                go_wp2_with fail
                go_roundw
                case rel => exact ⟨i + 1, upTo T x (x + Z), out ++ [x], qv, mm, kv, q6, i + 1, c6, by omega, by go_num, rfl, HOL2, HO7, HFR7, HMM, HE7, HRI7⟩
                case measure => simp [intOf]; omega
            · rw [if_neg hci] at hU
              subst hU
              go_still_tail 6, (by kernel_rfl)
              change wpList _ _ _ _ _ w4.drew
              go_wp2_with fail
              refine CP.out.mono ?_
              rintro e w5 ⟨rfl, hb5⟩
              have hb45 : Below w4.heap.size w4 w5 := ((Below.refl _ w4).drew).trans hb5
              have HE5 := Lib.hid (HE4.out.next hb45)
              have HO5 := Lib.hid (HO4.out.below hb45)
              have HB5 := Lib.hid (HB4.out.trans (hb45.mono HB4.out.size))
              have HV5 := Lib.hid (HV4.out.below hb45)
              have HX5 := Lib.hid (HX4.out.below hb45 HX4.out.lt)
              try clear hci2 hcz
              clear hb5 hb45 CP HE4 HO4 HB4 HV4 HX4 HW4 x0 x1 x2
              obtain ⟨c0, c1, c2, f0, f1, f2⟩ := HE5.out.row.three
              obtain ⟨x0, x1, x2, -⟩ := HX5.out.three
              have RWC : Hid (∀ w', Below w5.heap.size w5 w' → w'.cell? ⟨w3.heap.size, 0, none⟩ = some (.int .i64 (n : Int)) ∧ w'.cell? ⟨w3.heap.size, 1, none⟩ = some (.bool false) ∧ w'.cell? ⟨w3.heap.size, 2, none⟩ = some (.slice qv mm kv)) := fun w' h' => by
                obtain ⟨a0, a1, a2, -⟩ := (HX5.out.below h' HX5.out.lt).three
                exact ⟨a0, a1, a2⟩
              have hba : Below w5.heap.size w5 (w5.alloc (.cells #[.int .i64 (x : Int)] 3)).drew := ((Below.refl _ _).alloc (Nat.le_refl _) _).drew
              obtain ⟨y0, y1, y2⟩ := RWC.out (w5.alloc (.cells #[.int .i64 (x : Int)] 3)) ((Below.refl _ _).alloc (Nat.le_refl _) _)
              have HOa := Lib.hid (HO5.out.below hba)
              have HBa := Lib.hid hba
              have HLa : Hid (Ri 0 (w5.heap.size + 1) (w5.alloc (.cells #[.int .i64 (x : Int)] 3)).drew (some ⟨w5.heap.size, 0, none⟩) [(x : Int)]) := lit_one ((OwnArr.made w5 _ [_]).drew) _ (Nat.lt_succ_self _) (by simp)
              have HSa : Hid (w.heap.size ≤ (w5.alloc (.cells #[.int .i64 (x : Int)] 3)).drew.heap.size) := by
                have := HE5.out.bel.size
                show _ ≤ (w5.alloc _).heap.size
                rw [World.size_alloc]; omega
              have hl6 : (ints out).length + 1 ≤ 100000 := by rw [ints_lenP, HOL.out]; omega
              have HLST : Hid (∀ v6 w6, Out w.heap.size w6 v6 (ints (out ++ [x])) → (w5.alloc (.cells #[.int .i64 (x : Int)] 3)).drew.grownBy w6 (Value.slice q8 l8 c8).ownBlock → _) := fun v6 w6 h1 h2 => fpc_last HE5.out HX5.out HO5.out HV5.out HNE.out HBa.out h2 h1
              have HSN : Hid (ints out ++ [(x : Int)] = ints (out ++ [x])) := (ints_snocP out x).symm
              have HOL2 : Hid ((out ++ [x]).length = i + 1) := by show _ = _; rw [List.length_append, HOL.out]; rfl
              have HL1 : Hid ((ints (out ++ [x])).length = i + 1) := by show _ = _; rw [ints_lenP]; exact HOL2.out
              have HFR7 : Hid (∃ y, frsP n (upTo T x (x + Z)) d (gs.drop (i + 1)) = some y ∧ (out ++ [x]) ++ y = Y) := ⟨y', by rw [HI1.out]; exact HFRS.out, by rw [List.append_assoc]; exact HY2.out⟩
              clear hba
              go_wp2_with fail
              go_region_law (first
                | (refine step_app rfl (.tmp 57) (.tmp 59) rfl w.heap.size (.slice q8 l8 c8) (ints out) (by simp [Act.eval, Act.put]) HOa.out _ 1 1 0 (w5.heap.size + 1) [(x : Int)] (by simp [Act.eval, Act.put]) HLa.out rfl hl6 HSa.out ?_; intro v6 w6 hO6 hg6 hn6; rw [HSN.out] at hO6; obtain ⟨⟨hX6, hR6⟩, HO7, HE7, HRI7⟩ := HLST.out v6 w6 hO6 hg6; obtain ⟨x3, x4, x5, -⟩ := hX6.three; obtain ⟨b0, b1, b2, b3, b4, b5⟩ := hR6.three; obtain ⟨q6, c6, e6, -⟩ := hO6.rd; rw [HL1.out] at e6; rw [e6] at HO7 ⊢; clear hO6 hg6 hn6 hX6 hR6 e6))
              all_goals
                clear HSN HL1 HE5 HO5 HB5 HV5 HX5 HOa HBa HLa HSa HLST RWC x0 x1 x2 y0 y1 y2 x3 x4 x5 c0 c1 c2 f0 f1 f2 b0 b1 b2 b3 b4 b5
                go_wp2_with fail
                go_roundw
                case rel => exact ⟨i + 1, upTo T x (x + Z), out ++ [x], qv, mm, kv, q6, i + 1, c6, by omega, by go_num, rfl, HOL2, HO7, HFR7, HMM, HE7, HRI7⟩
                case measure => simp [intOf]; omega
          · have hxlt : x < P := by omega
            clear hxP
            cases hB : fitG n T d (Z : Int) (x : Int) with
            | false =>
              have RM := HRS.out x (by omega) wx HBx.out
              rw [HMK.out, hB] at RM
              replace RM := Lib.hid RM
              clear hB
              go_wp2_with fail
              refine RM.out.mono ?_
              rintro e w2 ⟨rfl, hb2⟩
              have HE2 := Lib.hid (HEx.out.next hb2)
              have HO2 := Lib.hid (HOx.out.below hb2)
              have HB2 := Lib.hid (HBx.out.trans (hb2.mono HBx.out.size))
              clear hb2 RM HEx HOx HBx c0 c1 c2
              go_wp2_with fail
              go_roundw
              case rel => exact ⟨x + 1, by omega, by go_num, rfl, HO2, HE2, HB2⟩
              case measure => simp [intOf]; omega
            | true =>
              have hN2 := HNONE.out x hxlt hB
              have RM := HRS.out x (by omega) wx HBx.out
              rw [HMK.out, hB] at RM
              replace RM := Lib.hid RM
              have hPZ := HFV.out x hB
              go_wp2_with fail
              refine RM.out.mono ?_
              rintro e w2 ⟨rfl, hb2⟩
              have HE2 := Lib.hid (HEx.out.next hb2)
              have HO2 := Lib.hid (HOx.out.below hb2)
              have HB2 := Lib.hid (HBx.out.trans (hb2.mono HBx.out.size))
              clear hb2 RM HEx HOx HBx c0 c1 c2
              obtain ⟨c0, c1, c2, -⟩ := HE2.out.row.three
              have SG := HSS.out x hPZ w2 HB2.out
              rw [HMK.out] at SG
              replace SG := Lib.hid SG
              go_wp2_with fail
              refine SG.out.mono ?_
              rintro e w3 ⟨v, rfl, hO3, hb3⟩
              have hsep : ∀ j, (Value.slice q8 l8 c8).ownBlock = some j → j < w2.heap.size := fun j h => (World.ownsRow.lt HO2.out j h).2
              have hbk := own_block hO3
              obtain ⟨qv, kv, rfl, -⟩ := hO3.rd
              obtain ⟨mm, hmm⟩ : ∃ mm, (ints (tk n (upTo T x (x + Z)))).length = mm := ⟨_, rfl⟩
              rw [hmm] at hO3 hbk ⊢
              have HNE : Hid ((Value.slice qv mm kv).ownBlock = none ∨ (Value.slice qv mm kv).ownBlock ≠ (Value.slice q8 l8 c8).ownBlock) := by
                show _ ∨ _
                cases h : (Value.slice qv mm kv).ownBlock with
                | none => exact .inl rfl
                | some j =>
                  right
                  intro h'
                  have := hsep j h'.symm
                  have := hbk j h
                  omega
              obtain ⟨w4, hw4⟩ : ∃ w4, w4 = w3.alloc (.cells #[.int .i64 (n : Int), .bool false, .slice qv mm kv] 28) := ⟨_, rfl⟩
              have hX4 : OwnArr w4 w3.heap.size 28 [.int .i64 (n : Int), .bool false, .slice qv mm kv] := by rw [hw4]; exact OwnArr.made w3 _ [_, _, _]
              have hb34 : Below w3.heap.size w3 w4 := by rw [hw4]; exact (Below.refl _ _).alloc (Nat.le_refl _) _
              have hb24 : Below w2.heap.size w2 w4 := hb3.trans (hb34.mono hb3.size)
              have HE4 := Lib.hid (HE2.out.next hb24)
              have HO4 := Lib.hid (HO2.out.below hb24)
              have HB4 := Lib.hid (HB2.out.trans (hb24.mono HB2.out.size))
              have HV4 := Lib.hid ((hO3.mono HE2.out.bel.size).below hb34)
              have HMM := Lib.hid hmm
              obtain ⟨l3, l4, hR4⟩ : ∃ l3 l4, Ri l3 l4 w4 qv (ints (tk n (upTo T x (x + Z)))) := by
                obtain ⟨q', c', e, -, -, hR, -⟩ := HV4.out.rd
                simp only [Value.slice.injEq] at e
                obtain ⟨rfl, -⟩ := e
                exact ⟨_, _, hR⟩
              have CP := HCP.out (upTo T x (x + Z)) qv kv U (cg - I1) (gs.drop I1) w4.drew l3 l4 lo2 hi2 (hR4.bel ((Below.refl _ w4).drew)) (HBEH.out w4.drew HE4.out.bel.drew) HGD5.out HGA.out
              rw [hmm, HGD.out] at CP
              obtain ⟨N2, hN2'⟩ : ∃ N2, cntW n d (gs.drop I1) (phiL n (upTo T x (x + Z)) d) = N2 := ⟨_, rfl⟩
              have hNp : ¬ (0 : Int) < (N2 : Int) := by
                have e : cntW n d (gs.drop I1) (phiL n (upTo T x (x + Z)) d) = cntP n (upTo T x (x + Z)) d (gs.drop I1) := rfl
                omega
              rw [hN2'] at CP
              clear hN2 hN2'
              replace CP := Lib.hid CP
              have HW4 : Hid (w3.alloc (.cells #[.int .i64 (n : Int), .bool false, .slice qv mm kv] 28) = w4) := hw4.symm
              obtain ⟨x0, x1, x2, -⟩ := hX4.three
              have HX4 := Lib.hid hX4
              clear SG HE2 HO2 HB2 hO3 hb3 hsep hbk hmm hw4 hX4 hb34 hb24 hR4 c0 c1 c2
              go_upto_region 12 with fail
              rw [HW4.out]
              by_cases hci : cg = I1
              · rw [if_pos hci] at hU
                subst hU
                have hci2 : (cg = I1) = True := eq_true hci
                have hcz : cg - I1 = 0 := by omega
                rw [hcz] at CP
                clear hci
                go_still_tail 6, (by kernel_rfl)
                change wpList _ _ _ _ _ w4.drew
                go_wp2_with fail
                refine CP.out.mono ?_
                rintro e w5 ⟨rfl, hb5⟩
                have hb45 : Below w4.heap.size w4 w5 := ((Below.refl _ w4).drew).trans hb5
                have HE5 := Lib.hid (HE4.out.next hb45)
                have HO5 := Lib.hid (HO4.out.below hb45)
                have HB5 := Lib.hid (HB4.out.trans (hb45.mono HB4.out.size))
                have HV5 := Lib.hid (HV4.out.below hb45)
                have HX5 := Lib.hid (HX4.out.below hb45 HX4.out.lt)
                try clear hci2 hcz
                clear hb5 hb45 CP HE4 HO4 HB4 HV4 HX4 HW4 x0 x1 x2
                go_wp2_with fail
                go_roundw
                case rel => exact ⟨x + 1, by omega, by go_num, rfl, HO5, HE5, HB5⟩
                case measure => simp [intOf]; omega
              · rw [if_neg hci] at hU
                subst hU
                go_still_tail 6, (by kernel_rfl)
                change wpList _ _ _ _ _ w4.drew
                go_wp2_with fail
                refine CP.out.mono ?_
                rintro e w5 ⟨rfl, hb5⟩
                have hb45 : Below w4.heap.size w4 w5 := ((Below.refl _ w4).drew).trans hb5
                have HE5 := Lib.hid (HE4.out.next hb45)
                have HO5 := Lib.hid (HO4.out.below hb45)
                have HB5 := Lib.hid (HB4.out.trans (hb45.mono HB4.out.size))
                have HV5 := Lib.hid (HV4.out.below hb45)
                have HX5 := Lib.hid (HX4.out.below hb45 HX4.out.lt)
                try clear hci2 hcz
                clear hb5 hb45 CP HE4 HO4 HB4 HV4 HX4 HW4 x0 x1 x2
                go_wp2_with fail
                go_roundw
                case rel => exact ⟨x + 1, by omega, by go_num, rfl, HO5, HE5, HB5⟩
                case measure => simp [intOf]; omega
      · have hik : i = k := by omega
        subst hik
        have hii : ¬ (i : Int) < (i : Int) := by omega
        obtain ⟨y, hy1, hy2⟩ := HFR.out
        rw [List.drop_of_length_le (Nat.le_of_eq HK.out)] at hy1
        have hy3 : y = [] := List.length_eq_zero_iff.1 (frsM_len hy1)
        rw [hy3, List.append_nil] at hy2
        rw [hy2] at HO
        have HBL := Lib.hid HE.out.bel
        clear hy1 hy2 hy3 HFR
        go_wp2_with fail
        go_ret2
        exact ⟨_, rfl, HO.out, HBL.out⟩
end Go.Proofs.Ytogdiahojbonaaa

