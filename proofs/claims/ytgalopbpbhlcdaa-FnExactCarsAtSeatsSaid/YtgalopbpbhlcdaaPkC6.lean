/- Chapter 6, spec side: spec.ParkCars, ParkBack. -/
import Derived.Test.YtgalopbpbhlcdaaPkS6
namespace Go.Proofs.Ytgalopbpbhlcdaa
open Go.RowKit

theorem results_tmp_cell_tmp {fn : Func} {p u t : Tmp} {ty : TypeId} (h : fn.results = #[.tmp u, .cell p ty, .tmp t]) (tmps : Array Value) (P : Program) (w : World) :
    (results fn tmps).run P w = ((asAddr (tmps.getD p undef)).run P w).andThen fun a w₁ => ((loadVar ty a).run P w₁).andThen fun v w₂ => .ok (.tuple #[tmps.getD u undef, v, tmps.getD t undef]) w₂ := by
  simp only [results, h]
  simp [Sem.run_bind, Result.andThen]
theorem ret_row5 {fn : Func} {R : Ending → World → Prop} {a : Act} {w : World} {p u t : Tmp} {b : Nat} {x y z : Value} {v v' : Value} (h : fn.results = #[.tmp u, .cell p 26, .tmp t]) (hp : a.tmps.getD p undef = .pointer (some ⟨b, 0, none⟩)) (hu : a.tmps.getD u undef = v) (ht : a.tmps.getD t undef = v')
    (ho : OwnArr w b 26 [x, y, z]) (hd : a.defers = []) (hR : R (.returned (.tuple #[v, .agg #[x, y, z], v'])) w) : bodyPost Try.prog fn R .ret a w := by
  refine bodyPost_ret (v := .tuple #[v, .agg #[x, y, z], v']) ?_ hd hR
  rw [results_tmp_cell_tmp h, hp, hu, ht]
  simp only [asAddr, Sem.run_pure, Result.andThen]
  rw [load_row ho]
/-- what a function that parks cars gives -/
def MadePk (w : World) (s : Int) (ring : Bool) (L T : List Int) (B : Bool) (e : Ending) (w' : World) : Prop :=
  ∃ v0 v1, e = .returned (.tuple #[v0, .agg #[.int .i64 s, .bool ring, v1], .bool B]) ∧ Out w.heap.size w' v0 L ∧ Out w.heap.size w' v1 T ∧ Below w.heap.size w w'

set_option maxRecDepth 4000 in
set_option maxHeartbeats 1600000 in
theorem parkCarsS_bad (s : Int) (ring : Bool) (p : Option Addr) (cap : Nat) (xs : List Int) (q : Option Addr) (c : Nat) (cs : List Int) (w : World) (lo hi lo2 hi2 : Nat) (hin : Ri lo hi w p xs) (hlen : xs.length ≤ 1048576) (hin2 : Ri lo2 hi2 w q cs) (hlen2 : cs.length ≤ 1048576) (h : carsB s ring xs cs = false) :
    Calls Try.prog 10 #[rowV s ring p xs.length cap, .slice q cs.length c] w (MadePk w 0 false [] [] false) := by
  have hE := Beg.start w s ring p xs.length cap
  have CB := fun (w' : World) (h' : Below w.heap.size w w') => l6Cars_any s ring p cap xs q c cs w' lo hi lo2 hi2 (hin.below h' hin.top) hlen (hin2.below h' hin2.top) hlen2
  obtain ⟨wb, hwb⟩ : ∃ wb, (w.alloc (.cells #[Value.int .i64 s, Value.bool ring, Value.slice p xs.length cap] 26)).alloc (.cells #[Value.int .i64 0, Value.bool false, Value.slice none 0 0] 26) = wb := ⟨_, rfl⟩
  rw [hwb] at hE
  obtain ⟨m0, hm0⟩ : ∃ m, xs.length = m := ⟨_, rfl⟩
  obtain ⟨m, hm⟩ : ∃ m, cs.length = m := ⟨_, rfl⟩
  rw [hm0] at hE CB hwb ⊢
  rw [hm] at CB ⊢
  have HE := Lib.hid hE
  have HW := Lib.hid hwb
  unfold MadePk
  clear hin hin2 hE hwb hm0 hm
  rw [h] at CB
  replace CB := Lib.hid CB
  clear h
  obtain ⟨c0, c1, c2, -⟩ := HE.out.row.three
  go_enter Try.func10, Try.ntmps10
  go_upto_region 1 with fail
  rw [HW.out]
  go_wp2_with fail
  refine (CB.out _ HE.out.bel).mono ?_
  rintro e w1 ⟨rfl, hb1⟩
  have HE1 := Lib.hid (HE.out.next hb1)
  have HE2 := Lib.hid (HE1.out.next (ext1 w1 E0))
  have HN := Lib.hid ((Out.nilLit w1).mono HE1.out.bel.size)
  clear hb1 c0 c1 c2 CB
  obtain ⟨z0, z1, z2, y0, y1, y2⟩ := HE2.out.res.three
  go_wp2_with fail
  exact ret_row5 Try.results10 rfl rfl rfl (HE2.out.out _ _ _).1 rfl ⟨_, _, rfl, HN.out.boxed HE2.out.res _ _ _, Out.none _ _, (HE2.out.out _ _ _).2⟩

set_option maxRecDepth 4000 in
set_option maxHeartbeats 1600000 in
theorem parkCarsS_any (n : Nat) (ring : Bool) (p : Option Addr) (cap : Nat) (S : Nat → Bool) (q : Option Addr) (c : Nat) (l : List Nat) (w : World) (lo hi lo2 hi2 : Nat) (hin : Ri lo hi w p (ints (tk n S))) (h2 : 2 ≤ n) (hn : n ≤ 24) (hin2 : Ri lo2 hi2 w q (ints l)) (hl : ∀ x ∈ l, x < n) (hll : l.length ≤ 12) (hc : carsB n ring (ints (tk n S)) (ints l) = true) :
    Calls Try.prog 10 #[rowV n ring p (ints (tk n S)).length cap, .slice q (ints l).length c] w (MadePk w n ring (pkM n ring 0 S l l.length) (ints (tk n (stM n ring 0 S l l.length))) true) := by
  have hlen := ints_tk_len n S
  have hE := Beg.start w n ring p (ints (tk n S)).length cap
  have CB := fun (w' : World) (h' : Below w.heap.size w w') => l6Cars_any n ring p cap (ints (tk n S)) q c (ints l) w' lo hi lo2 hi2 (hin.below h' hin.top) (by omega) (hin2.below h' hin2.top) (by rw [ints_length]; omega)
  have PK := fun (w' : World) (h' : Below w.heap.size w w') => l6Park_any n ring p cap S q c l 0 w' lo hi lo2 hi2 (hin.below h' hin.top) h2 hn (hin2.below h' hin2.top) hl hll (by omega)
  rw [hc] at CB
  obtain ⟨wb, hwb⟩ : ∃ wb, (w.alloc (.cells #[Value.int .i64 n, Value.bool ring, Value.slice p (ints (tk n S)).length cap] 26)).alloc (.cells #[Value.int .i64 0, Value.bool false, Value.slice none 0 0] 26) = wb := ⟨_, rfl⟩
  rw [hwb] at hE
  obtain ⟨L, hL⟩ : ∃ L, pkM n ring 0 S l l.length = L := ⟨_, rfl⟩
  obtain ⟨T, hT⟩ : ∃ T, ints (tk n (stM n ring 0 S l l.length)) = T := ⟨_, rfl⟩
  rw [hL, hT] at PK ⊢
  obtain ⟨tl, htl⟩ : ∃ tl, T.length = tl := ⟨_, rfl⟩
  have HTL := Lib.hid htl
  obtain ⟨m0, hm0⟩ : ∃ m, (ints (tk n S)).length = m := ⟨_, rfl⟩
  obtain ⟨m, hm⟩ : ∃ m, (ints l).length = m := ⟨_, rfl⟩
  rw [hm0] at hE CB PK hwb ⊢
  rw [hm] at CB PK ⊢
  have HE := Lib.hid hE
  have HW := Lib.hid hwb
  replace CB := Lib.hid CB
  replace PK := Lib.hid PK
  unfold MadePk
  clear hin hin2 hE hwb hm0 hm hL hT hc hl hll hlen htl
  obtain ⟨c0, c1, c2, -⟩ := HE.out.row.three
  go_enter Try.func10, Try.ntmps10
  go_upto_region 1 with fail
  rw [HW.out]
  go_wp2_with fail
  refine (CB.out _ HE.out.bel).mono ?_
  rintro e w1 ⟨rfl, hb1⟩
  have HE1 := Lib.hid (HE.out.next hb1)
  clear hb1 c0 c1 c2 CB HE HW
  obtain ⟨c0, c1, c2, -⟩ := HE1.out.row.three
  go_wp2_with fail
  refine (PK.out _ HE1.out.bel).mono ?_
  rintro e w2 ⟨v, u, rfl, hO, hU, hb2⟩
  obtain ⟨qu, cu, rfl, -⟩ := hU.rd
  rw [HTL.out] at hU ⊢
  have HE2 := Lib.hid ((HE1.out.next hb2).next (ext1 w2 (.cells #[.int .i64 (n : Int), .bool ring, .slice qu tl cu] 26)))
  have HX := Lib.hid (OwnArr.made w2 26 [.int .i64 (n : Int), .bool ring, .slice qu tl cu])
  have HO := Lib.hid (World.ownsRow.alloc (hO.mono HE1.out.bel.size) (.cells #[.int .i64 (n : Int), .bool ring, .slice qu tl cu] 26))
  have HU := Lib.hid (World.ownsRow.alloc (hU.mono HE1.out.bel.size) (.cells #[.int .i64 (n : Int), .bool ring, .slice qu tl cu] 26))
  clear hb2 c0 c1 c2 PK HE1 hO hU
  obtain ⟨x0, x1, x2, -⟩ := HX.out.three
  obtain ⟨z0, z1, z2, y0, y1, y2⟩ := HE2.out.res.three
  go_wp2_with fail
  go_region
  all_goals
    go_wp2_with fail
    exact ret_row5 Try.results10 rfl rfl rfl (HE2.out.out _ _ _).1 rfl ⟨_, _, rfl, Out.boxed HO.out HE2.out.res _ _ _, Out.boxed HU.out HE2.out.res _ _ _, (HE2.out.out _ _ _).2.drew⟩

set_option maxRecDepth 4000 in
set_option maxHeartbeats 1600000 in
theorem parkBackS_bad (s : Int) (ring : Bool) (p : Option Addr) (cap : Nat) (xs : List Int) (q : Option Addr) (c : Nat) (cs : List Int) (k : Int) (w : World) (lo hi lo2 hi2 : Nat) (hin : Ri lo hi w p xs) (hlen : xs.length ≤ 1048576) (hin2 : Ri lo2 hi2 w q cs) (hlen2 : cs.length ≤ 1048576) (h : (carsB s ring xs cs && (decide (0 ≤ k) && decide (k ≤ 24))) = false) :
    Calls Try.prog 20 #[rowV s ring p xs.length cap, .slice q cs.length c, .int .i64 k] w (MadePk w 0 false [] [] false) := by
  have hE := Beg.start w s ring p xs.length cap
  have CB := fun (w' : World) (h' : Below w.heap.size w w') => l6Cars_any s ring p cap xs q c cs w' lo hi lo2 hi2 (hin.below h' hin.top) hlen (hin2.below h' hin2.top) hlen2
  obtain ⟨wb, hwb⟩ : ∃ wb, (w.alloc (.cells #[Value.int .i64 s, Value.bool ring, Value.slice p xs.length cap] 26)).alloc (.cells #[Value.int .i64 0, Value.bool false, Value.slice none 0 0] 26) = wb := ⟨_, rfl⟩
  rw [hwb] at hE
  obtain ⟨m0, hm0⟩ : ∃ m, xs.length = m := ⟨_, rfl⟩
  obtain ⟨m, hm⟩ : ∃ m, cs.length = m := ⟨_, rfl⟩
  rw [hm0] at hE CB hwb ⊢
  rw [hm] at CB ⊢
  have HE := Lib.hid hE
  have HW := Lib.hid hwb
  unfold MadePk
  clear hin hin2 hE hwb hm0 hm
  cases hg : carsB s ring xs cs with
  | false =>
    rw [hg] at CB
    replace CB := Lib.hid CB
    clear h hg
    obtain ⟨c0, c1, c2, -⟩ := HE.out.row.three
    go_enter Try.func20, Try.ntmps20
    go_upto_region 1 with fail
    rw [HW.out]
    go_wp2_with fail
    refine (CB.out _ HE.out.bel).mono ?_
    rintro e w1 ⟨rfl, hb1⟩
    have HE1 := Lib.hid (HE.out.next hb1)
    have HE2 := Lib.hid (HE1.out.next (ext1 w1 E0))
    have HN := Lib.hid ((Out.nilLit w1).mono HE1.out.bel.size)
    clear hb1 c0 c1 c2 CB
    obtain ⟨z0, z1, z2, y0, y1, y2⟩ := HE2.out.res.three
    go_wp2_with fail
    exact ret_row5 Try.results20 rfl rfl rfl (HE2.out.out _ _ _).1 rfl ⟨_, _, rfl, HN.out.boxed HE2.out.res _ _ _, Out.none _ _, (HE2.out.out _ _ _).2⟩
  | true =>
    rw [hg] at CB h
    rw [Bool.true_and] at h
    have IN := fun w' => l1In_any k 0 24 w'
    rw [h] at IN
    replace IN := Lib.hid IN
    replace CB := Lib.hid CB
    clear h hg
    obtain ⟨c0, c1, c2, -⟩ := HE.out.row.three
    go_enter Try.func20, Try.ntmps20
    go_upto_region 1 with fail
    rw [HW.out]
    go_wp2_with fail
    refine (CB.out _ HE.out.bel).mono ?_
    rintro e w1 ⟨rfl, hb1⟩
    have HE1 := Lib.hid (HE.out.next hb1)
    have HE2 := Lib.hid (HE1.out.next (ext1 w1 E0))
    have HN := Lib.hid ((Out.nilLit w1).mono HE1.out.bel.size)
    clear hb1 c0 c1 c2 CB
    go_wp2_with fail
    refine (IN.out _).mono ?_
    rintro e w3 ⟨rfl, rfl⟩
    obtain ⟨z0, z1, z2, y0, y1, y2⟩ := HE2.out.res.three
    go_wp2_with fail
    exact ret_row5 Try.results20 rfl rfl rfl (HE2.out.out _ _ _).1 rfl ⟨_, _, rfl, HN.out.boxed HE2.out.res _ _ _, Out.none _ _, (HE2.out.out _ _ _).2⟩

set_option maxRecDepth 4000 in
set_option maxHeartbeats 1600000 in
theorem parkBackS_any (n : Nat) (ring : Bool) (p : Option Addr) (cap : Nat) (S : Nat → Bool) (q : Option Addr) (c : Nat) (l : List Nat) (kk : Nat) (w : World) (lo hi lo2 hi2 : Nat) (hin : Ri lo hi w p (ints (tk n S))) (h2 : 2 ≤ n) (hn : n ≤ 24) (hin2 : Ri lo2 hi2 w q (ints l)) (hl : ∀ x ∈ l, x < n) (hll : l.length ≤ 12) (hkk : kk ≤ 24) (hc : carsB n ring (ints (tk n S)) (ints l) = true) :
    Calls Try.prog 20 #[rowV n ring p (ints (tk n S)).length cap, .slice q (ints l).length c, .int .i64 (kk : Nat)] w (MadePk w n ring (pkM n ring kk S l l.length) (ints (tk n (stM n ring kk S l l.length))) true) := by
  have hlen := ints_tk_len n S
  have hE := Beg.start w n ring p (ints (tk n S)).length cap
  have CB := fun (w' : World) (h' : Below w.heap.size w w') => l6Cars_any n ring p cap (ints (tk n S)) q c (ints l) w' lo hi lo2 hi2 (hin.below h' hin.top) (by omega) (hin2.below h' hin2.top) (by rw [ints_length]; omega)
  have PK := fun (w' : World) (h' : Below w.heap.size w w') => l6Park_any n ring p cap S q c l kk w' lo hi lo2 hi2 (hin.below h' hin.top) h2 hn (hin2.below h' hin2.top) hl hll (by omega)
  rw [hc] at CB
  have IN := fun w' => l1In_any (kk : Int) 0 24 w'
  have hC : (decide (0 ≤ (kk : Int)) && decide ((kk : Int) ≤ 24)) = true := by simp; omega
  rw [hC] at IN
  replace IN := Lib.hid IN
  clear hC
  obtain ⟨wb, hwb⟩ : ∃ wb, (w.alloc (.cells #[Value.int .i64 n, Value.bool ring, Value.slice p (ints (tk n S)).length cap] 26)).alloc (.cells #[Value.int .i64 0, Value.bool false, Value.slice none 0 0] 26) = wb := ⟨_, rfl⟩
  rw [hwb] at hE
  obtain ⟨L, hL⟩ : ∃ L, pkM n ring kk S l l.length = L := ⟨_, rfl⟩
  obtain ⟨T, hT⟩ : ∃ T, ints (tk n (stM n ring kk S l l.length)) = T := ⟨_, rfl⟩
  rw [hL, hT] at PK ⊢
  obtain ⟨tl, htl⟩ : ∃ tl, T.length = tl := ⟨_, rfl⟩
  have HTL := Lib.hid htl
  obtain ⟨m0, hm0⟩ : ∃ m, (ints (tk n S)).length = m := ⟨_, rfl⟩
  obtain ⟨m, hm⟩ : ∃ m, (ints l).length = m := ⟨_, rfl⟩
  rw [hm0] at hE CB PK hwb ⊢
  rw [hm] at CB PK ⊢
  have HE := Lib.hid hE
  have HW := Lib.hid hwb
  replace CB := Lib.hid CB
  replace PK := Lib.hid PK
  unfold MadePk
  clear hin hin2 hE hwb hm0 hm hL hT hc hl hll hlen htl
  obtain ⟨c0, c1, c2, -⟩ := HE.out.row.three
  go_enter Try.func20, Try.ntmps20
  go_upto_region 1 with fail
  rw [HW.out]
  go_wp2_with fail
  refine (CB.out _ HE.out.bel).mono ?_
  rintro e w1 ⟨rfl, hb1⟩
  have HE1 := Lib.hid (HE.out.next hb1)
  clear hb1 c0 c1 c2 CB HE HW
  obtain ⟨c0, c1, c2, -⟩ := HE1.out.row.three
  go_wp2_with fail
  refine (IN.out _).mono ?_
  rintro e w3 ⟨rfl, rfl⟩
  go_wp2_with fail
  refine (PK.out _ HE1.out.bel).mono ?_
  rintro e w2 ⟨v, u, rfl, hO, hU, hb2⟩
  obtain ⟨qu, cu, rfl, -⟩ := hU.rd
  rw [HTL.out] at hU ⊢
  have HE2 := Lib.hid ((HE1.out.next hb2).next (ext1 w2 (.cells #[.int .i64 (n : Int), .bool ring, .slice qu tl cu] 26)))
  have HX := Lib.hid (OwnArr.made w2 26 [.int .i64 (n : Int), .bool ring, .slice qu tl cu])
  have HO := Lib.hid (World.ownsRow.alloc (hO.mono HE1.out.bel.size) (.cells #[.int .i64 (n : Int), .bool ring, .slice qu tl cu] 26))
  have HU := Lib.hid (World.ownsRow.alloc (hU.mono HE1.out.bel.size) (.cells #[.int .i64 (n : Int), .bool ring, .slice qu tl cu] 26))
  clear hb2 c0 c1 c2 PK HE1 hO hU
  obtain ⟨x0, x1, x2, -⟩ := HX.out.three
  obtain ⟨z0, z1, z2, y0, y1, y2⟩ := HE2.out.res.three
  go_wp2_with fail
  go_region
  all_goals
    go_wp2_with fail
    exact ret_row5 Try.results20 rfl rfl rfl (HE2.out.out _ _ _).1 rfl ⟨_, _, rfl, Out.boxed HO.out HE2.out.res _ _ _, Out.boxed HU.out HE2.out.res _ _ _, (HE2.out.out _ _ _).2.drew⟩
end Go.Proofs.Ytgalopbpbhlcdaa
