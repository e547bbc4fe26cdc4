/- Chapter 9, impl side: impl.canSpace, impl.spacingOf. -/
import Derived.Test.YtoedcklgpmhnnaaSpcI9
import Derived.Test.YtoedcklgpmhnnaaFiltF
namespace Go.Proofs.Ytoedcklgpmhnnaa
open Go.RowKit

theorem canSpace_any (s : Int) (ring : Bool) (p : Option Addr) (cap : Nat) (xs : List Int) (d : Int) (w : World) (lo hi : Nat) (hin : Ri lo hi w p xs) (hlen : xs.length ≤ 1048576) :
    Calls Try.prog 33 #[rowV s ring p xs.length cap, .int .i64 d] w fun e w' => e = .returned (.bool (rowB s ring xs && decide (1 ≤ d))) ∧ Below w.heap.size w w' := by
  have hB := box_below w s ring p xs.length cap 28
  have I := Lib.hid (isRow_any s ring p cap xs _ lo hi (hin.below hB hin.top) hlen)
  obtain ⟨RB, hRB⟩ : ∃ RB, rowB s ring xs = RB := ⟨_, rfl⟩
  rw [hRB] at I ⊢
  obtain ⟨m0, hm0⟩ : ∃ m, xs.length = m := ⟨_, rfl⟩
  rw [hm0] at hB I ⊢
  have HB := Lib.hid hB
  clear hin hm0 hlen hRB hB
  cases RB with
  | false =>
    go_enter Try.func33, Try.ntmps33
    go_wp2_with fail
    refine I.out.mono ?_
    rintro e w2 ⟨rfl, hb2⟩
    have HB2 := Lib.hid (HB.out.trans (hb2.mono HB.out.size))
    clear hb2 I
    go_wp2_with fail
    go_ret
    exact ⟨rfl, HB2.out⟩
  | true =>
    go_enter Try.func33, Try.ntmps33
    go_wp2_with fail
    refine I.out.mono ?_
    rintro e w2 ⟨rfl, hb2⟩
    have HB2 := Lib.hid (HB.out.trans (hb2.mono HB.out.size))
    clear hb2 I
    go_wp2_with fail
    go_ret
    exact ⟨ret_bool (by simp), HB2.out⟩

set_option maxHeartbeats 800000 in
theorem freeI9_any (n : Nat) (ring : Bool) (p : Option Addr) (cap : Nat) (S : Nat → Bool) (w : World) (lo hi' : Nat) (hin : Ri lo hi' w p (ints (tk n S))) (h2 : 2 ≤ n) (hn : n ≤ 24) (h3 : ring = true → 3 ≤ n) :
    Calls Try.prog 62 #[rowV n ring p (ints (tk n S)).length cap] w fun e w' => ∃ v, e = .returned (.tuple #[v, .bool true]) ∧ Out w.heap.size w' v (ints (tk n fun q => !S q)) ∧ Below w.heap.size w w' := by
  have hlen := ints_tk_len n S
  have hb := box_below w n ring p (ints (tk n S)).length cap 28
  have R := seatsFree_any n ring p cap S (fun q => !S q) _ lo hi' (hin.below hb hin.top) h2 hn h3 (fun k hk w' hb' => by
    have := isFree_any n ring p cap (ints (tk n S)) k w' lo hi' ((hin.below hb hin.top).bel hb') (by omega)
    rw [has_tk hk] at this
    exact this)
  replace R := Lib.hid R
  have HB := Lib.hid hb
  clear hb hin
  go_enter Try.func62, Try.ntmps62
  go_wp2_with fail
  refine R.out.mono ?_
  rintro e w1 ⟨v, rfl, hO, hb1⟩
  have HO := Lib.hid (hO.mono (by have := HB.out.size; omega : w.heap.size ≤ _))
  clear hO
  go_wp2_with fail
  go_ret2
  exact ⟨v, rfl, HO.out, HB.out.trans (hb1.mono HB.out.size)⟩

theorem load_spc {w : World} {b : Nat} {x y z u v : Value} (h : OwnArr w b 49 [x, y, z, u, v]) :
    (loadVar 49 ⟨b, 0, none⟩).run Try.prog w = .ok (.agg #[x, y, z, u, v]) w := by
  obtain ⟨c0, c1, c2, c3, c4⟩ := h.five
  simp [go_sem, c0, c1, c2, c3, c4]
/-- a function whose one result is a spacing that lies in a box -/
theorem ret_spc {fn : Func} {R : Ending → World → Prop} {a : Act} {w : World} {p : Tmp} {b : Nat} {x y z u v : Value} (h : fn.results = #[.cell p 49]) (hp : a.tmps.getD p undef = .pointer (some ⟨b, 0, none⟩))
    (ho : OwnArr w b 49 [x, y, z, u, v]) (hd : a.defers = []) (hR : R (.returned (.agg #[x, y, z, u, v])) w) : bodyPost Try.prog fn R .ret a w := by
  refine bodyPost_ret (v := .agg #[x, y, z, u, v]) ?_ hd hR
  rw [results_cell h, hp]
  simp only [asAddr, Sem.run_pure, Result.andThen]
  exact load_spc ho
theorem own_ne9 {B : Nat} {w : World} {v : Value} {xs : List Int} {R : Nat} {ys : List Value} (h : Out B w v xs) (hR : OwnArr w R 49 ys) : ¬ v.ownBlock = some R := by
  intro e
  rcases h.2 with ⟨hv, _⟩ | ⟨g, cap, cur, hv, _, hh, _⟩
  · subst hv; simp [Value.ownBlock] at e
  · subst hv
    simp only [Value.ownBlock, Option.some.injEq] at e
    subst e
    unfold OwnArr at hR
    rw [hR] at hh
    simp only [Option.some.injEq, Obj.cells.injEq] at hh
    exact absurd hh.2.1 (by decide)

/-- the free seats that are far enough from the first taken ones -/
def opL (n : Nat) (ring : Bool) (S : Nat → Bool) (D j : Nat) : List Nat := tk n fun q => !S q && ((tk n S).take j).all fun t => decide (D ≤ gapM n ring q t)
theorem opL_zero (n : Nat) (ring : Bool) (S : Nat → Bool) (D : Nat) : opL n ring S D 0 = tk n fun q => !S q := by
  unfold opL
  apply tk_congr
  intro k _
  simp
theorem opL_succ {n : Nat} {ring : Bool} {S : Nat → Bool} {D j : Nat} (hj : j < (tk n S).length) : restM n ring D ((tk n S)[j]?.getD 0) (opL n ring S D j) = opL n ring S D (j + 1) := by
  have e : ∀ P Q : Nat → Bool, (tk n P).filter Q = tk n fun q => Q q && P q := by
    intro P Q
    unfold tk
    rw [List.filter_filter]
  unfold restM opL
  rw [e]
  apply tk_congr
  intro q _
  rw [List.take_succ_eq_append_getElem hj, List.all_append, List.getElem?_eq_getElem hj]
  simp only [Option.getD_some, List.all_cons, List.all_nil, Bool.and_true]
  have hg := gapM_comm n ring (tk n S)[j] q
  simp only [hg]
  cases decide (D ≤ gapM n ring q (tk n S)[j]) <;> simp
theorem opL_all {n : Nat} {ring : Bool} {S : Nat → Bool} {D j : Nat} (hj : (tk n S).length ≤ j) : opL n ring S D j = opn n ring S D := by
  unfold opL opn
  apply tk_congr
  intro q _
  rw [List.take_of_length_le hj]
  rfl

/-- a spacing's box that is made: the one that goes out, the one that is worked on -/
structure SpB (w : World) (n : Nat) (ring : Bool) (p : Option Addr) (m cap D : Nat) (q : Option Addr) (k c : Nat) (wr : World) : Prop where
  row : OwnArr wr w.heap.size 28 [.int .i64 n, .bool ring, .slice p m cap]
  res : OwnArr wr (w.heap.size + 1) 49 [.int .i64 0, .bool false, .slice none 0 0, .int .i64 0, .slice none 0 0]
  box : OwnArr wr (w.heap.size + 1 + 1) 49 [.int .i64 n, .bool ring, .slice p m cap, .int .i64 D, .slice q k c]
  bel : Below w.heap.size w wr
theorem SpB.next {w : World} {n : Nat} {ring : Bool} {p : Option Addr} {m cap D : Nat} {q : Option Addr} {k c : Nat} {wr w' : World} (h : SpB w n ring p m cap D q k c wr) (hb : Below wr.heap.size wr w') : SpB w n ring p m cap D q k c w' :=
  ⟨h.row.below hb h.row.lt, h.res.below hb h.res.lt, h.box.below hb h.box.lt, h.bel.trans (hb.mono h.bel.size)⟩
theorem SpB.turn {w : World} {n : Nat} {ring : Bool} {p : Option Addr} {m cap D : Nat} {q : Option Addr} {k c : Nat} {wr : World} (h : SpB w n ring p m cap D q k c wr) (q' : Option Addr) (k' c' : Nat) : SpB w n ring p m cap D q' k' c' (wr.setCell ⟨w.heap.size + 1 + 1, 4, none⟩ (.slice q' k' c')) :=
  ⟨h.row.other (by show w.heap.size ≠ w.heap.size + 1 + 1; omega) _, h.res.other (by show w.heap.size + 1 ≠ w.heap.size + 1 + 1; omega) _, h.box.set 4 _, h.bel.setCell (by show _ ≤ w.heap.size + 1 + 1; omega) _⟩

set_option maxRecDepth 4000 in
set_option maxHeartbeats 2000000 in
theorem spacingOf_any (n : Nat) (ring : Bool) (p : Option Addr) (cap : Nat) (S : Nat → Bool) (D : Nat) (w : World) (lo hi : Nat) (hin : Ri lo hi w p (ints (tk n S))) (h2 : 2 ≤ n) (hn : n ≤ 24) (h3 : ring = true → 3 ≤ n) :
    Calls Try.prog 34 #[rowV n ring p (ints (tk n S)).length cap, .int .i64 D] w fun e w' => ∃ v, e = .returned (.agg #[.int .i64 n, .bool ring, .slice p (ints (tk n S)).length cap, .int .i64 D, v]) ∧ Out w.heap.size w' v (ints (opn n ring S D)) ∧ Below w.heap.size w w' := by
  have hlen := ints_tk_len n S
  have FR := Lib.hid (fun (w' : World) (h' : Below w.heap.size w w') => freeI9_any n ring p cap S w' lo hi (hin.below h' hin.top) h2 hn h3)
  have HI := Lib.hid (fun (w' : World) (h' : Below w.heap.size w w') => hin.below h' hin.top)
  have HE0 : Hid (SpB w n ring p (ints (tk n S)).length cap D none 0 0 (((w.alloc (.cells #[.int .i64 n, .bool ring, .slice p (ints (tk n S)).length cap] 28)).alloc (.cells #[.int .i64 0, .bool false, .slice none 0 0, .int .i64 0, .slice none 0 0] 49)).alloc (.cells #[.int .i64 n, .bool ring, .slice p (ints (tk n S)).length cap, .int .i64 D, .slice none 0 0] 49))) :=
    ⟨((OwnArr.made w _ [_, _, _]).alloc _).alloc _, (OwnArr.mk' rfl (by simp)).alloc _, OwnArr.mk' rfl (by simp), (((Below.refl _ _).alloc (Nat.le_refl _) _).alloc (by simp) _).alloc (by simp; omega) _⟩
  have hll := ints_length (tk n S)
  obtain ⟨m, hm⟩ : ∃ m, (ints (tk n S)).length = m := ⟨_, rfl⟩
  rw [hm] at HE0 FR hll hlen ⊢
  have HM := Lib.hid hll
  have hm24 : m ≤ 24 := by omega
  clear hin hm hlen hll
  go_enter Try.func34, Try.ntmps34
  go_wp2_with fail
  refine (FR.out _ HE0.out.bel).mono ?_
  rintro e w1 ⟨v, rfl, hO, hb1⟩
  have HE1 := Lib.hid (HE0.out.next hb1)
  obtain ⟨qv, kv, rfl, -⟩ := hO.rd
  rw [← opL_zero n ring S D] at hO
  have HO1 := Lib.hid (hO.mono HE0.out.bel.size)
  obtain ⟨d0, d1, d2, d3, d4⟩ := HE1.out.box.five
  obtain ⟨f0, f1, f2, f3, f4⟩ := HE1.out.box.five'
  obtain ⟨c0, c1, c2, -⟩ := HE1.out.row.three
  obtain ⟨l0, hl0⟩ : ∃ k, (ints (tk n fun q => !S q)).length = k := ⟨_, rfl⟩
  rw [hl0]
  have HL0 : Hid ((ints (opL n ring S D 0)).length = l0) := by show _ = _; rw [opL_zero]; exact hl0
  have hs1 := HE1.out.box.lt
  have HE2 := Lib.hid (HE1.out.turn qv l0 kv)
  have ho2 := HO1.out.other (a := ⟨w.heap.size + 1 + 1, 4, none⟩) (own_ne9 HO1.out HE1.out.box) (.slice qv l0 kv)
  rw [HL0.out] at ho2
  have HO2 := Lib.hid ho2
  obtain ⟨e0, e1, e2, -⟩ := HE2.out.row.three
  clear ho2 hl0 hO hb1 HO1 HE1 HE0
  go_wp2_with fail
  clear c0 c1 c2 d0 d1 d2 d3 d4 f0 f1 f2 f3 f4 e0 e1 e2
  go_loopw [7, 20] (fun _ i wr => ∃ (j : Nat) (q : Option Addr) (k c : Nat), j ≤ m ∧ i = .int .i64 (j : Int) ∧ Hid ((ints (opL n ring S D j)).length = k) ∧ Hid (SpB w n ring p m cap D q k c wr) ∧ Hid (Out w.heap.size wr (.slice q k c) (ints (opL n ring S D j)))) (fun _ i _ => m - (intOf i).toNat)
  case atStart => exact ⟨0, qv, l0, kv, Nat.zero_le _, rfl, HL0, HE2, HO2⟩
  case round =>
    obtain ⟨j, q, k, c, hj, rfl, HLK, HE, HO⟩ := hrel
    clear HE2 HO2 HL0
    obtain ⟨d0, d1, d2, d3, d4⟩ := HE.out.box.five
    by_cases hlt : j < m
    · have hj1 : (j : Int) < (m : Int) := by omega
      have hj0 : (0 : Int) ≤ (j : Int) := by omega
      have hjl : j < (tk n S).length := by have := HM.out; omega
      obtain ⟨b, off, rfl, -, -, hbw, hc⟩ := (HI.out wr HE.out.bel).int (by rw [ints_length]; omega)
      have h0 := hc j (by rw [ints_length]; exact hjl)
      rw [ints_get hjl] at h0
      have hxn := (mem_tk.1 (nat_mem hjl)).1
      have hst := opL_succ (n := n) (ring := ring) (S := S) (D := D) hjl
      obtain ⟨x, hx⟩ : ∃ x, (tk n S)[j]?.getD 0 = x := ⟨_, rfl⟩
      rw [hx] at h0 hxn hst
      obtain ⟨q', c', e, -, -, hR, -⟩ := HO.out.rd
      simp only [Value.slice.injEq] at e
      obtain ⟨rfl, -, rfl⟩ := e
      have AF := apartFrom_any n ring (some ⟨b, off, none⟩) m cap D q k c x q c (opL n ring S D j) wr _ _ hR (fun y hy => (mem_tk.1 hy).1) (Nat.le_trans (tk_length_le n _) hn) hn hxn
      rw [hst] at AF
      have hlk := HLK.out
      rw [ints_length] at hlk
      rw [hlk] at AF
      replace AF := Lib.hid AF
      have hs1 := HE.out.box.lt
      clear hc hbw hx hst hR hlk
      go_wp2_with fail
      refine AF.out.mono ?_
      rintro e w2 ⟨v, rfl, hO3, hb2⟩
      have HE3 := Lib.hid (HE.out.next hb2)
      obtain ⟨q3, k3, rfl, -⟩ := hO3.rd
      have HO3 := Lib.hid (hO3.mono (by omega : w.heap.size ≤ _))
      obtain ⟨l3, hl3⟩ : ∃ k, (ints (opL n ring S D (j + 1))).length = k := ⟨_, rfl⟩
      rw [hl3]
      have HL3 := Lib.hid hl3
      obtain ⟨f0, f1, f2, f3, f4⟩ := HE3.out.box.five'
      obtain ⟨e0, e1, e2, e3, e4⟩ := HE3.out.box.five
      have HE4 := Lib.hid (HE3.out.turn q3 l3 k3)
      have ho4 := HO3.out.other (a := ⟨w.heap.size + 1 + 1, 4, none⟩) (own_ne9 HO3.out HE3.out.box) (.slice q3 l3 k3)
      rw [HL3.out] at ho4
      have HO4 := Lib.hid ho4
      clear ho4 hl3 hO3 hb2 HO3 HE3 HE HO AF d0 d1 d2 d3 d4 h0
      go_wp2_with fail
      go_roundw
      case rel => exact ⟨j + 1, q3, l3, k3, by omega, by go_num, HL3, HE4, HO4⟩
      case measure => simp [intOf]; omega
    · have hjk : j = m := by omega
      subst hjk
      have ho := HO.out
      have hlk := HLK.out
      rw [opL_all (Nat.le_of_eq HM.out.symm)] at ho hlk
      have HO2 := Lib.hid ho
      obtain ⟨z0, z1, z2, z3, z4⟩ := HE.out.res.five
      obtain ⟨y0, y1, y2, y3, y4⟩ := HE.out.res.five'
      clear ho hlk HO HLK
      go_wp2_with fail
      refine ret_spc Try.results34 rfl (((((HE.out.res.set 0 _).set 1 _).set 2 _).set 3 _).set 4 _) rfl ⟨_, rfl, ?_, ?_⟩
      · have hne := own_ne9 HO2.out HE.out.res
        exact ((((HO2.out.other (a := ⟨w.heap.size + 1, 0, none⟩) hne _).other (a := ⟨w.heap.size + 1, 1, none⟩) hne _).other (a := ⟨w.heap.size + 1, 2, none⟩) hne _).other (a := ⟨w.heap.size + 1, 3, none⟩) hne _).other (a := ⟨w.heap.size + 1, 4, none⟩) hne _
      · exact ((((HE.out.bel.setCell (by show _ ≤ w.heap.size + 1; omega) _).setCell (by show _ ≤ w.heap.size + 1; omega) _).setCell (by show _ ≤ w.heap.size + 1; omega) _).setCell (by show _ ≤ w.heap.size + 1; omega) _).setCell (by show _ ≤ w.heap.size + 1; omega) _
end Go.Proofs.Ytoedcklgpmhnnaa
