/- The laws' own helpers on Rows: szRow, toRow, eqRow, markRow, heldRow. -/
import Derived.Test.YtoedcklgpmhnnaaInts
import Derived.Laws.ResultCell
namespace Go.Proofs.Ytoedcklgpmhnnaa
open Go.RowKit

/-- a Row as a value -/
abbrev rowV (s : Int) (ring : Bool) (p : Option Addr) (n cap : Nat) : Value := .agg #[.int .i64 s, .bool ring, .slice p n cap]

set_option maxHeartbeats 400000 in
theorem szRow_any (s : Int) (ring : Bool) (p : Option Addr) (n cap : Nat) (w : World) (hn : n ≤ 9223372036854775807) :
    Calls Try.prog 9 #[rowV s ring p n cap, .int .i64 1048576] w fun e w' => e = .returned (.int .i64 (if n ≤ 1048576 then 1048576 - (n : Int) else -1)) ∧ Below w.heap.size w w' := by
  by_cases h : n ≤ 1048576
  · have h' : ¬ (1048576 - (n : Int) < 0) := by omega
    go_enter Try.func9, Try.ntmps9
    go_wp2_with fail
    refine (szI_any p cap n _ hn).mono ?_
    rintro e w1 ⟨rfl, rfl⟩
    rw [if_pos h]
    go_wp2_with fail
    go_ret
    exact ⟨rfl, (Below.refl _ _).alloc (Nat.le_refl _) _⟩
  · go_enter Try.func9, Try.ntmps9
    go_wp2_with fail
    refine (szI_any p cap n _ hn).mono ?_
    rintro e w1 ⟨rfl, rfl⟩
    rw [if_neg h]
    go_wp2_with fail
    go_ret
    exact ⟨rfl, (Below.refl _ _).alloc (Nat.le_refl _) _⟩

theorem OwnArr.three {w : World} {b : Nat} {e : TypeId} {x y z : Value} (h : OwnArr w b e [x, y, z]) :
    w.cell? ⟨b, 0, none⟩ = some x ∧ w.cell? ⟨b, 1, none⟩ = some y ∧ w.cell? ⟨b, 2, none⟩ = some z ∧ w.frozen? ⟨b, 0, none⟩ = false ∧ w.frozen? ⟨b, 1, none⟩ = false ∧ w.frozen? ⟨b, 2, none⟩ = false :=
  ⟨h.cell 0, h.cell 1, h.cell 2, h.free 0, h.free 1, h.free 2⟩
/-- a block just made, by the number that the walk gives it -/
theorem OwnArr.mk' {w : World} {n : Nat} {e : TypeId} {C : Array Value} {xs : List Value} (hC : C = xs.toArray) (hn : n = w.heap.size) : OwnArr (w.alloc (.cells C e)) n e xs := by
  subst hn; subst hC; exact OwnArr.made w e xs

theorem OwnArr.other {w : World} {b : Nat} {e : TypeId} {xs : List Value} (h : OwnArr w b e xs) {a : Addr} (ha : b ≠ a.block) (v : Value) : OwnArr (w.setCell a v) b e xs := by
  unfold OwnArr at *
  rw [Below.heap_setCell _ _ _ _ ha]; exact h

theorem load_row {w : World} {b : Nat} {x y z : Value} (h : OwnArr w b 28 [x, y, z]) :
    (loadVar 28 ⟨b, 0, none⟩).run Try.prog w = .ok (.agg #[x, y, z]) w := by
  obtain ⟨c0, c1, c2, _⟩ := h.three
  simp [go_sem, c0, c1, c2]
theorem results_cell {fn : Func} {p : Tmp} {ty : TypeId} (h : fn.results = #[.cell p ty]) (tmps : Array Value) (P : Program) (w : World) :
    (results fn tmps).run P w = ((asAddr (tmps.getD p undef)).run P w).andThen fun a w₁ => (loadVar ty a).run P w₁ := by
  simp only [results, h]
  simp [Sem.run_bind, Result.andThen]
/-- a function whose one result is a Row that lies in a box -/
theorem ret_row {fn : Func} {R : Ending → World → Prop} {a : Act} {w : World} {p : Tmp} {b : Nat} {x y z : Value} (h : fn.results = #[.cell p 28]) (hp : a.tmps.getD p undef = .pointer (some ⟨b, 0, none⟩))
    (ho : OwnArr w b 28 [x, y, z]) (hd : a.defers = []) (hR : R (.returned (.agg #[x, y, z])) w) : bodyPost Try.prog fn R .ret a w := by
  refine bodyPost_ret (v := .agg #[x, y, z]) ?_ hd hR
  rw [results_cell h, hp]
  simp only [asAddr, Sem.run_pure, Result.andThen]
  exact load_row ho
/-- .. and whose two results are a Row that lies in a box, and a flag -/
theorem ret_row2 {fn : Func} {R : Ending → World → Prop} {a : Act} {w : World} {p u : Tmp} {b : Nat} {x y z : Value} {v : Value} (h : fn.results = #[.cell p 28, .tmp u]) (hp : a.tmps.getD p undef = .pointer (some ⟨b, 0, none⟩)) (hu : a.tmps.getD u undef = v)
    (ho : OwnArr w b 28 [x, y, z]) (hd : a.defers = []) (hR : R (.returned (.tuple #[.agg #[x, y, z], v])) w) : bodyPost Try.prog fn R .ret a w := by
  refine bodyPost_ret (v := .tuple #[.agg #[x, y, z], v]) ?_ hd hR
  rw [results_cell_tmp h, hp, hu]
  simp only [asAddr, Sem.run_pure, Result.andThen]
  rw [load_row ho]

set_option maxHeartbeats 400000 in
theorem toRow_any (s : Int) (ring : Bool) (p : Option Addr) (cap : Nat) (xs : List Int) (w : World) (lo hi : Nat) (hin : Ri lo hi w p xs) (hreach : xs.length ≤ 1048576) :
    Calls Try.prog 11 #[rowV s ring p xs.length cap] w fun e w' => ∃ b, w.heap.size ≤ b ∧ b < w'.heap.size ∧ e = .returned (rowV s ring (some ⟨b, 0, none⟩) xs.length xs.length) ∧ OwnArr w' b 3 (iv xs) ∧ Below w.heap.size w w' := by
  go_enter Try.func11, Try.ntmps11
  go_wp2_with fail
  refine (toI_any p cap xs _ lo hi (((hin.bel ((Below.refl _ _).alloc (Nat.le_refl _) _)).bel ((Below.refl _ _).alloc (Nat.le_refl _) _)).bel ((Below.refl _ _).alloc (Nat.le_refl _) _)) hreach).mono ?_
  rintro e w4 ⟨b, hb1, hb2, rfl, ho, hbl⟩
  have B3 : OwnArr w4 (w.heap.size + 1 + 1) 28 [.int .i64 s, .bool ring, .slice none 0 0] := OwnArr.below (OwnArr.mk' rfl (by simp)) hbl (by simp)
  have B2 : OwnArr w4 (w.heap.size + 1) 28 [.int .i64 0, .bool false, .slice none 0 0] := OwnArr.below (OwnArr.alloc (OwnArr.mk' rfl (by simp)) _) hbl (by simp)
  obtain ⟨c0, c1, c2, f0, f1, f2⟩ := B3.three
  obtain ⟨d0, d1, d2, g0, g1, g2⟩ := B2.three
  have hx0 : Below w.heap.size w w4 := (((Below.refl _ _).alloc (Nat.le_refl _) _).alloc (by simp) _ |>.alloc (by simp; omega) _).trans (hbl.mono (by simp; omega))
  have hx := (hx0.setCell (p := ⟨w.heap.size + 1 + 1, 2, none⟩) (by show _ ≤ w.heap.size + 1 + 1; omega) (.slice (some ⟨b, 0, none⟩) xs.length xs.length))
  have hb1' : w.heap.size + 1 + 1 + 1 ≤ b := by simpa using hb1
  have HO := Lib.hid (ho.other (a := ⟨w.heap.size + 1 + 1, 2, none⟩) (by show b ≠ w.heap.size + 1 + 1; omega) (.slice (some ⟨b, 0, none⟩) xs.length xs.length))
  have HB := Lib.hid (B2.other (a := ⟨w.heap.size + 1 + 1, 2, none⟩) (by show w.heap.size + 1 ≠ w.heap.size + 1 + 1; omega) (.slice (some ⟨b, 0, none⟩) xs.length xs.length))
  have HX := Lib.hid hx
  clear B2 B3 ho hbl hx hx0
  go_wp2_with fail
  refine ret_row Try.results11 rfl (((HB.out.set 0 _).set 1 _).set 2 _) rfl ⟨b, by omega, by simpa [World.setCell] using hb2, rfl, ?_, ?_⟩
  · exact ((HO.out.other (by show b ≠ w.heap.size + 1; omega) _).other (by show b ≠ w.heap.size + 1; omega) _).other (by show b ≠ w.heap.size + 1; omega) _
  · exact ((HX.out.setCell (by show _ ≤ w.heap.size + 1; omega) _).setCell (by show _ ≤ w.heap.size + 1; omega) _).setCell (by show _ ≤ w.heap.size + 1; omega) _

set_option maxHeartbeats 400000 in
theorem eqRow_same (s : Int) (ring : Bool) (p p' : Option Addr) (cap cap' : Nat) (xs : List Int) (w : World) (lo hi lo' hi' : Nat) (hin : Ri lo hi w p xs) (hin' : Ri lo' hi' w p' xs) (hlen : xs.length ≤ 9223372036854775807) :
    Calls Try.prog 14 #[rowV s ring p xs.length cap, rowV s ring p' xs.length cap'] w fun e w' => e = .returned (.bool true) ∧ Below w.heap.size w w' := by
  go_enter Try.func14, Try.ntmps14
  go_wp2_with fail
  have hb0 : Below w.heap.size w ((w.alloc (.cells #[Value.int .i64 s, Value.bool ring, Value.slice p xs.length cap] 28)).alloc (.cells #[Value.int .i64 s, Value.bool ring, Value.slice p' xs.length cap'] 28)) := ((Below.refl _ _).alloc (Nat.le_refl _) _).alloc (by simp) _
  refine (eqI_same p p' cap cap' xs _ lo hi lo' hi' (hin.bel hb0) (hin'.bel hb0) hlen).mono ?_
  rintro e w2 ⟨rfl, hb2⟩
  go_wp2_with fail
  go_ret
  exact ⟨rfl, hb0.trans (hb2.mono hb0.size)⟩

set_option maxHeartbeats 400000 in
theorem markRow_any (s : Int) (ring : Bool) (p : Option Addr) (lo hi n cap k : Nat) (w : World) (ho : Own lo hi w 3 p n) (h1 : k + n ≤ 10000000) :
    Calls Try.prog 20 #[rowV s ring p n cap, .int .i64 (k : Int)] w fun e w' => e = .returned (.int .i64 ((k + n : Nat) : Int)) ∧ Ri lo hi w' p (mk k n) ∧ Own lo hi w' 3 p n ∧ Keep lo hi w w' := by
  go_enter Try.func20, Try.ntmps20
  go_wp2_with fail
  have hb : Below w.heap.size w (w.alloc (.cells #[Value.int .i64 s, Value.bool ring, Value.slice p n cap] 28)) := (Below.refl _ _).alloc (Nat.le_refl _) _
  refine (markI_any p lo hi n cap k _ (ho.bel hb) h1).mono ?_
  rintro e w2 ⟨rfl, hr, ho2, hk⟩
  obtain ⟨c, hc⟩ : ∃ c, k + n = c := ⟨_, rfl⟩
  rw [hc]
  go_wp2_with fail
  go_ret
  subst hc
  exact ⟨rfl, hr, ho2, (Below.keep hb).trans hk⟩
end Go.Proofs.Ytoedcklgpmhnnaa
