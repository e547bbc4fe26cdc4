/- impl.places: arrays that tell of each of twelve seats whether it is taken. -/
import Derived.Test.YtidiljnonbkpjaaFill
import Derived.Test.YtidiljnonbkpjaaRowOf
import Derived.Test.YtidiljnonbkpjaaNe
import Derived.Laws.Rows
import Derived.Deep.MidRow
import Derived.Deep.RegionHeld3
import Derived.Deep.DeepCutAuto
namespace Go.Proofs.Ytidiljnonbkpjaa
open Go.RowKit

theorem lt_of_cellP {w : World} {a : Addr} {v : Value} (h : w.cell? a = some v) : a.block < w.heap.size := by
  rcases Nat.lt_or_ge a.block w.heap.size with h' | h'
  · exact h'
  · simp [World.cell?, Array.getElem?_eq_none h'] at h
theorem cell_allocP {w : World} {b i : Nat} {v : Value} {o : Obj} (h : w.cell? ⟨b, i, none⟩ = some v) : (w.alloc o).cell? ⟨b, i, none⟩ = some v := by
  have hb : b < w.heap.size := lt_of_cellP h
  rw [World.cell?_alloc_past (w := w) _ b _ hb]; exact h
theorem cell_setP {w : World} {b i : Nat} {v : Value} {a : Addr} {x : Value} (h : w.cell? ⟨b, i, none⟩ = some v) (hb : b ≠ a.block) : (w.setCell a x).cell? ⟨b, i, none⟩ = some v := by
  rw [← h]
  exact World.cell?_of_block (w := w) (a := ⟨b, i, none⟩) (Below.heap_setCell _ _ _ _ hb)
/-- .. behind a Row stored elsewhere -/
theorem cell_set3P {w : World} {b c i : Nat} {v x y z : Value} (h : w.cell? ⟨b, i, none⟩ = some v) (hb : b ≠ c) : (((w.setCell ⟨c, 0, none⟩ x).setCell ⟨c, 1, none⟩ y).setCell ⟨c, 2, none⟩ z).cell? ⟨b, i, none⟩ = some v :=
  cell_setP (cell_setP (cell_setP h hb) hb) hb
theorem z_oneP {w x : World} (h : Below (w.alloc (.cells #[.int .i64 0, .bool false, .slice none 0 0] 26)).drew.heap.size (w.alloc (.cells #[.int .i64 0, .bool false, .slice none 0 0] 26)).drew x) : OwnArr x w.heap.size 26 [.int .i64 0, .bool false, .slice none 0 0] :=
  (OwnArr.made w 26 [.int .i64 0, .bool false, .slice none 0 0]).drew.below h (OwnArr.made w 26 [.int .i64 0, .bool false, .slice none 0 0]).lt
theorem z_twoP {w w' : World} (h : Below (w.alloc (.cells #[.int .i64 0, .bool false, .slice none 0 0] 26)).heap.size (w.alloc (.cells #[.int .i64 0, .bool false, .slice none 0 0] 26)) w') : OwnArr w' w.heap.size 26 [.int .i64 0, .bool false, .slice none 0 0] :=
  (OwnArr.made w 26 [.int .i64 0, .bool false, .slice none 0 0]).below h (OwnArr.made w 26 [.int .i64 0, .bool false, .slice none 0 0]).lt
theorem fin_boxP {wb x : World} {B g : Nat} {v : Value} {xs : List Int} {ys : List Value} {y0 y1 y2 : Value} (a b c : Value) (hz : OwnArr x g 26 ys) (hys : ys = [y0, y1, y2]) (hg : B ≤ g) (ho : Out B x v xs) (hb : Below B wb x) :
    OwnArr (((x.setCell ⟨g, 0, none⟩ a).setCell ⟨g, 1, none⟩ b).setCell ⟨g, 2, none⟩ c) g 26 [a, b, c] ∧ Out B (((x.setCell ⟨g, 0, none⟩ a).setCell ⟨g, 1, none⟩ b).setCell ⟨g, 2, none⟩ c) v xs ∧ Below B wb (((x.setCell ⟨g, 0, none⟩ a).setCell ⟨g, 1, none⟩ b).setCell ⟨g, 2, none⟩ c) := by
  subst hys
  exact ⟨((hz.set 0 a).set 1 b).set 2 c, ho.boxed hz _ _ _, ((hb.setCell (by show _ ≤ g; omega) _).setCell (by show _ ≤ g; omega) _).setCell (by show _ ≤ g; omega) _⟩

theorem OwnArr.setCells {b : Nat} {e : TypeId} : ∀ (vs pre ys : List Value) (w : World), OwnArr w b e (pre ++ ys) → ys.length = vs.length → OwnArr (w.setCells b pre.length vs) b e (pre ++ vs)
  | [], pre, ys, w, h, hl => by
    have : ys = [] := List.length_eq_zero_iff.1 hl
    subst this
    exact h
  | v :: vs, pre, ys, w, h, hl => by
    match ys, hl with
    | y :: ys, hl =>
      have h2 := h.set pre.length v
      rw [List.set_append_right _ _ (Nat.le_refl _), Nat.sub_self, List.set_cons_zero] at h2
      have := OwnArr.setCells vs (pre ++ [v]) ys _ (by rw [List.append_assoc]; exact h2) (by simpa using hl)
      rw [List.append_assoc, List.length_append] at this
      exact this
theorem OwnArr.setAll {b : Nat} {e : TypeId} {vs ys : List Value} {w : World} (h : OwnArr w b e ys) (hl : ys.length = vs.length) : OwnArr (w.setCells b 0 vs) b e vs :=
  OwnArr.setCells vs [] ys w h hl
theorem below_setCells {B b : Nat} {w : World} : ∀ (vs : List Value) (o : Nat) (wz : World), Below B w wz → B ≤ b → Below B w (wz.setCells b o vs)
  | [], _, _, h, _ => h
  | v :: vs, o, _, h, hb => below_setCells vs (o + 1) _ (h.setCell (p := ⟨b, o, none⟩) hb v) hb
theorem OwnArr.there {b : Nat} {e : TypeId} {ys : List Value} {w : World} (h : OwnArr w b e ys) : w.there b 0 ys.length := fun j hj => by
  rw [Nat.zero_add]
  exact ⟨by rw [h.cell, List.getElem?_eq_getElem hj]; rfl, h.free j⟩

theorem bv_oneP (ys : List Bool) : ∀ u ∈ bv ys, u.oneCell' = true := by
  intro u hu
  unfold bv at hu
  obtain ⟨x, _, rfl⟩ := List.mem_map.1 hu
  rfl
/-- the places as a value -/
abbrev plV (T : Nat → Bool) : Value := .agg (bv (bl 12 T)).toArray
theorem infoPl : (Try.prog.info? 73).map (·.size) = some 12 := by kernel_rfl
theorem placeNone : (bl 12 fun _ => false) = [false, false, false, false, false, false, false, false, false, false, false, false] := by decide

set_option maxRecDepth 4000 in
set_option maxHeartbeats 1600000 in
theorem plWith_any (T : Nat → Bool) (l : List Nat) (q : Option Addr) (c : Nat) (w : World) (lo hi : Nat) (hin : Ri lo hi w q (ints l)) (hl : ∀ x ∈ l, x < 12) (hll : l.length ≤ 1000) :
    Calls Try.prog 89 #[plV T, .slice q (ints l).length c] w fun e w' => e = .returned (plV fun k => T k || decide (k ∈ l)) ∧ Below w.heap.size w w' := by
  obtain ⟨w1, hw1⟩ : ∃ w1, w1 = (w.alloc (.cells (bv (bl 12 T)).toArray 73)).alloc (.cells #[.bool false, .bool false, .bool false, .bool false, .bool false, .bool false, .bool false, .bool false, .bool false, .bool false, .bool false, .bool false] 73) := ⟨_, rfl⟩
  have hX : OwnArr w1 w.heap.size 73 (bv (bl 12 fun k => T k || decide (k ∈ l.take 0))) := by
    rw [hw1]
    simp only [List.take_zero, List.not_mem_nil, decide_false, Bool.or_false]
    exact (OwnArr.made w _ _).alloc _
  have hZ : OwnArr w1 (w.heap.size + 1) 73 (bv (bl 12 fun _ => false)) := by
    rw [hw1, placeNone]
    exact OwnArr.mk' rfl (by simp)
  have hB : Below w.heap.size w w1 := by rw [hw1]; exact ((Below.refl _ _).alloc (Nat.le_refl _) _).alloc (by simp) _
  obtain ⟨m, hm⟩ : ∃ m, (ints l).length = m := ⟨_, rfl⟩
  rw [hm]
  have hlm : l.length = m := by rw [← hm, ints_length]
  have HX1 := Lib.hid hX
  have HZ1 := Lib.hid hZ
  have HB1 := Lib.hid hB
  have HI := Lib.hid hin
  have HL := Lib.hid hl
  have HM := Lib.hid hlm
  have HW := Lib.hid hw1.symm
  have hm9 : m ≤ 1000 := by omega
  clear hX hZ hB hin hl hm hlm hw1
  obtain ⟨L0, hL0⟩ : ∃ L, bv (bl 12 T) = L := ⟨_, rfl⟩
  rw [hL0] at HW
  unfold plV
  rw [hL0]
  clear hL0
  go_enter Try.func89, Try.ntmps89
  go_wp2_with fail
  rw [HW.out]
  clear HW
  go_loopw [9, 6] (fun i _ wr => ∃ (j : Nat), j ≤ m ∧ i = .int .i64 j ∧ Hid (OwnArr wr w.heap.size 73 (bv (bl 12 fun k => T k || decide (k ∈ l.take j)))) ∧ Hid (OwnArr wr (w.heap.size + 1) 73 (bv (bl 12 fun _ => false))) ∧ Hid (Below w.heap.size w wr)) (fun i _ _ => m - (intOf i).toNat)
  case atStart => exact ⟨0, Nat.zero_le _, rfl, HX1, HZ1, HB1⟩
  case round =>
    obtain ⟨j, hj, rfl, HX, HZ, HB⟩ := hrel
    clear HX1 HZ1 HB1
    by_cases hlt : j < m
    · have hjl : j < l.length := by have := HM.out; omega
      obtain ⟨b, off, rfl, -, -, hbw, hc⟩ := HI.out.int (by rw [ints_length]; omega)
      have h0 := (HB.out.cell (p := ⟨b, off + j, none⟩) hbw).trans (hc j (by rw [ints_length]; exact hjl))
      rw [ints_get hjl] at h0
      have hyn := HL.out _ (nat_mem hjl)
      have hst := take_mem_succ hjl
      obtain ⟨y, hy⟩ : ∃ y, l[j]?.getD 0 = y := ⟨_, rfl⟩
      rw [hy] at h0 hyn hst
      have f0 := HX.out.free y
      have c0 := HX.out.cell y
      rw [bv_get (by rw [bl_length]; omega)] at c0
      have hs := HX.out.set y (.bool true)
      rw [bv_set, bl_set] at hs
      have hs2 : (bl 12 fun i => if i = y then true else T i || decide (i ∈ l.take j)) = bl 12 fun k => T k || decide (k ∈ l.take (j + 1)) := bl_congr fun k _ => by
        rw [hst k]
        by_cases e : k = y
        · rw [if_pos e, if_pos e]; simp
        · rw [if_neg e, if_neg e]
      rw [hs2] at hs
      have HS := Lib.hid hs
      have HZ2 := Lib.hid (HZ.out.other (a := ⟨w.heap.size, y, none⟩) (by show w.heap.size + 1 ≠ w.heap.size; omega) (.bool true))
      have HB2 := Lib.hid (HB.out.setCell (p := ⟨w.heap.size, y, none⟩) (Nat.le_refl _) (.bool true))
      have hy0 : (0 : Int) ≤ (y : Int) := by omega
      have hy1 : (y : Int) < 12 := by omega
      have ht0 : (0 : Int) ≤ (j : Int) := by omega
      have ht1 : (j : Int) < (m : Int) := by omega
      clear hc hy hst hs hs2
      go_wp2_with fail
      go_roundw
      case rel => exact ⟨j + 1, by omega, by go_num, HS, HZ2, HB2⟩
      case measure => simp [intOf]; omega
    · have hjm : j = m := by omega
      subst hjm
      have hto : l.take j = l := List.take_of_length_le (by rw [HM.out]; exact Nat.le_refl _)
      have hX := HX.out
      rw [hto] at hX
      have hlen : (bv (bl 12 fun k => T k || decide (k ∈ l))).length = 12 := by rw [bv_length, bl_length]
      have h1c := bv_oneP (bl 12 fun k => T k || decide (k ∈ l))
      obtain ⟨L, hL⟩ : ∃ L, bv (bl 12 fun k => T k || decide (k ∈ l)) = L := ⟨_, rfl⟩
      rw [hL] at hX hlen h1c
      have hZl : (bv (bl 12 fun _ => false)).length = L.length := by rw [bv_length, bl_length, hlen]
      have hth := HZ.out.there
      rw [hZl] at hth
      have hfin := HZ.out.setAll hZl
      have hbel := below_setCells (b := w.heap.size + 1) L 0 _ HB.out (Nat.le_succ _)
      have ht1 : ¬ (j : Int) < (j : Int) := by omega
      have HLL := Lib.hid hL
      clear hto HX hL
      go_wp2_with (first | (refine wpList_load_row rfl 73 _ rfl w.heap.size (by rfl) 73 L.toArray (0, 0) _ hX Try.underlying73 rfl (by rw [infoPl]; simp [hlen]) ?_) | (refine wpList_store_mid rfl 73 _ _ rfl (w.heap.size + 1) 0 L.toArray (by rfl) (by rfl) (by simpa using hth) (by rw [infoPl]; simp [hlen]) (all_oneCell_toArray h1c) ?_))
      refine bodyPost_ret (v := .agg L.toArray) (results_cell_row Try.results89 _ _ (w.heap.size + 1) 73 L.toArray (0, 0) _ rfl hfin Try.underlying73 rfl (by rw [infoPl]; simp [hlen])) rfl ⟨?_, hbel⟩
      rw [← HLL.out]

set_option maxRecDepth 4000 in
set_option maxHeartbeats 1600000 in
theorem placesOf_any (n : Nat) (ring : Bool) (p : Option Addr) (cap : Nat) (S : Nat → Bool) (w : World) (lo hi : Nat) (hin : Ri lo hi w p (ints (tk n S))) (hn : n ≤ 12) :
    Calls Try.prog 59 #[rowV n ring p (ints (tk n S)).length cap] w fun e w' => e = .returned (plV fun k => decide (k ∈ tk n S)) ∧ Below w.heap.size w w' := by
  obtain ⟨w1, hw1⟩ : ∃ w1, w1 = ((w.alloc (.cells #[.int .i64 n, .bool ring, .slice p (ints (tk n S)).length cap] 26)).alloc (.cells #[.bool false, .bool false, .bool false, .bool false, .bool false, .bool false, .bool false, .bool false, .bool false, .bool false, .bool false, .bool false] 73)).alloc (.cells #[.bool false, .bool false, .bool false, .bool false, .bool false, .bool false, .bool false, .bool false, .bool false, .bool false, .bool false, .bool false] 73) := ⟨_, rfl⟩
  have hX : OwnArr w1 w.heap.size 26 [.int .i64 n, .bool ring, .slice p (ints (tk n S)).length cap] := by
    rw [hw1]; exact ((OwnArr.made w _ [_, _, _]).alloc _).alloc _
  have hY : OwnArr w1 (w.heap.size + 1) 73 (bv (bl 12 fun _ => false)) := by
    rw [hw1, placeNone]; exact OwnArr.alloc (OwnArr.mk' rfl (by simp)) _
  have hZ : OwnArr w1 (w.heap.size + 2) 73 (bv (bl 12 fun _ => false)) := by
    rw [hw1, placeNone]; exact OwnArr.mk' rfl (by simp)
  have hB : Below w.heap.size w w1 := by rw [hw1]; exact (((Below.refl _ _).alloc (Nat.le_refl _) _).alloc (by simp) _).alloc (by simp; omega) _
  have hlen := ints_tk_len n S
  have W := Lib.hid (plWith_any (fun _ => false) (tk n S) p cap w1 lo hi (hin.bel hB) (fun x hx => by have := (mem_tk.1 hx).1; omega) (by have := tk_length_le n S; omega))
  simp only [Bool.false_or] at W
  obtain ⟨m, hm⟩ : ∃ m, (ints (tk n S)).length = m := ⟨_, rfl⟩
  rw [hm] at hX W hw1 ⊢
  have HX := Lib.hid hX
  have HY := Lib.hid hY
  have HZ := hZ
  have HB := Lib.hid hB
  have HW := Lib.hid hw1.symm
  clear hX hY hZ hB hin hm hw1 hlen
  obtain ⟨c0, c1, c2, -⟩ := HX.out.three
  go_enter Try.func59, Try.ntmps59
  have hlen : (bv (bl 12 fun _ => false)).length = 12 := by rw [bv_length, bl_length]
  go_upto_region 2 with fail
  rw [HW.out]
  go_wp2_with (refine wpList_load_row rfl 73 _ rfl (w.heap.size + 2) (by rfl) 73 (bv (bl 12 fun _ => false)).toArray (0, 0) _ HZ Try.underlying73 rfl (by rw [infoPl]; simp [hlen]) ?_)
  refine W.out.mono ?_
  rintro e w2 ⟨rfl, hb2⟩
  have hY := HY.out.below hb2 HY.out.lt
  have hB := HB.out.trans (hb2.mono HB.out.size)
  have hl2 : (bv (bl 12 fun k => decide (k ∈ tk n S))).length = 12 := by rw [bv_length, bl_length]
  have h1c := bv_oneP (bl 12 fun k => decide (k ∈ tk n S))
  unfold plV
  obtain ⟨L, hL⟩ : ∃ L, bv (bl 12 fun k => decide (k ∈ tk n S)) = L := ⟨_, rfl⟩
  rw [hL] at hl2 h1c ⊢
  have hZl : (bv (bl 12 fun _ => false)).length = L.length := by rw [hlen, hl2]
  have hth := hY.there
  rw [hZl] at hth
  have hfin := hY.setAll hZl
  have hbel := below_setCells (b := w.heap.size + 1) L 0 _ hB (Nat.le_succ _)
  clear HX HY HZ HB HW W c0 c1 c2 hb2 hY hB
  go_wp2_with (refine wpList_store_mid rfl 73 _ _ rfl (w.heap.size + 1) 0 L.toArray (by rfl) (by rfl) (by simpa using hth) (by rw [infoPl]; simp [hl2]) (all_oneCell_toArray h1c) ?_)
  exact bodyPost_ret (v := .agg L.toArray) (results_cell_row Try.results59 _ _ (w.heap.size + 1) 73 L.toArray (0, 0) _ rfl hfin Try.underlying73 rfl (by rw [infoPl]; simp [hl2])) rfl ⟨by rw [← hL], hbel⟩

theorem bl_take {n : Nat} {T : Nat → Bool} (h : n ≤ 12) : (bv (bl 12 T)).take n = bv (bl n T) := by
  apply List.ext_getElem?
  intro i
  rcases Nat.lt_or_ge i n with h' | h'
  · rw [List.getElem?_take, if_pos h', bv_get (by rw [bl_length]; omega), bv_get (by rw [bl_length]; exact h'), bl_getD (by omega), bl_getD h']
  · rw [List.getElem?_eq_none (by rw [List.length_take, bv_length, bl_length]; omega), List.getElem?_eq_none (by rw [bv_length, bl_length]; exact h')]

set_option maxRecDepth 4000 in
set_option maxHeartbeats 2000000 in
theorem plRow_any (n : Nat) (ring : Bool) (p : Option Addr) (m cap : Nat) (T : Nat → Bool) (w : World) (h2 : 2 ≤ n) (hn : n ≤ 12) (h3 : ring = true → 3 ≤ n) :
    Calls Try.prog 63 #[plV T, rowV n ring p m cap] w fun e w' => ∃ v, e = .returned (.agg #[.int .i64 n, .bool ring, v]) ∧ Out w.heap.size w' v (ints (tk n T)) ∧ Below w.heap.size w w' := by
  obtain ⟨wb, hwb⟩ : ∃ wb, ((w.alloc (.cells (bv (bl 12 T)).toArray 73)).alloc (.cells #[.int .i64 n, .bool ring, .slice p m cap] 26)).alloc (.cells #[.int .i64 0, .bool false, .slice none 0 0] 26) = wb := ⟨_, rfl⟩
  have hP : OwnArr wb w.heap.size 73 (bv (bl 12 T)) := by
    rw [← hwb]; exact ((OwnArr.made w _ _).alloc _).alloc _
  have hX : OwnArr wb (w.heap.size + 1) 26 [.int .i64 n, .bool ring, .slice p m cap] := by
    rw [← hwb]; exact OwnArr.alloc (OwnArr.mk' rfl (by simp)) _
  have hZ : OwnArr wb (w.heap.size + 2) 26 [.int .i64 0, .bool false, .slice none 0 0] := by
    rw [← hwb]; exact OwnArr.mk' rfl (by simp)
  have hB : Below w.heap.size w wb := by rw [← hwb]; exact (((Below.refl _ _).alloc (Nat.le_refl _) _).alloc (by simp) _).alloc (by simp; omega) _
  have HR := Lib.hid (fun (w' : World) (h : OwnArr w' w.heap.size 73 (bv (bl 12 T))) => rowOf_any n ring (some ⟨w.heap.size, 0, none⟩) 12 T w' 0 (w.heap.size + 1) (by have := Rd.of_own h (Nat.zero_le _) (Nat.lt_succ_self _) h.lt n; rw [bl_take hn] at this; exact this) (by omega) true (rowB_of h2 (by omega) h3))
  have hsb : wb.heap.size = w.heap.size + 3 := by rw [← hwb]; simp
  have HP := Lib.hid hP
  have HX := Lib.hid hX
  have HZ0 := Lib.hid hZ
  have HB0 := Lib.hid hB
  have HW := Lib.hid hwb
  have HSB := Lib.hid hsb
  have HD0 := Lib.hid ((Below.refl wb.heap.size wb).drew)
  have HDZ : Hid (Below wb.heap.size wb (wb.alloc (.cells #[.int .i64 0, .bool false, .slice none 0 0] 26)).drew) := by show Below _ _ _; exact ((Below.refl _ _).alloc (Nat.le_refl _) _).drew
  have hn0 : (0 : Int) ≤ (n : Int) := by omega
  have hn1 : (n : Int) ≤ 12 := by omega
  obtain ⟨L0, hL0⟩ : ∃ L, bv (bl 12 T) = L := ⟨_, rfl⟩
  unfold plV
  rw [hL0] at HP HR HW ⊢
  clear hP hX hZ hB hwb hsb hL0
  obtain ⟨d0, d1, d2, -⟩ := HX.out.three
  have HXd := Lib.hid (HX.out.drew)
  go_enter Try.func63, Try.ntmps63
  go_upto_region 1 with fail
  rw [HW.out]
  go_cut [5] (fun v wx => ∃ g q c, v = .pointer (some ⟨g, 0, none⟩) ∧ Hid (OwnArr wx g 26 [.int .i64 n, .bool ring, .slice q (ints (tk n T)).length c]) ∧ Hid (Out wb.heap.size wx (.slice q (ints (tk n T)).length c) (ints (tk n T))) ∧ Hid (Below wb.heap.size wb wx))
  case first =>
    go_region_held3 (fun w' => w'.cell? ⟨w.heap.size + 1, 0, none⟩ = some (.int .i64 n) ∧ w'.cell? ⟨w.heap.size + 1, 1, none⟩ = some (.bool ring) ∧ w'.cell? ⟨w.heap.size + 1, 2, none⟩ = some (.slice p m cap)) ((first | with_reducible exact ⟨d0, d1, d2⟩ | with_reducible exact ⟨e0, e1, e2⟩ | (obtain ⟨s0, s1, s2⟩ := (by assumption : _ ∧ _ ∧ _); with_reducible exact ⟨cell_allocP s0, cell_allocP s1, cell_allocP s2⟩) | (obtain ⟨s0, s1, s2⟩ := (by assumption : _ ∧ _ ∧ _); have hne := N0.out; with_reducible exact ⟨cell_set3P s0 hne, cell_set3P s1 hne, cell_set3P s2 hne⟩) | go_keep)) (first
      | (go_at_call 41; refine (HR.out _ (by first | with_reducible exact HP.out.drew | exact (HP.out.alloc _).drew)).mono ?_; rintro e wm ⟨v, rfl, hO, hbm⟩; simp only [if_true]; have hO := hO rfl; obtain ⟨q, c, rfl, -⟩ := hO.rd; have HBm : Hid (Below wb.heap.size wb wm) := (by show Below _ _ _; first | with_reducible exact HD0.out.trans (hbm.mono HD0.out.size) | with_reducible exact HDZ.out.trans (hbm.mono HDZ.out.size)); have HOm : Hid (Out wb.heap.size wm (.slice q (ints (tk n T)).length c) (ints (tk n T))) := (by show Out _ _ _ _; first | with_reducible exact hO.mono HD0.out.size | with_reducible exact hO.mono HDZ.out.size); have HXm := Lib.hid (HX.out.below HBm.out HX.out.lt); obtain ⟨e0, e1, e2, -⟩ := HXm.out.three; have N0 : Hid (w.heap.size + 1 ≠ wb.heap.size) := (by show _ ≠ _; have := HSB.out; omega); (first | (have hz : Below (wb.alloc (.cells #[.int .i64 0, .bool false, .slice none 0 0] 26)).drew.heap.size (wb.alloc (.cells #[.int .i64 0, .bool false, .slice none 0 0] 26)).drew wm := (by with_reducible exact hbm); have HZ := Lib.hid (z_oneP hz)) | skip); (try obtain ⟨z0, z1, z2, y0, y1, y2⟩ := HZ.out.three); clear hO hbm))
    all_goals
      go_wp2_with fail
      go_meet
      first
        | (obtain ⟨f1, f2, f3⟩ := fin_boxP (.int .i64 n) (.bool ring) (.slice q (ints (tk n T)).length c) HZ.out rfl (Nat.le_refl _) HOm.out HBm.out; exact ⟨_, q, c, rfl, Lib.hid f1, Lib.hid f2, Lib.hid f3⟩)
        | exact ⟨_, q, c, rfl, Lib.hid (OwnArr.made wm 26 [.int .i64 n, .bool ring, .slice q (ints (tk n T)).length c]), Lib.hid (World.ownsRow.alloc HOm.out _), Lib.hid (HBm.out.alloc HBm.out.size _)⟩
  case rest =>
    obtain ⟨g, q, c, rfl, HG, HO, HB⟩ := hcut
    have HZ := Lib.hid (HZ0.out.below HB.out HZ0.out.lt)
    have HBB := Lib.hid (HB0.out.trans (HB.out.mono HB0.out.size))
    have hfin := fin_boxP (.int .i64 n) (.bool ring) (.slice q (ints (tk n T)).length c) HZ.out rfl (by omega : w.heap.size ≤ w.heap.size + 2) (HO.out.mono HB0.out.size) HBB.out
    have HF := Lib.hid hfin
    clear hfin d0 d1 d2 HX HP HR HD0 HDZ HXd HW
    obtain ⟨g0, g1, g2, -⟩ := HG.out.three
    obtain ⟨z0, z1, z2, y0, y1, y2⟩ := HZ.out.three
    go_wp2_with fail
    exact ret_row Try.results63 rfl HF.out.1 rfl ⟨_, rfl, HF.out.2.1, HF.out.2.2⟩
end Go.Proofs.Ytidiljnonbkpjaa
