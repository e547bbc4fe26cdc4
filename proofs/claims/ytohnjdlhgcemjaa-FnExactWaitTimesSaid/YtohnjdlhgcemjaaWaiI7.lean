/- Chapter 7, impl side: impl.WaitTimes. -/
import Derived.Test.YtohnjdlhgcemjaaBrdB7
import Derived.Test.YtohnjdlhgcemjaaStc7
namespace Go.Proofs.Ytohnjdlhgcemjaa
open Go.RowKit

set_option maxHeartbeats 1000000 in
theorem waitTell_any (n : Nat) (T : Nat → Nat) (s : Int) (C : Cab) (w : World) (hT : Trs w n T s C) (r : Nat) (hr : r < n) :
    Calls Try.prog 33 #[.pointer (some ⟨T r, 0, none⟩)] w fun e w' => e = .returned (.int .i64 (C.wa r)) ∧ w = w' := by
  obtain ⟨⟨-, -, -, -⟩, c4, c5, c6⟩ := hT.cells hr
  clear hT
  go_enter Try.func33, Try.ntmps33
  go_wp2_with fail
  go_ret
  exact ⟨rfl, rfl⟩

set_option maxRecDepth 4000 in
set_option maxHeartbeats 2000000 in
theorem waitRows_bad (n s : Int) (p : Option Addr) (cap : Nat) (xs : List Int) (w : World) (lo hi : Nat) (hin : Ri lo hi w p xs) (hlen : xs.length ≤ 1048576) (h : ask7 n s xs = false) :
    Calls Try.prog 20 #[.int .i64 n, .int .i64 s, .slice p xs.length cap] w fun e w' => ∃ v, e = .returned (.tuple #[v, .bool false]) ∧ Out w.heap.size w' v [] ∧ Below w.heap.size w w' := by
  have A := canBoardBy_any n s p cap xs w lo hi hin hlen
  rw [h] at A
  replace A := Lib.hid A
  obtain ⟨m, hm⟩ : ∃ m, xs.length = m := ⟨_, rfl⟩
  rw [hm] at A ⊢
  clear hin h hm
  have TR : Hid (Calls Try.prog 30 #[.int .i64 n, .int .i64 s, .slice p m cap, .func (.func 33) #[] #[]] w fun e w' => ∃ v, e = .returned (.tuple #[v, .bool false]) ∧ Out w.heap.size w' v [] ∧ Below w.heap.size w w') := by
    show Calls _ _ _ _ _
    go_enter Try.func30, Try.ntmps30
    go_wp2_with fail
    refine A.out.mono ?_
    rintro e w1 ⟨rfl, hb⟩
    have HO := Lib.hid ((Out.nilLit w1).mono hb.size)
    have HB : Hid (Below w.heap.size w (w1.alloc (.cells #[] 3))) := hb.alloc hb.size _
    go_wp2_with fail
    go_ret2
    exact ⟨_, rfl, HO.out, HB.out⟩
  go_enter Try.func20, Try.ntmps20
  go_wp2_with fail
  refine TR.out.mono ?_
  rintro e w1 ⟨v, rfl, hO, hB⟩
  go_wp2_with fail
  go_ret2
  exact ⟨_, rfl, hO, hB⟩

set_option maxRecDepth 4000 in
set_option maxHeartbeats 4000000 in
theorem waitTold_any (n : Nat) (s : Int) (p : Option Addr) (cap : Nat) (l : List Nat) (U : Nat) (w : World) (lo hi : Nat) (hin : Ri lo hi w p (ints l)) (hn1 : 1 ≤ n) (hn : n ≤ 10) (hs1 : 1 ≤ s) (hs : s ≤ 5) (hll : l.length = n) (hl : ∀ x ∈ l, x < n) (ha : ∀ r, r < n → r ∈ l) (hask : ask7 n s (ints l) = true) (hnd : ∀ j k, j < n → k < n → j ≠ k → lrow l j ≠ lrow l k) (hU : runs7 n s (-1) l U) :
    Calls Try.prog 30 #[.int .i64 (n : Nat), .int .i64 s, .slice p n cap, .func (.func 33) #[] #[]] w fun e w' => ∃ v, e = .returned (.tuple #[v, .bool true]) ∧ Out w.heap.size w' v (frM (cabU s l U).wa n) ∧ Below w.heap.size w w' := by
  have A := canBoardBy_any n s p cap (ints l) w lo hi hin (by rw [ints_length]; omega)
  rw [hask, ints_length, hll] at A
  replace A := Lib.hid A
  have B := Lib.hid (fun (w' : World) (h' : Below w.heap.size w w') => until_any 9223372036854775807 s n p cap l U w' lo hi (hin.below h' hin.top) hn1 hn hs1 hs hll hl ha hnd (runsI_all hU))
  unfold MadeBrd at B
  have hmk := @run_make_row' Try.prog 22 3 (.int .i64 0) 8 Try.underlying22 infoInt rfl .i64 .i64 n (by omega) (by omega)
  rw [madeCells_one] at hmk
  obtain ⟨Z, hZ⟩ : ∃ Z, List.replicate n (Value.int .i64 0) = Z := ⟨_, rfl⟩
  rw [hZ] at hmk
  replace hZ := Lib.hid hZ
  obtain ⟨C, hC⟩ : ∃ C, cabU s l U = C := ⟨_, rfl⟩
  rw [hC] at B ⊢
  have HTELL := Lib.hid (fun (T : Nat → Nat) (w' : World) (hT : Trs w' n T s C) (r : Nat) (hr : r < n) => waitTell_any n T s C w' hT r hr)
  have HROW := Lib.hid (fun (T : Nat → Nat) (w' : World) (hT : Trs w' n T s C) (r : Nat) (hr : r < n) => row_any n T s C w' hT r hr)
  have HLM := Lib.hid hl
  have HALL := Lib.hid (fun j hj => told_all (F := C.wa) hll ha j hj)
  clear hin hask hnd hU hl ha hC
  go_enter Try.func30, Try.ntmps30
  go_wp2_with fail
  refine A.out.mono ?_
  rintro e w1 ⟨rfl, hb⟩
  have hA0 := OwnArr.made w1 3 Z
  obtain ⟨x0, hx0⟩ : ∃ x, w1.heap.size = x := ⟨_, rfl⟩
  have hw2b : Below w.heap.size w (w1.alloc (.cells Z.toArray 3)) := hb.alloc hb.size _
  have hsz2 : (w1.alloc (.cells Z.toArray 3)).heap.size = x0 + 1 := by simp [hx0]
  have hxl : w.heap.size ≤ x0 := by rw [← hx0]; exact hb.size
  rw [hx0] at hA0
  obtain ⟨w2, hw2⟩ : ∃ w2, w1.alloc (.cells Z.toArray 3) = w2 := ⟨_, rfl⟩
  rw [hw2] at hA0 hw2b hsz2
  have HB2 := B.out w2 hw2b
  rw [hsz2] at HB2
  replace HB2 := Lib.hid HB2
  have HA0 := Lib.hid hA0
  have HW2B := Lib.hid hw2b
  have HW2 := Lib.hid hw2
  have HX0 := Lib.hid hx0
  clear hb hA0 hx0 hw2b hsz2 hw2 A B
  go_upto_region 4 with fail
  rw [HW2.out, HX0.out]
  go_wp2_with fail
  refine HB2.out.mono ?_
  rintro e w3 ⟨g, tb, ab, kt, ka, T, rfl, hB, hF, hL⟩
  obtain ⟨g0, g1, g2⟩ := hB.cells
  have HIA : Hid (IA w3 x0 n (fun _ => n) (toldF l C.wa 0)) := by
    show IA _ _ _ _ _
    have hz3 : OwnArr w3 x0 3 (List.replicate n (.int .i64 0)) := by rw [hZ.out]; exact HA0.out.below hL (by omega)
    refine (ia_zero (K := fun _ => n) hz3 rfl).congr fun j hj => ?_
    unfold toldF
    rw [List.take_zero, if_neg (by simp)]
  have HB := Lib.hid hB
  have HF := Lib.hid hF
  have HL : Hid (Below w.heap.size w w3) := by
    show Below _ _ _
    have h := hL.mono (show w.heap.size ≤ x0 + 1 by omega)
    exact HW2B.out.trans h
  clear hB hF hL HA0 HW2B HB2 hmk
  go_wp2_with fail
  go_loopw [28] (fun ii wr => ∃ (i : Nat), i ≤ n ∧ ii = .int .i64 (i : Int) ∧ Hid (IA wr x0 n (fun _ => n) (toldF l C.wa i)) ∧ Hid (Brd wr n g tb ab kt ka T l s (U : Nat) C) ∧ Hid (Below w.heap.size w wr)) (fun ii _ => n - (intOf ii).toNat)
  case atStart => exact ⟨0, Nat.zero_le _, rfl, HIA, HB, HL⟩
  case round =>
    obtain ⟨i, hi', rfl, HIA1, HB1, HL1⟩ := hrel
    clear HIA HB HL g0 g1 g2
    by_cases hin : i < n
    · have hi1 : (i : Int) < (n : Int) := by omega
      have hil : i < l.length := by omega
      have h0 := HB1.out.tr.cell hin
      have hrow := HLM.out _ (nat_mem hil)
      have hst := fun j (hj : j < n) => told_step (F := C.wa) (n := n) hil j hj
      obtain ⟨row, hrw⟩ : ∃ row, l[i]?.getD 0 = row := ⟨_, rfl⟩
      rw [hrw] at h0 hrow
      simp only [hrw] at hst
      change wr.cell? ⟨tb, i, none⟩ = some (.pointer (some ⟨T row, 0, none⟩)) at h0
      have TL := Lib.hid (HTELL.out T wr HB1.out.tv row hrow)
      have RW := Lib.hid (HROW.out T wr HB1.out.tv row hrow)
      have hr0 : (0 : Int) ≤ (row : Int) := by omega
      have hr1 : (row : Int) < (n : Int) := by omega
      have fz := HIA1.out.free row
      have yz := HIA1.out.cell hrow
      have HIA2 := Lib.hid (HIA1.out.far hst)
      have HB2 := Lib.hid (HB1.out.far (x := x0) (i := row) HF.out (Nat.lt_succ_self _) (.int .i64 (C.wa row)))
      have HL2 := Lib.hid (HL1.out.setCell (p := ⟨x0, row, none⟩) hxl (.int .i64 (C.wa row)))
      obtain ⟨z, hz⟩ : ∃ z, C.wa row = z := ⟨_, rfl⟩
      rw [hz] at TL HIA2 HB2 HL2
      clear hst hrw hz HIA1 HB1 HL1
      go_wp2_with fail
      refine RW.out.mono ?_
      rintro e w4 ⟨rfl, rfl⟩
      go_wp2_with fail
      refine TL.out.mono ?_
      rintro e w5 ⟨rfl, rfl⟩
      clear RW TL
      go_wp2_with fail
      go_roundw
      case rel => exact ⟨i + 1, by omega, by go_num, HIA2, HB2, HL2⟩
      case measure => simp [intOf]; omega
    · have hni : i = n := by omega
      subst hni
      have hi1 : ¬ (i : Int) < (i : Int) := by omega
      have HO := Lib.hid ((HIA1.out.congr HALL.out).out (B := w.heap.size) hxl (by show i ≤ maxLen; unfold maxLen; omega))
      clear HIA1 HB1
      go_wp2_with fail
      go_ret2
      exact ⟨_, rfl, HO.out, HL1.out⟩

set_option maxRecDepth 4000 in
set_option maxHeartbeats 1000000 in
theorem waitRows_any (n : Nat) (s : Int) (p : Option Addr) (cap : Nat) (l : List Nat) (U : Nat) (w : World) (lo hi : Nat) (hin : Ri lo hi w p (ints l)) (hn1 : 1 ≤ n) (hn : n ≤ 10) (hs1 : 1 ≤ s) (hs : s ≤ 5) (hll : l.length = n) (hl : ∀ x ∈ l, x < n) (ha : ∀ r, r < n → r ∈ l) (hask : ask7 n s (ints l) = true) (hnd : ∀ j k, j < n → k < n → j ≠ k → lrow l j ≠ lrow l k) (hU : runs7 n s (-1) l U) :
    Calls Try.prog 20 #[.int .i64 (n : Nat), .int .i64 s, .slice p n cap] w fun e w' => ∃ v, e = .returned (.tuple #[v, .bool true]) ∧ Out w.heap.size w' v (frM (cabU s l U).wa n) ∧ Below w.heap.size w w' := by
  have TR := Lib.hid (waitTold_any n s p cap l U w lo hi hin hn1 hn hs1 hs hll hl ha hask hnd hU)
  clear hin hask hnd hU hl ha
  go_enter Try.func20, Try.ntmps20
  go_wp2_with fail
  refine TR.out.mono ?_
  rintro e w1 ⟨v, rfl, hO, hB⟩
  go_wp2_with fail
  go_ret2
  exact ⟨_, rfl, hO, hB⟩
end Go.Proofs.Ytohnjdlhgcemjaa
