/- spec.l2Without and spec.LeaveSeat, for every Row and all seats. -/
import Derived.Test.YtahgomljhhalhaaNe
import Derived.Test.YtahgomljhhalhaaMade
import Derived.Test.YtahgomljhhalhaaHasS
import Derived.Test.YtahgomljhhalhaaSeat
namespace Go.Proofs.Ytahgomljhhalhaa
open Go.RowKit

theorem filt_yes {xs : List Int} {i : Nat} {x k : Int} (h : i < xs.length) (hx : xs[i]?.getD 0 = x) (hk : ¬ x = k) : (xs.take (i + 1)).filter (fun z => !decide (z = k)) = (xs.take i).filter (fun z => !decide (z = k)) ++ [x] := by
  rw [List.take_succ_eq_append_getElem h, List.filter_append]
  congr 1
  have : xs[i] = x := by rw [← hx, List.getElem?_eq_getElem h]; rfl
  rw [this]
  simp [hk]
theorem filt_no {xs : List Int} {i : Nat} {k : Int} (h : i < xs.length) (hx : xs[i]?.getD 0 = k) : (xs.take (i + 1)).filter (fun z => !decide (z = k)) = (xs.take i).filter (fun z => !decide (z = k)) := by
  rw [List.take_succ_eq_append_getElem h, List.filter_append]
  have : xs[i] = k := by rw [← hx, List.getElem?_eq_getElem h]; rfl
  rw [this]
  simp
theorem filt_len (xs : List Int) (i : Nat) (k : Int) : ((xs.take i).filter (fun z => !decide (z = k))).length ≤ i := by
  have := List.length_filter_le (fun z => !decide (z = k)) (xs.take i)
  have := List.length_take_le i xs
  omega

set_option maxRecDepth 4000 in
set_option maxHeartbeats 2000000 in
theorem without_any (s : Int) (ring : Bool) (p : Option Addr) (cap : Nat) (xs : List Int) (k : Int) (w : World) (lo hi' : Nat) (hin : Ri lo hi' w p xs) (hlen : xs.length ≤ 1000) :
    Calls Try.prog 48 #[rowV s ring p xs.length cap, .int .i64 k] w fun e w' => ∃ v, e = .returned (.agg #[.int .i64 s, .bool ring, v]) ∧ Out w.heap.size w' v (xs.filter (fun z => !decide (z = k))) ∧ Below w.heap.size w w' := by
  obtain ⟨i0, hi, hz0, hz1, hz2⟩ := info_parts infoInt
  have hB0 := Beg.start w s ring p xs.length cap
  have hO := Out.nilLit ((w.alloc (.cells #[Value.int .i64 s, Value.bool ring, Value.slice p xs.length cap] 28)).alloc (.cells #[Value.int .i64 0, Value.bool false, Value.slice none 0 0] 28))
  have hs : ((w.alloc (.cells #[Value.int .i64 s, Value.bool ring, Value.slice p xs.length cap] 28)).alloc (.cells #[Value.int .i64 0, Value.bool false, Value.slice none 0 0] 28)).heap.size = w.heap.size + 1 + 1 := by simp
  rw [hs] at hO
  have hb : Below _ _ _ := (Below.refl _ ((w.alloc (.cells #[Value.int .i64 s, Value.bool ring, Value.slice p xs.length cap] 28)).alloc (.cells #[Value.int .i64 0, Value.bool false, Value.slice none 0 0] 28))).alloc (Nat.le_refl _) (.cells #[] 3)
  have HE0 := Lib.hid (hB0.next hb)
  have HO0 := Lib.hid hO
  have HIN := Lib.hid hin
  obtain ⟨m, hm⟩ : ∃ m, xs.length = m := ⟨_, rfl⟩
  rw [hm] at HE0 HO0 hlen ⊢
  have HM := Lib.hid hm
  clear hB0 hO hs hb hin hm
  go_enter Try.func48, Try.ntmps48
  go_wp2_with fail
  go_loopw [5, 6] (fun v i wr => ∃ (j : Nat), j ≤ m ∧ i = .int .i64 j ∧ Hid (Beg w s ring p m cap wr) ∧ Hid (Out (w.heap.size + 1 + 1) wr v ((xs.take j).filter (fun z => !decide (z = k))))) (fun _ i _ => m - (intOf i).toNat)
  case atStart => exact ⟨0, Nat.zero_le _, rfl, HE0, HO0⟩
  case round =>
    obtain ⟨j, hj, rfl, HE, HO⟩ := hrel
    clear HE0 HO0
    obtain ⟨c0, c1, c2, -⟩ := HE.out.row.three
    by_cases hlt : j < m
    · have hjl : j < xs.length := by have := HM.out; omega
      obtain ⟨b, off, rfl, -, -, hbw, hc⟩ := HIN.out.int (by omega)
      have h0 := (HE.out.bel.cell (p := ⟨b, off + j, none⟩) hbw).trans (hc j hjl)
      obtain ⟨x, hx⟩ : ∃ x, xs[j]?.getD 0 = x := ⟨_, rfl⟩
      rw [hx] at h0
      have hj1 : (j : Int) < (m : Int) := by omega
      clear hc
      by_cases he : x = k
      · subst he
        have HT := Lib.hid (filt_no hjl hx)
        have ho3 := HO.out
        rw [← HT.out] at ho3
        have HO3 := Lib.hid ho3
        clear ho3 HO hx
        go_wp2_with fail
        go_roundw
        case rel => exact ⟨j + 1, by omega, by go_num, HE, HO3⟩
        case measure => simp [intOf]; omega
      · have HT := Lib.hid (filt_yes hjl hx he)
        have HL := Lib.hid (filt_len xs j k)
        have hblk := Lib.hid (own_block HO.out)
        obtain ⟨l, vs, hl, hvs, hown⟩ := HO.out.open'
        have hlk := HL.out
        rw [hl] at hlk
        have hsz2 := HE.out.res.lt
        replace hl := Lib.hid hl
        replace hvs := Lib.hid hvs
        clear hx
        go_wp2_with (at_builtin; refine wpList_append_own _ rfl _ _ 22 rfl (w.heap.size + 1 + 1) 3 i0 (.int .i64 0) 1 8 Try.underlying22 hi hz0 hz1 hz2 rfl (by decide) _ _ _ rfl (hown.alloc _) ⟨wr.heap.size, 0, none⟩ 1 1 [.int .i64 x] rfl rfl (cell_one_new _ _ _) (fun x hx => by simp at hx; subst hx; rfl) (by unfold maxLen; omega) (by omega) (by simp; omega) ?_; intro v' w3 hown' hgrow3 hnil3)
        have hG : Below (w.heap.size + 1 + 1) wr w3 := ((Below.refl (w.heap.size + 1 + 1) wr).alloc (by omega) _).grown hgrow3 (by simp; omega) hblk.out
        have HE3 := Lib.hid (HE.out.next2 hG)
        have HO3 : Hid (Out (w.heap.size + 1 + 1) w3 v' ((xs.take (j + 1)).filter (fun z => !decide (z = k)))) := by
          show Out _ _ _ _
          rw [HT.out]; exact Out.close hl.out hvs.out hown'
        clear hown' hgrow3 hnil3 hown hG HE HO
        go_wp2_with fail
        go_roundw
        case rel => exact ⟨j + 1, by omega, by go_num, HE3, HO3⟩
        case measure => simp [intOf]; omega
    · have hjm : xs.take j = xs := List.take_of_length_le (by have := HM.out; omega)
      have ho := HO.out
      rw [hjm] at ho
      obtain ⟨q, qc, rfl, -⟩ := ho.rd
      have HO2 := Lib.hid ho
      clear ho HO hjm
      go_wp2_with fail
      refine (l2Made_any _ _ _ _ _ _ _ _ _).mono ?_
      rintro e w3 ⟨rfl, hb3⟩
      have HE3 := Lib.hid (HE.out.next hb3)
      have HO3 := Lib.hid (HO2.out.below hb3)
      clear HE HO2 hb3 c0 c1 c2
      obtain ⟨z0, z1, z2, y0, y1, y2⟩ := HE3.out.res.three
      go_wp2_with fail
      refine ret_row Try.results48 rfl (HE3.out.out _ _ _).1 rfl ⟨_, rfl, (HO3.out.boxed HE3.out.res _ _ _).mono (by omega : w.heap.size ≤ w.heap.size + 1 + 1), (HE3.out.out _ _ _).2⟩
theorem seat_row {s : Int} {ring : Bool} {xs : List Int} {x : Int} (h : seatB s ring xs x = true) : rowB s ring xs = true := by
  unfold seatB at h
  simp only [Bool.and_eq_true] at h
  exact h.1

set_option maxRecDepth 4000 in
set_option maxHeartbeats 2000000 in
/-- it fails: no seat of a valid Row, or a free one -/
theorem leaveS_bad (s : Int) (ring : Bool) (p : Option Addr) (cap : Nat) (xs : List Int) (k : Int) (w : World) (lo hi : Nat) (hin : Ri lo hi w p xs) (hlen : xs.length ≤ 1048576) (h : (seatB s ring xs k && decide (k ∈ xs)) = false) :
    Calls Try.prog 28 #[rowV s ring p xs.length cap, .int .i64 k] w (MadeRow w 0 false [] false) := by
  have hE := Beg.start w s ring p xs.length cap
  have I := fun (w' : World) (h' : Below w.heap.size w w') => l2Seat_any s ring p cap xs k w' lo hi (hin.below h' hin.top) hlen
  have J := fun (w' : World) (h' : Below w.heap.size w w') => l2Is_any s ring p cap xs k w' lo hi (hin.below h' hin.top) hlen
  have HE := Lib.hid hE
  replace I := Lib.hid I
  replace J := Lib.hid J
  clear hE hin
  unfold MadeRow
  cases hs : seatB s ring xs k with
  | false =>
    rw [hs] at I
    clear h hs J
    go_enter Try.func28, Try.ntmps28
    go_wp2_with fail
    refine (I.out _ HE.out.bel).mono ?_
    rintro e w1 ⟨rfl, hb1⟩
    have HE1 := Lib.hid (HE.out.next hb1)
    obtain ⟨z0, z1, z2, y0, y1, y2⟩ := HE1.out.res.three
    clear HE hb1 I
    go_wp2_with fail
    exact ret_row2 Try.results28 rfl rfl (HE1.out.out _ _ _).1 rfl ⟨_, rfl, Out.none _ _, (HE1.out.out _ _ _).2⟩
  | true =>
    rw [hs] at I h
    simp only [Bool.true_and] at h
    rw [h] at J
    clear h hs
    go_enter Try.func28, Try.ntmps28
    go_wp2_with fail
    refine (I.out _ HE.out.bel).mono ?_
    rintro e w1 ⟨rfl, hb1⟩
    have HE1 := Lib.hid (HE.out.next hb1)
    clear HE hb1 I
    obtain ⟨c0, c1, c2, -⟩ := HE1.out.row.three
    go_wp2_with fail
    refine (J.out _ HE1.out.bel).mono ?_
    rintro e w2 ⟨rfl, hb2⟩
    have HE2 := Lib.hid (HE1.out.next hb2)
    clear HE1 hb2 J c0 c1 c2
    obtain ⟨z0, z1, z2, y0, y1, y2⟩ := HE2.out.res.three
    go_wp2_with fail
    exact ret_row2 Try.results28 rfl rfl (HE2.out.out _ _ _).1 rfl ⟨_, rfl, Out.none _ _, (HE2.out.out _ _ _).2⟩

set_option maxRecDepth 4000 in
set_option maxHeartbeats 2000000 in
theorem leaveS_any (s : Int) (ring : Bool) (p : Option Addr) (cap : Nat) (xs : List Int) (k : Int) (w : World) (lo hi : Nat) (hin : Ri lo hi w p xs) (hlen : xs.length ≤ 1000) (h1 : seatB s ring xs k = true) (h2 : decide (k ∈ xs) = true) :
    Calls Try.prog 28 #[rowV s ring p xs.length cap, .int .i64 k] w (MadeRow w s ring (xs.filter (fun z => !decide (z = k))) true) := by
  have hE := Beg.start w s ring p xs.length cap
  have I := fun (w' : World) (h' : Below w.heap.size w w') => l2Seat_any s ring p cap xs k w' lo hi (hin.below h' hin.top) (by omega)
  have J := fun (w' : World) (h' : Below w.heap.size w w') => l2Is_any s ring p cap xs k w' lo hi (hin.below h' hin.top) (by omega)
  have K := fun (w' : World) (h' : Below w.heap.size w w') => without_any s ring p cap xs k w' lo hi (hin.below h' hin.top) hlen
  rw [h1] at I
  rw [h2] at J
  have HE := Lib.hid hE
  replace I := Lib.hid I
  replace J := Lib.hid J
  replace K := Lib.hid K
  obtain ⟨m, hm⟩ : ∃ m, xs.length = m := ⟨_, rfl⟩
  rw [hm] at HE I J K ⊢
  clear hE hin h1 h2 hm hlen
  unfold MadeRow
  go_enter Try.func28, Try.ntmps28
  go_wp2_with fail
  refine (I.out _ HE.out.bel).mono ?_
  rintro e w1 ⟨rfl, hb1⟩
  have HE1 := Lib.hid (HE.out.next hb1)
  clear HE hb1 I
  obtain ⟨c0, c1, c2, -⟩ := HE1.out.row.three
  go_wp2_with fail
  refine (J.out _ HE1.out.bel).mono ?_
  rintro e w2 ⟨rfl, hb2⟩
  have HE2 := Lib.hid (HE1.out.next hb2)
  clear HE1 hb2 J c0 c1 c2
  obtain ⟨c0, c1, c2, -⟩ := HE2.out.row.three
  go_wp2_with fail
  refine (K.out _ HE2.out.bel).mono ?_
  rintro e w3 ⟨v, rfl, hO, hb3⟩
  obtain ⟨q, qc, rfl, -⟩ := hO.rd
  have HE3 := Lib.hid (HE2.out.next hb3)
  have HO3 := Lib.hid (hO.mono HE2.out.bel.size)
  clear HE2 hb3 hO K c0 c1 c2
  obtain ⟨z0, z1, z2, y0, y1, y2⟩ := HE3.out.res.three
  go_wp2_with fail
  exact ret_row2 Try.results28 rfl rfl (HE3.out.out _ _ _).1 rfl ⟨_, rfl, HO3.out.boxed HE3.out.res _ _ _, (HE3.out.out _ _ _).2⟩
end Go.Proofs.Ytahgomljhhalhaa
