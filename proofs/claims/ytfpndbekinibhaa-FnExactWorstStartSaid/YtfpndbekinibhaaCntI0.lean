/- impl.SettleCounts, for all numbers of seats. -/
import Derived.Test.YtfpndbekinibhaaCnt
namespace Go.Proofs.Ytfpndbekinibhaa
open Go.RowKit

theorem out_of_arr {w : World} {g B : Nat} {xs : List Int} (h : OwnArr w g 3 (iv xs)) (hB : B ≤ g) (hl : xs.length ≤ 1000) : Out B w (.slice (some ⟨g, 0, none⟩) xs.length xs.length) xs :=
  ⟨by rw [iv_length]; omega, .inr ⟨g, xs.length, _, rfl, hB, h, Nat.le_refl _, by unfold maxLen; omega, by simp [iv], by rw [Nat.mul_one]; exact List.take_of_length_le (by show (iv xs).length ≤ xs.length; rw [iv_length]; exact Nat.le_refl _)⟩⟩
theorem filled_cnt (n : Nat) (ring : Bool) : filled (fun i => .int .i64 ((cntM n ring i : Nat) : Int)) (.int .i64 0) n n = iv (cntL n ring n) := by
  apply List.ext_getElem?
  intro i
  rcases Nat.lt_or_ge i n with h | h
  · rw [filled_get _ _ _ _ _ h, if_pos h]
    unfold iv cntL ints
    simp [h]
  · rw [List.getElem?_eq_none (by rw [filled_len]; exact h), List.getElem?_eq_none (by rw [iv_length, cntL_len]; exact h)]

set_option maxRecDepth 4000 in
set_option maxHeartbeats 2000000 in
theorem countsI_any (n : Nat) (ring : Bool) (w : World) (h2 : 2 ≤ n) (hn : n ≤ 24) (h3 : ring = true → 3 ≤ n) (hr : rowB n ring [] = true) :
    Calls Try.prog 25 #[.int .i64 n, .bool ring] w fun e w' => ∃ v, e = .returned (.tuple #[v, .bool true]) ∧ Out w.heap.size w' v (cntL n ring n) ∧ Below w.heap.size w w' := by
  have WE : Hid (∀ (p : Nat), p < n → ∀ (W : World), Calls Try.prog 46 #[rowV n ring (some ⟨W.heap.size, 0, none⟩) 1 1, .int .i64 24, .int .i64 2] (W.alloc (.cells #[.int .i64 (p : Int)] 3)) fun e w' => ∃ qv d cv qu l cu, e = .returned (.tuple #[.slice qv d cv, .agg #[.int .i64 n, .bool ring, .slice qu l cu]]) ∧ d + 1 = cntM n ring p ∧ d ≤ 24 ∧ Below W.heap.size W w') := by
    show ∀ _, _
    intro p hp W
    have e := tk_one hp
    have hq : Ri 0 (W.alloc (.cells #[.int .i64 (p : Int)] 3)).heap.size (W.alloc (.cells #[.int .i64 (p : Int)] 3)) (some ⟨W.heap.size, 0, none⟩) [(p : Int)] := lit_one (OwnArr.made W _ [_]) _ (by simp) (Nat.le_refl _)
    have := welcome_any n ring (some ⟨W.heap.size, 0, none⟩) 1 (oneS p) 24 2 (W.alloc (.cells #[.int .i64 (p : Int)] 3)) _ _ (by rw [e]; exact hq) h2 hn h3 (by omega) (by omega)
    rw [e] at this
    refine this.mono ?_
    rintro e' w' ⟨v, u, rfl, hV, hU, hb⟩
    obtain ⟨qv, cv, rfl, -⟩ := hV.rd
    obtain ⟨qu, cu, rfl, -⟩ := hU.rd
    have hl := ordM_len n ring 2 24 (oneS p)
    exact ⟨qv, _, cv, qu, _, cu, rfl, by rw [ints_length]; rfl, by rw [ints_length]; exact hl, ((Below.refl W.heap.size W).alloc (Nat.le_refl _) _).trans (hb.mono (by simp))⟩
  have I := Lib.hid (isRow_any n ring none 0 [] w 0 0 (Rd.nil 0 0 _ _ (Nat.zero_le _)) (by simp))
  rw [hr] at I
  have hmk0 := @run_make_row' Try.prog 25 3 (.int .i64 0) 8 Try.underlying25 infoInt rfl .i64 .i64 n (by omega) (by omega)
  rw [madeCells_one, ← filled_zero (fun i => .int .i64 ((cntM n ring i : Nat) : Int)) (.int .i64 0) n] at hmk0
  have HF := Lib.hid (filled_cnt n ring)
  have HLN := Lib.hid (cntL_len n ring n)
  clear h2 h3 hr
  go_enter Try.func25, Try.ntmps25
  go_wp2_with fail
  refine I.out.mono ?_
  rintro e w1 ⟨rfl, hb1⟩
  obtain ⟨w2, hw2⟩ : ∃ w2, w2 = w1.alloc (.cells (filled (fun i => .int .i64 ((cntM n ring i : Nat) : Int)) (.int .i64 0) n 0).toArray 3) := ⟨_, rfl⟩
  have hmk := hmk0 w1
  rw [← hw2] at hmk
  have HO2 : Hid (OwnArr w2 w1.heap.size 3 (filled (fun i => .int .i64 ((cntM n ring i : Nat) : Int)) (.int .i64 0) n 0)) := by show OwnArr _ _ _ _; rw [hw2]; exact OwnArr.made _ _ _
  have HB2 : Hid (Below w.heap.size w w2) := by show Below _ _ _; rw [hw2]; exact hb1.alloc hb1.size _
  have hg : w.heap.size ≤ w1.heap.size := hb1.size
  clear hb1 I hw2 hmk0
  go_wp2_with fail
  clear hmk
  go_loopw [7, 8, 9, 20] (fun _ _ _ i wr => ∃ (k : Nat), k ≤ n ∧ i = .int .i64 k ∧ Hid (OwnArr wr w1.heap.size 3 (filled (fun i => .int .i64 ((cntM n ring i : Nat) : Int)) (.int .i64 0) n k)) ∧ Hid (Below w.heap.size w wr)) (fun _ _ _ i _ => n - (intOf i).toNat)
  case atStart => exact ⟨0, Nat.zero_le _, rfl, HO2, HB2⟩
  case round =>
    obtain ⟨k, hk, rfl, HO, HB⟩ := hrel
    clear HO2 HB2
    by_cases hlt : k < n
    · have hk1 : (k : Int) < (n : Int) := by omega
      have W1 := Lib.hid (WE.out k hlt wr)
      have HST := Lib.hid (filled_set (fun i => .int .i64 ((cntM n ring i : Nat) : Int)) (.int .i64 0) n k)
      go_wp2_with fail
      refine W1.out.mono ?_
      rintro e w3 ⟨qv, d, cv, qu, l, cu, rfl, hd, hd24, hb3⟩
      have hw : IntKind.i64.wrap (1 + (d : Int)) = 1 + (d : Int) := IntWalk.i64_in _ (by omega)
      have hval : (1 + (d : Int)) = ((cntM n ring k : Nat) : Int) := by rw [← hd]; omega
      have hO3 := (HO.out.below hb3 HO.out.lt).alloc (.cells #[.int .i64 n, .bool ring, .slice qu l cu] 31)
      have hB3 := HB.out.trans (hb3.mono HB.out.size)
      have hB4 := hB3.alloc hB3.size (.cells #[.int .i64 n, .bool ring, .slice qu l cu] 31)
      have hold := hO3.cell k
      rw [filled_get _ _ _ _ _ hlt] at hold
      have hfree := hO3.free k
      have hset := hO3.set k (.int .i64 (1 + (d : Int)))
      rw [hval, HST.out, ← hval] at hset
      have HO4 := Lib.hid hset
      have HB4 := Lib.hid (hB4.setCell (p := ⟨w1.heap.size, k, none⟩) hg (.int .i64 (1 + (d : Int))))
      clear HO HB hb3 W1 HST hO3 hB3 hB4 hset hval hd
      go_wp2_with fail
      go_roundw
      case rel => exact ⟨k + 1, by omega, by go_num, HO4, HB4⟩
      case measure => simp [intOf]; omega
    · have hkn : k = n := by omega
      subst hkn
      have hO := HO.out
      rw [HF.out] at hO
      have hout := out_of_arr hO hg (by rw [HLN.out]; omega)
      rw [HLN.out] at hout
      have HOUT := Lib.hid hout
      clear hO hout HO
      go_wp2_with fail
      go_ret2
      exact ⟨_, rfl, HOUT.out, HB.out⟩

set_option maxHeartbeats 800000 in
theorem countsI_bad (s : Int) (ring : Bool) (w : World) (hr : rowB s ring [] = false) :
    Calls Try.prog 25 #[.int .i64 s, .bool ring] w fun e w' => ∃ v, e = .returned (.tuple #[v, .bool false]) ∧ Out w.heap.size w' v [] ∧ Below w.heap.size w w' := by
  have I := Lib.hid (isRow_any s ring none 0 [] w 0 0 (Rd.nil 0 0 _ _ (Nat.zero_le _)) (by simp))
  rw [hr] at I
  clear hr
  go_enter Try.func25, Try.ntmps25
  go_wp2_with fail
  refine I.out.mono ?_
  rintro e w1 ⟨rfl, hb1⟩
  have HB1 := Lib.hid hb1
  go_wp2_with fail
  go_ret2
  exact ⟨_, rfl, (Out.nilLit w1).mono HB1.out.size, HB1.out.alloc HB1.out.size _⟩

end Go.Proofs.Ytfpndbekinibhaa
