/- Chapter 6, spec side: spec.l6Cars, l6Ahead, l6Back. -/
import Derived.Test.YtfabannlebolfaaPrkM6
import Derived.Test.YtfabannlebolfaaSeat
import Derived.Test.YtfabannlebolfaaHasS
import Derived.Test.YtfabannlebolfaaOut
import Derived.StillTailTactics
namespace Go.Proofs.Ytfabannlebolfaa
open Go.RowKit

/-- a Row and a list of preferences are valid -/
def carsB (s : Int) (ring : Bool) (xs cs : List Int) : Bool := rowB s ring xs && (decide (cs.length ≤ 12) && cs.all (seatB s ring xs))
theorem carsB_is {s : Int} {ring : Bool} {xs cs : List Int} (h : carsB s ring xs cs = true) : ∃ (n : Nat) (S : Nat → Bool) (l : List Nat), s = n ∧ xs = ints (tk n S) ∧ cs = ints l ∧ 2 ≤ n ∧ n ≤ 24 ∧ (ring = true → 3 ≤ n) ∧ (∀ x ∈ l, x < n) ∧ l.length ≤ 12 := by
  unfold carsB at h
  rw [Bool.and_eq_true, Bool.and_eq_true, decide_eq_true_eq, List.all_eq_true] at h
  obtain ⟨n, S, rfl, rfl, h1, h2, h3⟩ := rowB_is h.1
  have hc : ∀ x ∈ cs, ∃ k : Nat, x = k ∧ k < n := by
    intro x hx
    have := h.2.2 x hx
    unfold seatB at this
    rw [Bool.and_eq_true, Bool.and_eq_true, decide_eq_true_eq, decide_eq_true_eq] at this
    exact ⟨x.toNat, by omega, by omega⟩
  refine ⟨n, S, cs.map Int.toNat, rfl, rfl, ?_, h1, h2, h3, ?_, by rw [List.length_map]; exact h.2.1⟩
  · unfold ints
    rw [List.map_map]
    conv => lhs; rw [← List.map_id cs]
    apply List.map_congr_left
    intro x hx
    obtain ⟨k, rfl, _⟩ := hc x hx
    simp
  · intro x hx
    rw [List.mem_map] at hx
    obtain ⟨y, hy, rfl⟩ := hx
    obtain ⟨k, rfl, hk⟩ := hc y hy
    simpa using hk

set_option maxRecDepth 4000 in
set_option maxHeartbeats 1600000 in
theorem l6Cars_any (s : Int) (ring : Bool) (p : Option Addr) (cap : Nat) (xs : List Int) (q : Option Addr) (c : Nat) (cs : List Int) (w : World) (lo hi lo2 hi2 : Nat) (hin : Ri lo hi w p xs) (hlen : xs.length ≤ 1048576) (hin2 : Ri lo2 hi2 w q cs) (hlen2 : cs.length ≤ 1048576) :
    Calls Try.prog 50 #[rowV s ring p xs.length cap, .slice q cs.length c] w fun e w' => e = .returned (.bool (carsB s ring xs cs)) ∧ Below w.heap.size w w' := by
  have HX0 := Lib.hid (OwnArr.made w 28 [.int .i64 s, .bool ring, .slice p xs.length cap])
  have HB0 := Lib.hid (box_below w s ring p xs.length cap 28)
  have ST := Lib.hid (fun (x : Int) (w' : World) (h' : Below w.heap.size w w') => l2Seat_any s ring p cap xs x w' lo hi (hin.below h' hin.top) hlen)
  have RW := Lib.hid (fun (w' : World) (h' : Below w.heap.size w w') => l2Row_any s ring p cap xs w' lo hi (hin.below h' hin.top) hlen)
  have HI2 := Lib.hid (fun (w' : World) (h' : Below w.heap.size w w') => hin2.below h' hin2.top)
  have HNO : Hid (∀ j, j < cs.length → seatB s ring xs (cs[j]?.getD 0) = false → carsB s ring xs cs = false) := by
    show ∀ _, _
    intro j hj h
    cases hC : carsB s ring xs cs with
    | false => rfl
    | true =>
      unfold carsB at hC
      rw [Bool.and_eq_true, Bool.and_eq_true, List.all_eq_true] at hC
      have := hC.2.2 _ (List.getElem_mem hj)
      rw [List.getElem?_eq_getElem hj] at h
      simp only [Option.getD_some] at h
      rw [this] at h; cases h
  have HYE : Hid (∀ j, (cs.length ≤ j ∨ 13 ≤ j) → (∀ i, i < j → i < cs.length → seatB s ring xs (cs[i]?.getD 0) = true) → carsB s ring xs cs = (rowB s ring xs && decide (cs.length ≤ 12))) := by
    show ∀ _, _
    intro j hj h
    unfold carsB
    congr 1
    by_cases h12 : cs.length ≤ 12
    · have : cs.all (seatB s ring xs) = true := by
        rw [List.all_eq_true]
        intro x hx
        obtain ⟨i, hi', rfl⟩ := List.getElem_of_mem hx
        have := h i (by omega) hi'
        rw [List.getElem?_eq_getElem hi'] at this
        exact this
      rw [this, Bool.and_true]
    · rw [decide_eq_false h12]; rfl
  obtain ⟨R, hR⟩ : ∃ R, carsB s ring xs cs = R := ⟨_, rfl⟩
  rw [hR] at HNO HYE ⊢
  obtain ⟨m0, hm0⟩ : ∃ m, xs.length = m := ⟨_, rfl⟩
  rw [hm0] at HX0 HB0 ST RW ⊢
  obtain ⟨m, hm⟩ : ∃ m, cs.length = m := ⟨_, rfl⟩
  rw [hm] at HNO HYE hlen2 ⊢
  have HM := Lib.hid hm
  clear hin hin2 hR hm0 hm hlen
  go_enter Try.func50, Try.ntmps50
  go_wp2_with fail
  go_loopw [5] (fun i wr => ∃ (j : Nat), j ≤ m ∧ j ≤ 13 ∧ i = .int .i64 (j : Int) ∧ Hid (∀ i, i < j → i < m → seatB s ring xs (cs[i]?.getD 0) = true) ∧ Hid (OwnArr wr w.heap.size 28 [.int .i64 s, .bool ring, .slice p m0 cap]) ∧ Hid (Below w.heap.size w wr)) (fun i _ => 13 - (intOf i).toNat)
  case atStart => exact ⟨0, Nat.zero_le _, by omega, rfl, Lib.hid (fun i h => absurd h (Nat.not_lt_zero _)), HX0, HB0⟩
  case round =>
    obtain ⟨j, hj, hj13, rfl, HS, HX, HB⟩ := hrel
    clear HX0 HB0
    obtain ⟨c0, c1, c2, -⟩ := HX.out.three
    by_cases hlt : j < m ∧ j ≤ 12
    · have hj1 : (j : Int) < (m : Int) := by omega
      have hj2 : (j : Int) ≤ 12 := by omega
      have hj0 : (0 : Int) ≤ (j : Int) := by omega
      have hjl : j < cs.length := by rw [HM.out]; exact hlt.1
      obtain ⟨b, off, rfl, -, -, hbw, hc⟩ := (HI2.out wr HB.out).int (by omega)
      have h0 := hc j hjl
      have hno := HNO.out j hlt.1
      have S0 := ST.out (cs[j]?.getD 0) wr.drew HB.out.drew
      obtain ⟨x, hx⟩ : ∃ x, cs[j]?.getD 0 = x := ⟨_, rfl⟩
      have HSX := Lib.hid hx
      rw [hx] at h0 hno S0
      obtain ⟨B, hBv⟩ : ∃ B, seatB s ring xs x = B := ⟨_, rfl⟩
      have HBV := Lib.hid hBv
      rw [hBv] at S0 hno
      replace S0 := Lib.hid S0
      replace hno := Lib.hid hno
      clear hc hbw hx hBv
      go_wp2_with fail
      go_still_tail 5, (by kernel_rfl)
      change wpList _ _ _ _ _ wr.drew
      go_wp2_with fail
      refine S0.out.mono ?_
      rintro e w2 ⟨rfl, hb2⟩
      have hb3 : Below wr.heap.size wr w2 := ((Below.refl _ wr).drew).trans hb2
      have HX2 := Lib.hid (HX.out.below hb3 HX.out.lt)
      have HB2 := Lib.hid (HB.out.trans (hb3.mono HB.out.size))
      clear hb2 hb3 S0 c0 c1 c2 h0
      cases B with
      | false =>
        have hr := hno.out rfl
        subst hr
        go_wp2_with fail
        go_ret
        exact ⟨rfl, HB2.out⟩
      | true =>
        have HS2 : Hid (∀ i, i < j + 1 → i < m → seatB s ring xs (cs[i]?.getD 0) = true) := by
          show ∀ _, _
          intro i hi' him
          by_cases e : i = j
          · subst e; rw [HSX.out, HBV.out]
          · exact HS.out i (by omega) him
        clear HS hno HSX HBV
        go_wp2_with fail
        go_roundw
        case rel => exact ⟨j + 1, by omega, by omega, by go_num, HS2, HX2, HB2⟩
        case measure => simp [intOf]; omega
    · have hye := HYE.out j (by omega) HS.out
      have R0 := RW.out wr HB.out
      obtain ⟨RB, hRB⟩ : ∃ RB, rowB s ring xs = RB := ⟨_, rfl⟩
      rw [hRB] at R0 hye
      have HYE2 := Lib.hid hye
      replace R0 := Lib.hid R0
      clear hye hRB HNO HYE
      by_cases hjm : j < m
      · have hj1 : (j : Int) < (m : Int) := by omega
        have hj2 : ¬ (j : Int) ≤ 12 := by omega
        have hm12 : ¬ (m : Int) ≤ 12 := by omega
        have hm13 : ¬ m ≤ 12 := by omega
        go_wp2_with fail
        refine R0.out.mono ?_
        rintro e w2 ⟨rfl, hb2⟩
        have HB2 := Lib.hid (HB.out.trans (hb2.mono HB.out.size))
        have hr : R = false := by rw [HYE2.out, decide_eq_false hm13, Bool.and_false]
        subst hr
        clear hb2 R0 HYE2 c0 c1 c2
        cases RB with
        | true =>
          go_wp2_with fail
          go_ret
          exact ⟨ret_bool (decide_eq_false (by omega)), HB2.out⟩
        | false =>
          go_wp2_with fail
          go_ret
          exact ⟨rfl, HB2.out⟩
      · have hj1 : ¬ (j : Int) < (m : Int) := by omega
        go_wp2_with fail
        refine R0.out.mono ?_
        rintro e w2 ⟨rfl, hb2⟩
        have HB2 := Lib.hid (HB.out.trans (hb2.mono HB.out.size))
        have hr := HYE2.out
        clear hb2 R0 HYE2 c0 c1 c2
        by_cases h12 : m ≤ 12
        · have hm12 : (m : Int) ≤ 12 := by omega
          rw [decide_eq_true h12, Bool.and_true] at hr
          subst hr
          cases R with
          | true =>
            go_wp2_with fail
            go_ret
            exact ⟨rfl, HB2.out⟩
          | false =>
            go_wp2_with fail
            go_ret
            exact ⟨rfl, HB2.out⟩
        · have hm12 : ¬ (m : Int) ≤ 12 := by omega
          rw [decide_eq_false h12, Bool.and_false] at hr
          subst hr
          cases RB with
          | true =>
            go_wp2_with fail
            go_ret
            exact ⟨ret_bool (decide_eq_false (by omega)), HB2.out⟩
          | false =>
            go_wp2_with fail
            go_ret
            exact ⟨rfl, HB2.out⟩
end Go.Proofs.Ytfabannlebolfaa
