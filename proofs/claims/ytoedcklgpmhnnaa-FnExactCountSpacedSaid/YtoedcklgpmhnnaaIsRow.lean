/- Valid Rows: spec.l1In, spec.l1Rising, spec.l2Row, spec.IsRow and impl.IsRow give rowB, for every Row. -/
import Derived.Test.YtoedcklgpmhnnaaRowHelp
namespace Go.Proofs.Ytoedcklgpmhnnaa
open Go.RowKit

theorem drop_get {xs : List Int} {k : Nat} (h : k < xs.length) : xs.drop k = (xs[k]?.getD 0) :: xs.drop (k + 1) := by
  rw [List.drop_eq_getElem_cons h, List.getElem?_eq_getElem h]; rfl
theorem rising_step {xs : List Int} {k : Nat} {b hi : Int} (h : k < xs.length) : rising b hi (xs.drop k) = (decide (b < xs[k]?.getD 0) && (decide (xs[k]?.getD 0 < hi) && rising (xs[k]?.getD 0) hi (xs.drop (k + 1)))) := by
  rw [drop_get h]; rfl
theorem rising_end {xs : List Int} {k : Nat} {b hi : Int} (h : xs.length ≤ k) : rising b hi (xs.drop k) = true := by
  rw [List.drop_eq_nil_of_le h]; rfl

theorem l1In_any (x a b : Int) (w : World) :
    Calls Try.prog 37 #[.int .i64 x, .int .i64 a, .int .i64 b] w fun e w' => e = .returned (.bool (decide (a ≤ x) && decide (x ≤ b))) ∧ w = w' := by
  by_cases h1 : a ≤ x
  · by_cases h2 : x ≤ b
    · go_enter Try.func37, Try.ntmps37
      go_wp2
      go_ret
      exact ⟨ret_bool (by simp; omega), rfl⟩
    · go_enter Try.func37, Try.ntmps37
      go_wp2
      go_ret
      exact ⟨ret_bool (by simp; omega), rfl⟩
  · go_enter Try.func37, Try.ntmps37
    go_wp2
    go_ret
    exact ⟨ret_bool (by simp; omega), rfl⟩

theorem rising_not {xs : List Int} {k : Nat} {b x hi : Int} (h : rising b hi (xs.drop k) = (decide (b < x) && (decide (x < hi) && rising x hi (xs.drop (k + 1))))) (hn : ¬ (b < x ∧ x < hi)) : rising b hi (xs.drop k) = false := by
  rw [h]
  by_cases h1 : b < x
  · have h2 : ¬ x < hi := fun h => hn ⟨h1, h⟩
    simp [h2]
  · simp [h1]
theorem rising_yes {xs : List Int} {k : Nat} {b x hi : Int} (h : rising b hi (xs.drop k) = (decide (b < x) && (decide (x < hi) && rising x hi (xs.drop (k + 1))))) (h1 : b < x) (h2 : x < hi) : rising b hi (xs.drop k) = rising x hi (xs.drop (k + 1)) := by
  rw [h]; simp [h1, h2]

set_option maxHeartbeats 800000 in
theorem rising_spec (s : Int) (p : Option Addr) (cap : Nat) (xs : List Int) (w : World) (lo hi : Nat) (hin : Ri lo hi w p xs) (hlen : xs.length ≤ 1048576) :
    Calls Try.prog 31 #[.slice p xs.length cap, .int .i64 0, .int .i64 (s - 1)] w fun e w' => e = .returned (.bool (rising (-1) s xs)) ∧ Below w.heap.size w w' := by
  have HIN := Lib.hid hin
  clear hin
  go_enter Try.func31, Try.ntmps31
  go_wp2
  go_loopw [7] (fun i wr => ∃ (k : Nat) (b : Int), k ≤ xs.length ∧ i = .int .i64 k ∧ Hid (rising (-1) s xs = rising b s (xs.drop k)) ∧ -1 ≤ b ∧ Hid (k = 0 → b = -1) ∧ Hid (0 < k → b = xs[k - 1]?.getD 0) ∧ Below w.heap.size w wr) (fun i _ => xs.length - (intOf i).toNat)
  case atStart => exact ⟨0, -1, Nat.zero_le _, rfl, rfl, by omega, fun _ => rfl, fun h => absurd h (Nat.lt_irrefl _), Below.refl _ _⟩
  case round =>
    obtain ⟨k, b, hk, rfl, HR, hb, HB0, HB, hbl⟩ := hrel
    by_cases hlt : k < xs.length
    · obtain ⟨c, off, rfl, _, _, hc, hcell⟩ := HIN.out.int (by omega)
      have h0 := (hbl.cell (p := ⟨c, off + k, none⟩) hc).trans (hcell k hlt)
      have hst := rising_step (b := b) (hi := s) hlt
      have hx : xs[k + 1 - 1]?.getD 0 = xs[k]?.getD 0 := rfl
      obtain ⟨x, hx'⟩ : ∃ x, x = xs[k]?.getD 0 := ⟨_, rfl⟩
      rw [← hx'] at h0 hst hx
      have HST := Lib.hid hst
      have HX := Lib.hid hx
      clear hst hx hx'
      have HL := fun w' => l1In_any x 0 (s - 1) w'
      by_cases h1 : 0 ≤ x ∧ x ≤ s - 1
      · obtain ⟨h1, h2⟩ := h1
        have e1 : (decide (0 ≤ x) && decide (x ≤ s - 1)) = true := by simp [h1, h2]
        rw [e1] at HL
        replace HL := Lib.hid HL
        clear e1
        by_cases hk0 : k = 0
        · have hb1 : b = -1 := HB0.out hk0
          have hk2 : ¬ 0 < k := by omega
          clear hcell
          have HN := Lib.hid (HR.out.trans (rising_yes HST.out (by omega) (by omega)))
          clear hk0
          go_wp2_with fail
          go_quiet ((go_at_call 37; exact quiet_same (HL.out _)))
          go_wp2_with fail
          go_roundw
          case rel => exact ⟨k + 1, x, by omega, by go_num, HN, by omega, fun h => absurd h (by omega), fun _ => HX.out.symm, bel_drewN hbl _⟩
          case measure => simp [intOf]; omega
        · have hcp := (hbl.cell (p := ⟨c, off + (k - 1), none⟩) hc).trans (hcell (k - 1) (by omega))
          rw [← HB.out (by omega)] at hcp
          have hk2 : 0 < k := by omega
          have hk3 : ((k : Int) - 1).toNat = k - 1 := by omega
          clear hcell
          by_cases h3 : b < x
          · have HN := Lib.hid (HR.out.trans (rising_yes HST.out h3 (by omega)))
            go_wp2_with fail
            go_quiet ((go_at_call 37; exact quiet_same (HL.out _)))
            go_wp2_with fail
            go_roundw
            case rel => exact ⟨k + 1, x, by omega, by go_num, HN, by omega, fun h => absurd h (by omega), fun _ => HX.out.symm, bel_drewN hbl _⟩
            case measure => simp [intOf]; omega
          · have HN := Lib.hid (HR.out.trans (rising_not HST.out (fun h => h3 h.1)))
            go_wp2_with fail
            go_quiet ((go_at_call 37; exact quiet_same (HL.out _)))
            go_wp2_with fail
            go_ret
            exact ⟨ret_bool (by rw [HN.out]), bel_drewN hbl _⟩
      · have e1 : (decide (0 ≤ x) && decide (x ≤ s - 1)) = false := by simp; omega
        rw [e1] at HL
        replace HL := Lib.hid HL
        clear e1
        have HN := Lib.hid (HR.out.trans (rising_not HST.out (by omega)))
        clear hcell
        go_wp2_with fail
        go_quiet ((go_at_call 37; exact quiet_same (HL.out _)))
        go_wp2_with fail
        go_ret
        exact ⟨ret_bool (by rw [HN.out]), bel_drewN hbl _⟩
    · go_wp2
      go_ret
      exact ⟨ret_bool (by rw [HR.out, rising_end (by omega)]), hbl⟩

set_option maxHeartbeats 800000 in
theorem l2Row_any (s : Int) (ring : Bool) (p : Option Addr) (cap : Nat) (xs : List Int) (w : World) (lo hi : Nat) (hin : Ri lo hi w p xs) (hlen : xs.length ≤ 1048576) :
    Calls Try.prog 44 #[rowV s ring p xs.length cap] w fun e w' => e = .returned (.bool (rowB s ring xs)) ∧ Below w.heap.size w w' := by
  have HL := fun w' => l1In_any s 2 24 w'
  by_cases h1 : 2 ≤ s ∧ s ≤ 24
  · obtain ⟨h1, h2⟩ := h1
    have e1 : (decide (2 ≤ s) && decide (s ≤ 24)) = true := by simp [h1, h2]
    rw [e1] at HL
    replace HL := Lib.hid HL
    clear e1
    by_cases h3 : ring = true ∧ s = 2
    · obtain ⟨rfl, rfl⟩ := h3
      go_enter Try.func44, Try.ntmps44
      go_wp2_with fail
      refine (HL.out _).mono ?_
      rintro e w' ⟨rfl, rfl⟩
      go_wp2_with fail
      go_ret
      exact ⟨ret_bool (by simp [rowB]), (Below.refl _ _).alloc (Nat.le_refl _) _⟩
    · have hb : Below w.heap.size w (w.alloc (.cells #[Value.int .i64 s, Value.bool ring, Value.slice p xs.length cap] 28)) := (Below.refl _ _).alloc (Nat.le_refl _) _
      have hrow : rowB s ring xs = rising (-1) s xs := by
        unfold rowB
        have e : (if ring then (3 : Int) else 2) ≤ s := by
          cases ring
          · simpa using h1
          · simp only [if_true]
            have : ¬ s = 2 := fun h => h3 ⟨rfl, h⟩
            omega
        simp [e, h2]
      rw [hrow]
      have R := Lib.hid (rising_spec s p cap xs _ lo hi (hin.bel hb) hlen)
      have HBL := Lib.hid hb
      clear hrow hin hb
      cases ring with
      | false =>
        clear h3
        go_enter Try.func44, Try.ntmps44
        go_wp2_with fail
        refine (HL.out _).mono ?_
        rintro e w' ⟨rfl, rfl⟩
        go_wp2_with fail
        refine R.out.mono ?_
        rintro e w2 ⟨rfl, hb2⟩
        go_wp2_with fail
        go_ret
        exact ⟨rfl, HBL.out.trans (hb2.mono HBL.out.size)⟩
      | true =>
        have h4 : 2 < s := by
          have : ¬ s = 2 := fun h => h3 ⟨rfl, h⟩
          omega
        clear h3
        go_enter Try.func44, Try.ntmps44
        go_wp2_with fail
        refine (HL.out _).mono ?_
        rintro e w' ⟨rfl, rfl⟩
        go_wp2_with fail
        refine R.out.mono ?_
        rintro e w2 ⟨rfl, hb2⟩
        go_wp2_with fail
        go_ret
        exact ⟨rfl, HBL.out.trans (hb2.mono HBL.out.size)⟩
  · have e1 : (decide (2 ≤ s) && decide (s ≤ 24)) = false := by simp; omega
    rw [e1] at HL
    replace HL := Lib.hid HL
    have hrow : rowB s ring xs = false := by
      unfold rowB
      cases ring <;> simp <;> omega
    rw [hrow]
    clear e1 hrow
    go_enter Try.func44, Try.ntmps44
    go_wp2_with fail
    refine (HL.out _).mono ?_
    rintro e w' ⟨rfl, rfl⟩
    go_wp2_with fail
    go_ret
    exact ⟨rfl, (Below.refl _ _).alloc (Nat.le_refl _) _⟩
end Go.Proofs.Ytoedcklgpmhnnaa
