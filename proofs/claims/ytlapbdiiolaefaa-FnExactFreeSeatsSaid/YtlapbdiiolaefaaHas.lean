/- Whether a seat is taken, free, one of a Row: spec.l1Has, spec.l2Is, spec.l2Seat, spec.IsRow; slices.Contains of numbers, impl.isTaken, isFree, IsRow, isSeatOf. For every Row. -/
import Derived.Test.YtlapbdiiolaefaaIsRow
namespace Go.Proofs.Ytlapbdiiolaefaa
open Go.RowKit

theorem notin_snoc {xs : List Int} {k : Nat} {x : Int} (h : x ∉ xs.take k) (hk : k < xs.length) (hx : ¬ xs[k]?.getD 0 = x) : x ∉ xs.take (k + 1) := by
  rw [List.take_succ_eq_append_getElem hk, List.mem_append, List.mem_singleton]
  rintro (h1 | h1)
  · exact h h1
  · apply hx; rw [h1, List.getElem?_eq_getElem hk]; rfl
theorem getD_mem' {xs : List Int} {k : Nat} {x : Int} (hk : k < xs.length) (hx : xs[k]?.getD 0 = x) : x ∈ xs := by
  rw [← hx, List.getElem?_eq_getElem hk]; exact List.getElem_mem hk
theorem has_false {xs : List Int} {k : Nat} {x : Int} (h : x ∉ xs.take k) (hk : xs.length ≤ k) : decide (x ∈ xs) = false := by
  rw [List.take_of_length_le hk] at h; simpa using h
theorem has_true {xs : List Int} {x : Int} (h : x ∈ xs) : decide (x ∈ xs) = true := by simpa using h

set_option maxHeartbeats 400000 in
theorem l1Has_any (p : Option Addr) (cap : Nat) (xs : List Int) (x : Int) (w : World) (lo hi : Nat) (hin : Ri lo hi w p xs) (hlen : xs.length ≤ 1048576) :
    Calls Try.prog 63 #[.slice p xs.length cap, .int .i64 x] w fun e w' => e = .returned (.bool (decide (x ∈ xs))) ∧ w = w' := by
  have HIN := Lib.hid hin
  clear hin
  go_enter Try.func63, Try.ntmps63
  go_wp2
  go_loop [5] (fun i => ∃ (k : Nat), k ≤ xs.length ∧ i = .int .i64 k ∧ Hid (x ∉ xs.take k)) (fun i => xs.length - (intOf i).toNat)
  case atStart => exact ⟨0, Nat.zero_le _, rfl, by show _ ∉ _; simp⟩
  case round =>
    obtain ⟨k, hk, rfl, HR⟩ := hrel
    by_cases hlt : k < xs.length
    · obtain ⟨c, off, rfl, _, _, hc, hcell⟩ := HIN.out.int (by omega)
      have h0 := hcell k hlt
      have HN := Lib.hid (fun h => notin_snoc HR.out hlt h)
      have HY := Lib.hid (fun h => has_true (getD_mem' (x := x) hlt h))
      obtain ⟨y, hy⟩ : ∃ y, y = xs[k]?.getD 0 := ⟨_, rfl⟩
      rw [← hy] at h0 HN HY
      clear hcell hy
      by_cases he : y = x
      · have HY' := Lib.hid (HY.out he)
        subst he
        clear HY HN
        go_wp2
        go_ret
        exact ⟨ret_bool HY'.out.symm, rfl⟩
      · have HN' := Lib.hid (HN.out he)
        clear HY HN
        go_wp2
        go_round
        case rel => exact ⟨k + 1, by omega, by go_num, HN'⟩
        case measure => simp [intOf]; omega
    · have HF := Lib.hid (has_false HR.out (by omega))
      go_wp2
      go_ret
      exact ⟨ret_bool HF.out.symm, rfl⟩

set_option maxHeartbeats 400000 in
theorem index_any (p : Option Addr) (cap : Nat) (xs : List Int) (x : Int) (w : World) (lo hi : Nat) (hin : Ri lo hi w p xs) (hlen : xs.length ≤ 1048576) :
    Calls Try.prog 62 #[.slice p xs.length cap, .int .i64 x] w fun e w' => ∃ r : Int, e = .returned (.int .i64 r) ∧ (0 ≤ r ↔ x ∈ xs) ∧ w = w' := by
  have HIN := Lib.hid hin
  clear hin
  go_enter Try.func62, Try.ntmps62
  go_wp2
  go_loop [5, 8] (fun _ i => ∃ (k : Nat), k ≤ xs.length ∧ i = .int .i64 k ∧ Hid (x ∉ xs.take k)) (fun _ i => xs.length - (intOf i).toNat)
  case atStart => exact ⟨0, Nat.zero_le _, rfl, by show _ ∉ _; simp⟩
  case round =>
    obtain ⟨k, hk, rfl, HR⟩ := hrel
    by_cases hlt : k < xs.length
    · obtain ⟨c, off, rfl, _, _, hc, hcell⟩ := HIN.out.int (by omega)
      have h0 := hcell k hlt
      have HN := Lib.hid (fun h => notin_snoc HR.out hlt h)
      have HY := Lib.hid (fun h => has_true (getD_mem' (x := x) hlt h))
      obtain ⟨y, hy⟩ : ∃ y, y = xs[k]?.getD 0 := ⟨_, rfl⟩
      rw [← hy] at h0 HN HY
      clear hcell hy
      by_cases he : y = x
      · have HY' := Lib.hid (HY.out he)
        subst he
        clear HY HN
        go_wp2
        go_ret
        exact ⟨_, rfl, by have := HY'.out; simp only [decide_eq_true_eq] at this; simp [this], rfl⟩
      · have HN' := Lib.hid (HN.out he)
        have he2 : ¬ x = y := fun h => he h.symm
        clear HY HN
        go_wp2
        go_round
        case rel => exact ⟨k + 1, by omega, by go_num, HN'⟩
        case measure => simp [intOf]; omega
    · have HF := Lib.hid (has_false HR.out (by omega))
      go_wp2
      go_ret
      exact ⟨_, rfl, by have := HF.out; simp only [decide_eq_false_iff_not] at this; simp [this], rfl⟩

theorem contains_any (p : Option Addr) (cap : Nat) (xs : List Int) (x : Int) (w : World) (lo hi : Nat) (hin : Ri lo hi w p xs) (hlen : xs.length ≤ 1048576) :
    Calls Try.prog 57 #[.slice p xs.length cap, .int .i64 x] w fun e w' => e = .returned (.bool (decide (x ∈ xs))) ∧ w = w' := by
  have I := Lib.hid (index_any p cap xs x w lo hi hin hlen)
  clear hin
  go_enter Try.func57, Try.ntmps57
  go_wp2_with fail
  refine I.out.mono ?_
  rintro e w' ⟨r, rfl, hr, rfl⟩
  replace hr := Lib.hid hr
  go_wp2_with fail
  go_ret
  exact ⟨ret_bool (decide_eq_decide.2 hr.out), rfl⟩

theorem box_below (w : World) (s : Int) (ring : Bool) (p : Option Addr) (n cap : Nat) (t : TypeId) : Below w.heap.size w (w.alloc (.cells #[Value.int .i64 s, Value.bool ring, Value.slice p n cap] t)) := (Below.refl _ _).alloc (Nat.le_refl _) _

theorem l2Is_any (s : Int) (ring : Bool) (p : Option Addr) (cap : Nat) (xs : List Int) (x : Int) (w : World) (lo hi : Nat) (hin : Ri lo hi w p xs) (hlen : xs.length ≤ 1048576) :
    Calls Try.prog 58 #[rowV s ring p xs.length cap, .int .i64 x] w fun e w' => e = .returned (.bool (decide (x ∈ xs))) ∧ Below w.heap.size w w' := by
  have hb := box_below w s ring p xs.length cap 27
  have I := Lib.hid (l1Has_any p cap xs x _ lo hi (hin.bel hb) hlen)
  replace hb := Lib.hid hb
  clear hin
  go_enter Try.func58, Try.ntmps58
  go_wp2_with fail
  refine I.out.mono ?_
  rintro e w' ⟨rfl, rfl⟩
  go_wp2_with fail
  go_ret
  exact ⟨rfl, hb.out⟩

theorem isTaken_any (s : Int) (ring : Bool) (p : Option Addr) (cap : Nat) (xs : List Int) (x : Int) (w : World) (lo hi : Nat) (hin : Ri lo hi w p xs) (hlen : xs.length ≤ 1048576) :
    Calls Try.prog 43 #[rowV s ring p xs.length cap, .int .i64 x] w fun e w' => e = .returned (.bool (decide (x ∈ xs))) ∧ Below w.heap.size w w' := by
  have hb := box_below w s ring p xs.length cap 27
  have I := Lib.hid (contains_any p cap xs x _ lo hi (hin.bel hb) hlen)
  replace hb := Lib.hid hb
  clear hin
  go_enter Try.func43, Try.ntmps43
  go_wp2_with fail
  refine I.out.mono ?_
  rintro e w' ⟨rfl, rfl⟩
  go_wp2_with fail
  go_ret
  exact ⟨rfl, hb.out⟩

theorem isFree_any (s : Int) (ring : Bool) (p : Option Addr) (cap : Nat) (xs : List Int) (x : Int) (w : World) (lo hi : Nat) (hin : Ri lo hi w p xs) (hlen : xs.length ≤ 1048576) :
    Calls Try.prog 45 #[rowV s ring p xs.length cap, .int .i64 x] w fun e w' => e = .returned (.bool (!decide (x ∈ xs))) ∧ Below w.heap.size w w' := by
  have hb := box_below w s ring p xs.length cap 27
  have I := Lib.hid (isTaken_any s ring p cap xs x _ lo hi (hin.bel hb) hlen)
  replace hb := Lib.hid hb
  clear hin
  obtain ⟨B, hB⟩ : ∃ B, decide (x ∈ xs) = B := ⟨_, rfl⟩
  rw [hB] at I ⊢
  clear hB
  go_enter Try.func45, Try.ntmps45
  go_wp2_with fail
  refine I.out.mono ?_
  rintro e w' ⟨rfl, hb2⟩
  go_wp2_with fail
  go_ret
  exact ⟨rfl, hb.out.trans (hb2.mono hb.out.size)⟩

set_option maxHeartbeats 800000 in
theorem isRow_line (s : Int) (p : Option Addr) (cap : Nat) (xs : List Int) (w : World) (lo hi : Nat) (hin : Ri lo hi w p xs) (hlen : xs.length ≤ 1048576) :
    Calls Try.prog 13 #[rowV s false p xs.length cap] w fun e w' => e = .returned (.bool (rowB s false xs)) ∧ Below w.heap.size w w' := by
  have hb := box_below w s false p xs.length cap 27
  have HIN := Lib.hid (hin.bel hb)
  have HB := Lib.hid hb
  clear hin hb
  by_cases h1 : 2 ≤ s
  · by_cases h2 : s ≤ 24
    · have hrow : rowB s false xs = rising (-1) s xs := by unfold rowB; simp [h1, h2]
      rw [hrow]
      clear hrow
      go_enter Try.func13, Try.ntmps13
      go_wp2
      go_loop [4, 6, 21] (fun b _ i => ∃ (k : Nat) (y : Int), k ≤ xs.length ∧ i = .int .i64 k ∧ b = .int .i64 y ∧ Hid (rising (-1) s xs = rising y s (xs.drop k))) (fun _ _ i => xs.length - (intOf i).toNat)
      case atStart => exact ⟨0, -1, Nat.zero_le _, rfl, rfl, rfl⟩
      case round =>
        obtain ⟨k, y, hk, rfl, rfl, HR⟩ := hrel
        by_cases hlt : k < xs.length
        · obtain ⟨c, off, rfl, _, _, hc, hcell⟩ := HIN.out.int (by omega)
          have h0 := hcell k hlt
          have hst := rising_step (b := y) (hi := s) hlt
          obtain ⟨x, hx'⟩ : ∃ x, x = xs[k]?.getD 0 := ⟨_, rfl⟩
          rw [← hx'] at h0 hst
          have HST := Lib.hid hst
          clear hst hx' hcell
          by_cases h3 : y < x
          · by_cases h4 : x < s
            · have HN := Lib.hid (HR.out.trans (rising_yes HST.out h3 h4))
              go_wp2
              go_round
              case rel => exact ⟨k + 1, x, by omega, by go_num, rfl, HN⟩
              case measure => simp [intOf]; omega
            · have HN := Lib.hid (HR.out.trans (rising_not HST.out (fun h => h4 h.2)))
              go_wp2
              go_ret
              exact ⟨ret_bool HN.out.symm, HB.out⟩
          · have HN := Lib.hid (HR.out.trans (rising_not HST.out (fun h => h3 h.1)))
            go_wp2
            go_ret
            exact ⟨ret_bool HN.out.symm, HB.out⟩
        · have HN := Lib.hid (HR.out.trans (rising_end (by omega)))
          go_wp2
          go_ret
          exact ⟨ret_bool HN.out.symm, HB.out⟩
    · have hrow : rowB s false xs = false := by unfold rowB; simp [h2]
      rw [hrow]
      clear hrow
      go_enter Try.func13, Try.ntmps13
      go_wp2
      go_ret
      exact ⟨rfl, HB.out⟩
  · have hrow : rowB s false xs = false := by unfold rowB; simp [h1]
    rw [hrow]
    clear hrow
    go_enter Try.func13, Try.ntmps13
    go_wp2
    go_ret
    exact ⟨rfl, HB.out⟩

set_option maxHeartbeats 800000 in
theorem isRow_ring (s : Int) (p : Option Addr) (cap : Nat) (xs : List Int) (w : World) (lo hi : Nat) (hin : Ri lo hi w p xs) (hlen : xs.length ≤ 1048576) :
    Calls Try.prog 13 #[rowV s true p xs.length cap] w fun e w' => e = .returned (.bool (rowB s true xs)) ∧ Below w.heap.size w w' := by
  have hb := box_below w s true p xs.length cap 27
  have HIN := Lib.hid (hin.bel hb)
  have HB := Lib.hid hb
  clear hin hb
  by_cases h1 : 3 ≤ s
  · by_cases h2 : s ≤ 24
    · have hrow : rowB s true xs = rising (-1) s xs := by unfold rowB; simp [h1, h2]
      rw [hrow]
      clear hrow
      go_enter Try.func13, Try.ntmps13
      go_wp2
      go_loop [4, 6, 21] (fun b _ i => ∃ (k : Nat) (y : Int), k ≤ xs.length ∧ i = .int .i64 k ∧ b = .int .i64 y ∧ Hid (rising (-1) s xs = rising y s (xs.drop k))) (fun _ _ i => xs.length - (intOf i).toNat)
      case atStart => exact ⟨0, -1, Nat.zero_le _, rfl, rfl, rfl⟩
      case round =>
        obtain ⟨k, y, hk, rfl, rfl, HR⟩ := hrel
        by_cases hlt : k < xs.length
        · obtain ⟨c, off, rfl, _, _, hc, hcell⟩ := HIN.out.int (by omega)
          have h0 := hcell k hlt
          have hst := rising_step (b := y) (hi := s) hlt
          obtain ⟨x, hx'⟩ : ∃ x, x = xs[k]?.getD 0 := ⟨_, rfl⟩
          rw [← hx'] at h0 hst
          have HST := Lib.hid hst
          clear hst hx' hcell
          by_cases h3 : y < x
          · by_cases h4 : x < s
            · have HN := Lib.hid (HR.out.trans (rising_yes HST.out h3 h4))
              go_wp2
              go_round
              case rel => exact ⟨k + 1, x, by omega, by go_num, rfl, HN⟩
              case measure => simp [intOf]; omega
            · have HN := Lib.hid (HR.out.trans (rising_not HST.out (fun h => h4 h.2)))
              go_wp2
              go_ret
              exact ⟨ret_bool HN.out.symm, HB.out⟩
          · have HN := Lib.hid (HR.out.trans (rising_not HST.out (fun h => h3 h.1)))
            go_wp2
            go_ret
            exact ⟨ret_bool HN.out.symm, HB.out⟩
        · have HN := Lib.hid (HR.out.trans (rising_end (by omega)))
          go_wp2
          go_ret
          exact ⟨ret_bool HN.out.symm, HB.out⟩
    · have hrow : rowB s true xs = false := by unfold rowB; simp [h2]
      rw [hrow]
      clear hrow
      go_enter Try.func13, Try.ntmps13
      go_wp2
      go_ret
      exact ⟨rfl, HB.out⟩
  · have hrow : rowB s true xs = false := by unfold rowB; simp [h1]
    rw [hrow]
    clear hrow
    go_enter Try.func13, Try.ntmps13
    go_wp2
    go_ret
    exact ⟨rfl, HB.out⟩

theorem isRow_any (s : Int) (ring : Bool) (p : Option Addr) (cap : Nat) (xs : List Int) (w : World) (lo hi : Nat) (hin : Ri lo hi w p xs) (hlen : xs.length ≤ 1048576) :
    Calls Try.prog 13 #[rowV s ring p xs.length cap] w fun e w' => e = .returned (.bool (rowB s ring xs)) ∧ Below w.heap.size w w' := by
  cases ring
  · exact isRow_line s p cap xs w lo hi hin hlen
  · exact isRow_ring s p cap xs w lo hi hin hlen

theorem isRowS_any (s : Int) (ring : Bool) (p : Option Addr) (cap : Nat) (xs : List Int) (w : World) (lo hi : Nat) (hin : Ri lo hi w p xs) (hlen : xs.length ≤ 1048576) :
    Calls Try.prog 11 #[rowV s ring p xs.length cap] w fun e w' => e = .returned (.bool (rowB s ring xs)) ∧ Below w.heap.size w w' := by
  have hb := box_below w s ring p xs.length cap 27
  have I := Lib.hid (l2Row_any s ring p cap xs _ lo hi (hin.bel hb) hlen)
  replace hb := Lib.hid hb
  clear hin
  go_enter Try.func11, Try.ntmps11
  go_wp2_with fail
  refine I.out.mono ?_
  rintro e w' ⟨rfl, hb2⟩
  go_wp2_with fail
  go_ret
  exact ⟨rfl, hb.out.trans (hb2.mono hb.out.size)⟩

/-- a seat of a valid Row -/
def seatB (s : Int) (ring : Bool) (xs : List Int) (x : Int) : Bool := rowB s ring xs && (decide (0 ≤ x) && decide (x < s))

set_option maxHeartbeats 800000 in
theorem isSeatOf_any (s : Int) (ring : Bool) (p : Option Addr) (cap : Nat) (xs : List Int) (x : Int) (w : World) (lo hi : Nat) (hin : Ri lo hi w p xs) (hlen : xs.length ≤ 1048576) :
    Calls Try.prog 39 #[rowV s ring p xs.length cap, .int .i64 x] w fun e w' => e = .returned (.bool (seatB s ring xs x)) ∧ Below w.heap.size w w' := by
  have hb := box_below w s ring p xs.length cap 27
  have I := Lib.hid (isRow_any s ring p cap xs _ lo hi (hin.bel hb) hlen)
  have hbox : OwnArr (w.alloc (.cells #[Value.int .i64 s, Value.bool ring, Value.slice p xs.length cap] 27)) w.heap.size 27 [.int .i64 s, .bool ring, .slice p xs.length cap] := OwnArr.made w _ _
  have HX := Lib.hid hbox
  replace hb := Lib.hid hb
  clear hin hbox
  unfold seatB
  obtain ⟨B, hB⟩ : ∃ B, rowB s ring xs = B := ⟨_, rfl⟩
  rw [hB] at I ⊢
  clear hB
  cases B with
  | false =>
    go_enter Try.func39, Try.ntmps39
    go_wp2_with fail
    refine I.out.mono ?_
    rintro e w' ⟨rfl, hb2⟩
    go_wp2_with fail
    go_ret
    exact ⟨rfl, hb.out.trans (hb2.mono hb.out.size)⟩
  | true =>
    by_cases h1 : 0 ≤ x
    · go_enter Try.func39, Try.ntmps39
      go_wp2_with fail
      refine I.out.mono ?_
      rintro e w' ⟨rfl, hb2⟩
      have hc := (HX.out.below hb2 (by simp)).cell 0
      simp only [List.getElem?_cons_zero] at hc
      go_wp2_with fail
      go_ret
      exact ⟨ret_bool (by simp [h1]), hb.out.trans (hb2.mono hb.out.size)⟩
    · go_enter Try.func39, Try.ntmps39
      go_wp2_with fail
      refine I.out.mono ?_
      rintro e w' ⟨rfl, hb2⟩
      go_wp2_with fail
      go_ret
      exact ⟨ret_bool (by simp; omega), hb.out.trans (hb2.mono hb.out.size)⟩

set_option maxHeartbeats 800000 in
theorem l2Seat_any (s : Int) (ring : Bool) (p : Option Addr) (cap : Nat) (xs : List Int) (x : Int) (w : World) (lo hi : Nat) (hin : Ri lo hi w p xs) (hlen : xs.length ≤ 1048576) :
    Calls Try.prog 37 #[rowV s ring p xs.length cap, .int .i64 x] w fun e w' => e = .returned (.bool (seatB s ring xs x)) ∧ Below w.heap.size w w' := by
  have hb := box_below w s ring p xs.length cap 27
  have I := Lib.hid (l2Row_any s ring p cap xs _ lo hi (hin.bel hb) hlen)
  have hbox : OwnArr (w.alloc (.cells #[Value.int .i64 s, Value.bool ring, Value.slice p xs.length cap] 27)) w.heap.size 27 [.int .i64 s, .bool ring, .slice p xs.length cap] := OwnArr.made w _ _
  have HX := Lib.hid hbox
  replace hb := Lib.hid hb
  clear hin hbox
  unfold seatB
  by_cases hB : rowB s ring xs = true
  · have hs : 2 ≤ s ∧ s ≤ 24 := by
      obtain ⟨n, S, rfl, _, h1, h2, _⟩ := rowB_is hB
      omega
    obtain ⟨hs1, hs2⟩ := hs
    rw [hB] at I ⊢
    have HL := fun w' => l1In_any x 0 (s - 1) w'
    obtain ⟨C, hC⟩ : ∃ C, (decide (0 ≤ x) && decide (x ≤ s - 1)) = C := ⟨_, rfl⟩
    have hD : (decide (0 ≤ x) && decide (x < s)) = C := by
      rw [← hC]
      have : decide (x < s) = decide (x ≤ s - 1) := decide_eq_decide.2 (by omega)
      rw [this]
    rw [hC] at HL
    rw [hD]
    replace HL := Lib.hid HL
    clear hC hD hB
    go_enter Try.func37, Try.ntmps37
    go_wp2_with fail
    refine I.out.mono ?_
    rintro e w' ⟨rfl, hb2⟩
    have hc := (HX.out.below hb2 (by simp)).cell 0
    simp only [List.getElem?_cons_zero] at hc
    go_wp2_with fail
    refine (HL.out _).mono ?_
    rintro e w3 ⟨rfl, rfl⟩
    go_wp2_with fail
    go_ret
    exact ⟨rfl, hb.out.trans (hb2.mono hb.out.size)⟩
  · have hB' : rowB s ring xs = false := by simpa using hB
    rw [hB'] at I ⊢
    clear hB hB'
    go_enter Try.func37, Try.ntmps37
    go_wp2_with fail
    refine I.out.mono ?_
    rintro e w' ⟨rfl, hb2⟩
    go_wp2_with fail
    go_ret
    exact ⟨rfl, hb.out.trans (hb2.mono hb.out.size)⟩
end Go.Proofs.Ytlapbdiiolaefaa
