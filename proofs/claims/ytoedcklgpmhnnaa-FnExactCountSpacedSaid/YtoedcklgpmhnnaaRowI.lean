/- impl.IsRow gives rowB, for every Row. -/
import Derived.Test.YtoedcklgpmhnnaaHas0
namespace Go.Proofs.Ytoedcklgpmhnnaa
open Go.RowKit

set_option maxHeartbeats 800000 in
theorem isRow_line (s : Int) (p : Option Addr) (cap : Nat) (xs : List Int) (w : World) (lo hi : Nat) (hin : Ri lo hi w p xs) (hlen : xs.length ≤ 1048576) :
    Calls Try.prog 45 #[rowV s false p xs.length cap] w fun e w' => e = .returned (.bool (rowB s false xs)) ∧ Below w.heap.size w w' := by
  have hb := box_below w s false p xs.length cap 28
  have HIN := Lib.hid (hin.bel hb)
  have HB := Lib.hid hb
  clear hin hb
  by_cases h1 : 2 ≤ s
  · by_cases h2 : s ≤ 24
    · have hrow : rowB s false xs = rising (-1) s xs := by unfold rowB; simp [h1, h2]
      rw [hrow]
      clear hrow
      go_enter Try.func45, Try.ntmps45
      go_wp2
      go_loop [4, 6, 21] (fun b _ i => ∃ (k : Nat) (y : Int), k ≤ xs.length ∧ i = .int .i64 k ∧ b = .int .i64 y ∧ Hid (rising (-1) s xs = rising y s (xs.drop k))) (fun _ _ i => xs.length - (intOf i).toNat)
      case atStart => exact ⟨0, -1, Nat.zero_le _, rfl, rfl, rfl⟩
      case round =>
        obtain ⟨k, y, hk, rfl, rfl, HR⟩ := hrel
        by_cases hlt : k < xs.length
        · obtain ⟨c, off, rfl, _, _, hc, hcell⟩ := HIN.out.int (by omega)
          have h0 := hcell k hlt
          have hst := rising_step (b := y) (hi := s) hlt
          obtain ⟨x, hx'⟩ : ∃ x, x = xs[k]?.getD 0 := ⟨_, rfl⟩
          rw [← hx'] at h0 hst
          have HST := Lib.hid hst
          clear hst hx' hcell
          by_cases h3 : y < x
          · by_cases h4 : x < s
            · have HN := Lib.hid (HR.out.trans (rising_yes HST.out h3 h4))
              go_wp2
              go_round
              case rel => exact ⟨k + 1, x, by omega, by go_num, rfl, HN⟩
              case measure => simp [intOf]; omega
            · have HN := Lib.hid (HR.out.trans (rising_not HST.out (fun h => h4 h.2)))
              go_wp2
              go_ret
              exact ⟨ret_bool HN.out.symm, HB.out⟩
          · have HN := Lib.hid (HR.out.trans (rising_not HST.out (fun h => h3 h.1)))
            go_wp2
            go_ret
            exact ⟨ret_bool HN.out.symm, HB.out⟩
        · have HN := Lib.hid (HR.out.trans (rising_end (by omega)))
          go_wp2
          go_ret
          exact ⟨ret_bool HN.out.symm, HB.out⟩
    · have hrow : rowB s false xs = false := by unfold rowB; simp [h2]
      rw [hrow]
      clear hrow
      go_enter Try.func45, Try.ntmps45
      go_wp2
      go_ret
      exact ⟨rfl, HB.out⟩
  · have hrow : rowB s false xs = false := by unfold rowB; simp [h1]
    rw [hrow]
    clear hrow
    go_enter Try.func45, Try.ntmps45
    go_wp2
    go_ret
    exact ⟨rfl, HB.out⟩

set_option maxHeartbeats 800000 in
theorem isRow_ring (s : Int) (p : Option Addr) (cap : Nat) (xs : List Int) (w : World) (lo hi : Nat) (hin : Ri lo hi w p xs) (hlen : xs.length ≤ 1048576) :
    Calls Try.prog 45 #[rowV s true p xs.length cap] w fun e w' => e = .returned (.bool (rowB s true xs)) ∧ Below w.heap.size w w' := by
  have hb := box_below w s true p xs.length cap 28
  have HIN := Lib.hid (hin.bel hb)
  have HB := Lib.hid hb
  clear hin hb
  by_cases h1 : 3 ≤ s
  · by_cases h2 : s ≤ 24
    · have hrow : rowB s true xs = rising (-1) s xs := by unfold rowB; simp [h1, h2]
      rw [hrow]
      clear hrow
      go_enter Try.func45, Try.ntmps45
      go_wp2
      go_loop [4, 6, 21] (fun b _ i => ∃ (k : Nat) (y : Int), k ≤ xs.length ∧ i = .int .i64 k ∧ b = .int .i64 y ∧ Hid (rising (-1) s xs = rising y s (xs.drop k))) (fun _ _ i => xs.length - (intOf i).toNat)
      case atStart => exact ⟨0, -1, Nat.zero_le _, rfl, rfl, rfl⟩
      case round =>
        obtain ⟨k, y, hk, rfl, rfl, HR⟩ := hrel
        by_cases hlt : k < xs.length
        · obtain ⟨c, off, rfl, _, _, hc, hcell⟩ := HIN.out.int (by omega)
          have h0 := hcell k hlt
          have hst := rising_step (b := y) (hi := s) hlt
          obtain ⟨x, hx'⟩ : ∃ x, x = xs[k]?.getD 0 := ⟨_, rfl⟩
          rw [← hx'] at h0 hst
          have HST := Lib.hid hst
          clear hst hx' hcell
          by_cases h3 : y < x
          · by_cases h4 : x < s
            · have HN := Lib.hid (HR.out.trans (rising_yes HST.out h3 h4))
              go_wp2
              go_round
              case rel => exact ⟨k + 1, x, by omega, by go_num, rfl, HN⟩
              case measure => simp [intOf]; omega
            · have HN := Lib.hid (HR.out.trans (rising_not HST.out (fun h => h4 h.2)))
              go_wp2
              go_ret
              exact ⟨ret_bool HN.out.symm, HB.out⟩
          · have HN := Lib.hid (HR.out.trans (rising_not HST.out (fun h => h3 h.1)))
            go_wp2
            go_ret
            exact ⟨ret_bool HN.out.symm, HB.out⟩
        · have HN := Lib.hid (HR.out.trans (rising_end (by omega)))
          go_wp2
          go_ret
          exact ⟨ret_bool HN.out.symm, HB.out⟩
    · have hrow : rowB s true xs = false := by unfold rowB; simp [h2]
      rw [hrow]
      clear hrow
      go_enter Try.func45, Try.ntmps45
      go_wp2
      go_ret
      exact ⟨rfl, HB.out⟩
  · have hrow : rowB s true xs = false := by unfold rowB; simp [h1]
    rw [hrow]
    clear hrow
    go_enter Try.func45, Try.ntmps45
    go_wp2
    go_ret
    exact ⟨rfl, HB.out⟩

theorem isRow_any (s : Int) (ring : Bool) (p : Option Addr) (cap : Nat) (xs : List Int) (w : World) (lo hi : Nat) (hin : Ri lo hi w p xs) (hlen : xs.length ≤ 1048576) :
    Calls Try.prog 45 #[rowV s ring p xs.length cap] w fun e w' => e = .returned (.bool (rowB s ring xs)) ∧ Below w.heap.size w w' := by
  cases ring
  · exact isRow_line s p cap xs w lo hi hin hlen
  · exact isRow_ring s p cap xs w lo hi hin hlen
end Go.Proofs.Ytoedcklgpmhnnaa
