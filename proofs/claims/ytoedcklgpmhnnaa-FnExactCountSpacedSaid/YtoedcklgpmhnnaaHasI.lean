/- slices.Contains of numbers; impl's isTaken, for every Row. -/
import Derived.Test.YtoedcklgpmhnnaaHas0
namespace Go.Proofs.Ytoedcklgpmhnnaa
open Go.RowKit

set_option maxHeartbeats 400000 in
theorem index_any (p : Option Addr) (cap : Nat) (xs : List Int) (x : Int) (w : World) (lo hi : Nat) (hin : Ri lo hi w p xs) (hlen : xs.length ≤ 1048576) :
    Calls Try.prog 35 #[.slice p xs.length cap, .int .i64 x] w fun e w' => ∃ r : Int, e = .returned (.int .i64 r) ∧ (0 ≤ r ↔ x ∈ xs) ∧ w = w' := by
  have HIN := Lib.hid hin
  clear hin
  go_enter Try.func35, Try.ntmps35
  go_wp2
  go_loop [5, 8] (fun _ i => ∃ (k : Nat), k ≤ xs.length ∧ i = .int .i64 k ∧ Hid (x ∉ xs.take k)) (fun _ i => xs.length - (intOf i).toNat)
  case atStart => exact ⟨0, Nat.zero_le _, rfl, by show _ ∉ _; simp⟩
  case round =>
    obtain ⟨k, hk, rfl, HR⟩ := hrel
    by_cases hlt : k < xs.length
    · obtain ⟨c, off, rfl, _, _, hc, hcell⟩ := HIN.out.int (by omega)
      have h0 := hcell k hlt
      have HN := Lib.hid (fun h => notin_snoc HR.out hlt h)
      have HY := Lib.hid (fun h => has_true (getD_mem' (x := x) hlt h))
      obtain ⟨y, hy⟩ : ∃ y, y = xs[k]?.getD 0 := ⟨_, rfl⟩
      rw [← hy] at h0 HN HY
      clear hcell hy
      by_cases he : y = x
      · have HY' := Lib.hid (HY.out he)
        subst he
        clear HY HN
        go_wp2
        go_ret
        exact ⟨_, rfl, by have := HY'.out; simp only [decide_eq_true_eq] at this; simp [this], rfl⟩
      · have HN' := Lib.hid (HN.out he)
        have he2 : ¬ x = y := fun h => he h.symm
        clear HY HN
        go_wp2
        go_round
        case rel => exact ⟨k + 1, by omega, by go_num, HN'⟩
        case measure => simp [intOf]; omega
    · have HF := Lib.hid (has_false HR.out (by omega))
      go_wp2
      go_ret
      exact ⟨_, rfl, by have := HF.out; simp only [decide_eq_false_iff_not] at this; simp [this], rfl⟩

theorem contains_any (p : Option Addr) (cap : Nat) (xs : List Int) (x : Int) (w : World) (lo hi : Nat) (hin : Ri lo hi w p xs) (hlen : xs.length ≤ 1048576) :
    Calls Try.prog 83 #[.slice p xs.length cap, .int .i64 x] w fun e w' => e = .returned (.bool (decide (x ∈ xs))) ∧ w = w' := by
  have I := Lib.hid (index_any p cap xs x w lo hi hin hlen)
  clear hin
  go_enter Try.func83, Try.ntmps83
  go_wp2_with fail
  refine I.out.mono ?_
  rintro e w' ⟨r, rfl, hr, rfl⟩
  replace hr := Lib.hid hr
  go_wp2_with fail
  go_ret
  exact ⟨ret_bool (decide_eq_decide.2 hr.out), rfl⟩

theorem isTaken_any (s : Int) (ring : Bool) (p : Option Addr) (cap : Nat) (xs : List Int) (x : Int) (w : World) (lo hi : Nat) (hin : Ri lo hi w p xs) (hlen : xs.length ≤ 1048576) :
    Calls Try.prog 82 #[rowV s ring p xs.length cap, .int .i64 x] w fun e w' => e = .returned (.bool (decide (x ∈ xs))) ∧ Below w.heap.size w w' := by
  have hb := box_below w s ring p xs.length cap 28
  have I := Lib.hid (contains_any p cap xs x _ lo hi (hin.bel hb) hlen)
  replace hb := Lib.hid hb
  clear hin
  go_enter Try.func82, Try.ntmps82
  go_wp2_with fail
  refine I.out.mono ?_
  rintro e w' ⟨rfl, rfl⟩
  go_wp2_with fail
  go_ret
  exact ⟨rfl, hb.out⟩
end Go.Proofs.Ytoedcklgpmhnnaa
