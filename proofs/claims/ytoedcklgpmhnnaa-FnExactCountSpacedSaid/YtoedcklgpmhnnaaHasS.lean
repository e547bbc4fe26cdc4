/- spec.l1Has, spec.l2Is, for every Row. -/
import Derived.Test.YtoedcklgpmhnnaaHas0
namespace Go.Proofs.Ytoedcklgpmhnnaa
open Go.RowKit

set_option maxHeartbeats 400000 in
theorem l1Has_any (p : Option Addr) (cap : Nat) (xs : List Int) (x : Int) (w : World) (lo hi : Nat) (hin : Ri lo hi w p xs) (hlen : xs.length ≤ 1048576) :
    Calls Try.prog 76 #[.slice p xs.length cap, .int .i64 x] w fun e w' => e = .returned (.bool (decide (x ∈ xs))) ∧ w = w' := by
  have HIN := Lib.hid hin
  clear hin
  go_enter Try.func76, Try.ntmps76
  go_wp2
  go_loop [5] (fun i => ∃ (k : Nat), k ≤ xs.length ∧ i = .int .i64 k ∧ Hid (x ∉ xs.take k)) (fun i => xs.length - (intOf i).toNat)
  case atStart => exact ⟨0, Nat.zero_le _, rfl, by show _ ∉ _; simp⟩
  case round =>
    obtain ⟨k, hk, rfl, HR⟩ := hrel
    by_cases hlt : k < xs.length
    · obtain ⟨c, off, rfl, _, _, hc, hcell⟩ := HIN.out.int (by omega)
      have h0 := hcell k hlt
      have HN := Lib.hid (fun h => notin_snoc HR.out hlt h)
      have HY := Lib.hid (fun h => has_true (getD_mem' (x := x) hlt h))
      obtain ⟨y, hy⟩ : ∃ y, y = xs[k]?.getD 0 := ⟨_, rfl⟩
      rw [← hy] at h0 HN HY
      clear hcell hy
      by_cases he : y = x
      · have HY' := Lib.hid (HY.out he)
        subst he
        clear HY HN
        go_wp2
        go_ret
        exact ⟨ret_bool HY'.out.symm, rfl⟩
      · have HN' := Lib.hid (HN.out he)
        clear HY HN
        go_wp2
        go_round
        case rel => exact ⟨k + 1, by omega, by go_num, HN'⟩
        case measure => simp [intOf]; omega
    · have HF := Lib.hid (has_false HR.out (by omega))
      go_wp2
      go_ret
      exact ⟨ret_bool HF.out.symm, rfl⟩

theorem l2Is_any (s : Int) (ring : Bool) (p : Option Addr) (cap : Nat) (xs : List Int) (x : Int) (w : World) (lo hi : Nat) (hin : Ri lo hi w p xs) (hlen : xs.length ≤ 1048576) :
    Calls Try.prog 59 #[rowV s ring p xs.length cap, .int .i64 x] w fun e w' => e = .returned (.bool (decide (x ∈ xs))) ∧ Below w.heap.size w w' := by
  have hb := box_below w s ring p xs.length cap 28
  have I := Lib.hid (l1Has_any p cap xs x _ lo hi (hin.bel hb) hlen)
  replace hb := Lib.hid hb
  clear hin
  go_enter Try.func59, Try.ntmps59
  go_wp2_with fail
  refine I.out.mono ?_
  rintro e w' ⟨rfl, rfl⟩
  go_wp2_with fail
  go_ret
  exact ⟨rfl, hb.out⟩
end Go.Proofs.Ytoedcklgpmhnnaa
