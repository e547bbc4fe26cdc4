/- slices.Reverse of marks, in a block of the call's own. -/
import Derived.Test.YtefbepebgmalpaaMarks
import Derived.BigRegion
namespace Go.Proofs.Ytefbepebgmalpaa
open Go.RowKit

/-- the first i places and the last i places exchanged -/
def revB (n : Nat) (S : Nat → Bool) (i : Nat) (k : Nat) : Bool := if k < i ∨ n < k + i + 1 then S (n - 1 - k) else S k
theorem revB_zero (n : Nat) (S : Nat → Bool) : bl n (revB n S 0) = bl n S := bl_congr fun k hk => by unfold revB; rw [if_neg (by omega)]
theorem revB_end {n i j : Nat} {S : Nat → Bool} (h : i + j + 1 = n) (hij : j ≤ i) : bl n (revB n S i) = bl n (fun k => S (n - 1 - k)) := bl_congr fun k hk => by
  unfold revB
  by_cases h' : k < i ∨ n < k + i + 1
  · rw [if_pos h']
  · rw [if_neg h']
    congr 1
    omega
theorem revB_step {n i j : Nat} {S : Nat → Bool} (h : i + j + 1 = n) (hij : i < j) :
    ((bl n (revB n S i)).set i (S j)).set j (S i) = bl n (revB n S (i + 1)) := by
  rw [bl_set, bl_set]
  apply bl_congr
  intro k hk
  unfold revB
  by_cases e1 : k = j
  · rw [if_pos e1, if_pos (by omega)]; congr 1; omega
  · rw [if_neg e1]
    by_cases e2 : k = i
    · rw [if_pos e2, if_pos (by omega)]; congr 1; omega
    · rw [if_neg e2]
      by_cases h' : k < i ∨ n < k + i + 1
      · rw [if_pos h', if_pos (by omega)]
      · rw [if_neg h', if_neg (by omega)]

set_option maxRecDepth 4000 in
set_option maxHeartbeats 2000000 in
theorem reverse_any (g n : Nat) (S : Nat → Bool) (w : World) (h : OwnArr w g 4 (bv (bl n S))) (hn1 : 1 ≤ n) (hn : n ≤ 1000) :
    Calls Try.prog 41 #[.slice (some ⟨g, 0, none⟩) n n] w fun e w' => e = .returned (.tuple #[]) ∧ OwnArr w' g 4 (bv (bl n fun i => S (n - 1 - i))) ∧ Keep g (g + 1) w w' := by
  have HO0 : Hid (OwnArr w g 4 (bv (bl n (revB n S 0)))) := by show OwnArr _ _ _ _; rw [revB_zero]; exact h
  have HK0 : Hid (Keep g (g + 1) w w) := Keep.refl _ _ _
  clear h
  go_enter Try.func41, Try.ntmps41
  go_wp2_with fail
  go_loopw [2, 3] (fun vi vj wr => ∃ (i j : Nat), i + j + 1 = n ∧ i ≤ j + 1 ∧ vi = .int .i64 i ∧ vj = .int .i64 j ∧ Hid (OwnArr wr g 4 (bv (bl n (revB n S i)))) ∧ Hid (Keep g (g + 1) w wr)) (fun vi _ _ => n - (intOf vi).toNat)
  case atStart => exact ⟨0, n - 1, by omega, by omega, rfl, by congr 1; omega, HO0, HK0⟩
  case round =>
    obtain ⟨i, j, hij, hle, rfl, rfl, HO, HK⟩ := hrel
    clear HO0 HK0
    by_cases hlt : i < j
    · have hi : i < n := by omega
      have hj : j < n := by omega
      have hlt1 : (i : Int) < (j : Int) := by omega
      have hi0 : (0 : Int) ≤ (i : Int) := by omega
      have hj0 : (0 : Int) ≤ (j : Int) := by omega
      have hi1 : (i : Int) < (n : Int) := by omega
      have hj1 : (j : Int) < (n : Int) := by omega
      have h0 := HO.out.cell i
      have h1 := HO.out.cell j
      rw [bv_get (by rw [bl_length]; omega), bl_getD hi] at h0
      rw [bv_get (by rw [bl_length]; omega), bl_getD hj] at h1
      have f0 := HO.out.free i
      have f1 := HO.out.free j
      have x0 : revB n S i i = S i := by unfold revB; rw [if_neg (by omega)]
      have x1 : revB n S i j = S j := by unfold revB; rw [if_neg (by omega)]
      rw [x0] at h0
      rw [x1] at h1
      have hset := (HO.out.set i (.bool (S j))).set j (.bool (S i))
      rw [bv_set, bv_set, revB_step hij hlt] at hset
      have hkeep := (HK.out.setCell (b := g) ⟨Nat.le_refl _, Nat.lt_succ_self _⟩ i (.bool (S j))).setCell (b := g) ⟨Nat.le_refl _, Nat.lt_succ_self _⟩ j (.bool (S i))
      have HS := Lib.hid hset
      have HK2 := Lib.hid hkeep
      obtain ⟨x, hx⟩ : ∃ x, S i = x := ⟨_, rfl⟩
      obtain ⟨y, hy⟩ : ∃ y, S j = y := ⟨_, rfl⟩
      rw [hx] at h0 HS HK2
      rw [hy] at h1 HS HK2
      have hne : ¬ i = j := by omega
      have hne2 : ¬ j = i := by omega
      clear hset hkeep x0 x1 hx hy
      go_wp2_with fail
      go_region
      all_goals
        go_wp2_with fail
        refine ⟨⟨i + 1, j - 1, by omega, by omega, by go_num, ?_, ?_, ?_⟩, ?_⟩
        · congr 1; omega
        · show OwnArr _ _ _ _; exact HS.out
        · show Keep _ _ _ _; exact HK2.out.trans ⟨rfl, rfl, rfl, Nat.le_refl _, fun _ _ _ => rfl⟩
        · simp [intOf]; omega
    · have HE : Hid (OwnArr wr g 4 (bv (bl n fun i => S (n - 1 - i)))) := by
        show OwnArr _ _ _ _
        rw [← revB_end hij (by omega)]; exact HO.out
      have hlt1 : ¬ (i : Int) < (j : Int) := by omega
      go_wp2_with fail
      go_end0
      exact ⟨rfl, HE.out, HK.out⟩
end Go.Proofs.Ytefbepebgmalpaa
