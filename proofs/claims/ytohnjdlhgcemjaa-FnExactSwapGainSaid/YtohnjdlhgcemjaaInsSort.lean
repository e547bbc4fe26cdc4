/- slices.insertionSortOrdered of numbers in a block of the call's own: what lies there behind the call is a rearrangement, ascending. -/
import Derived.Test.YtohnjdlhgcemjaaOut
import Derived.BigRegion
import Derived.BigQuiet
import Derived.Deep.QuietTactic
namespace Go.Proofs.Ytohnjdlhgcemjaa
open Go.RowKit

theorem lessN_any (x y : Int) (w : World) : Calls Try.prog 74 #[.int .i64 x, .int .i64 y] w fun e w' => e = .returned (.bool (decide (x < y))) ∧ w = w' := by
  by_cases h : x < y
  · go_enter Try.func74, Try.ntmps74
    go_wp2
    go_ret
    exact ⟨ret_bool (by simp [h]), rfl⟩
  · go_enter Try.func74, Try.ntmps74
    go_wp2
    go_ret
    exact ⟨ret_bool (by simp; omega), rfl⟩

/-- all in order up to place i, but for what stands at place j -/
def butOne (zs : List Int) (i j : Nat) : Prop := ∀ p q, p < q → q ≤ i → q ≠ j → zs[p]?.getD 0 ≤ zs[q]?.getD 0
/-- the first i in order -/
def upto (zs : List Int) (i : Nat) : Prop := ∀ p q, p < q → q < i → zs[p]?.getD 0 ≤ zs[q]?.getD 0
def swp (zs : List Int) (j : Nat) : List Int := (zs.set (j + 1) (zs[j]?.getD 0)).set j (zs[j + 1]?.getD 0)
theorem swp_length (zs : List Int) (j : Nat) : (swp zs j).length = zs.length := by simp [swp]
theorem swp_perm {zs : List Int} {j : Nat} (h : j + 1 < zs.length) : (swp zs j).Perm zs := by
  unfold swp
  rw [List.getElem?_eq_getElem h, List.getElem?_eq_getElem (show j < zs.length by omega)]
  exact List.set_set_perm h (by omega)
theorem swp_get {zs : List Int} {j : Nat} (h : j + 1 < zs.length) (k : Nat) : (swp zs j)[k]?.getD 0 = if k = j then zs[j + 1]?.getD 0 else if k = j + 1 then zs[j]?.getD 0 else zs[k]?.getD 0 := by
  unfold swp
  rw [List.getElem?_set, List.getElem?_set]
  by_cases e1 : k = j
  · subst e1; rw [if_pos rfl, if_pos rfl, if_pos (by rw [List.length_set]; omega)]; rfl
  · rw [if_neg (fun e => e1 e.symm), if_neg e1]
    by_cases e2 : k = j + 1
    · subst e2; rw [if_pos rfl, if_pos rfl, if_pos h]; rfl
    · rw [if_neg (fun e => e2 e.symm), if_neg e2]
theorem butOne_start {zs : List Int} {i : Nat} (h : upto zs i) : butOne zs i i := fun p q h1 h2 h3 => h p q h1 (by omega)
theorem butOne_zero {zs : List Int} {i : Nat} (h : butOne zs i 0) : upto zs (i + 1) := fun p q h1 h2 => h p q h1 (by omega) (by omega)
theorem butOne_stop {zs : List Int} {i j : Nat} (h : butOne zs i (j + 1)) (hj : zs[j]?.getD 0 ≤ zs[j + 1]?.getD 0) : upto zs (i + 1) := by
  intro p q h1 h2
  by_cases e : q = j + 1
  · subst e
    by_cases e2 : p = j
    · subst e2; exact hj
    · have := h p j (by omega) (by omega) (by omega); omega
  · exact h p q h1 (by omega) e
theorem butOne_swap {zs : List Int} {i j : Nat} (h : butOne zs i (j + 1)) (hj : zs[j + 1]?.getD 0 < zs[j]?.getD 0) (hi : j + 1 ≤ i) (hl : i < zs.length) : butOne (swp zs j) i j := by
  intro p q h1 h2 h3
  rw [swp_get (by omega), swp_get (by omega), if_neg h3]
  by_cases e1 : q = j + 1
  · subst e1
    rw [if_pos rfl]
    by_cases e2 : p = j
    · subst e2; rw [if_pos rfl]; omega
    · rw [if_neg e2, if_neg (by omega)]; exact h p j (by omega) (by omega) (by omega)
  · rw [if_neg e1]
    by_cases e2 : p = j
    · subst e2; rw [if_pos rfl]; exact h (p + 1) q (by omega) h2 e1
    · rw [if_neg e2]
      by_cases e3 : p = j + 1
      · subst e3; rw [if_pos rfl]; exact h j q (by omega) h2 e1
      · rw [if_neg e3]; exact h p q h1 h2 e1
theorem upto_sorted {zs : List Int} (h : upto zs zs.length) : zs.Pairwise (· ≤ ·) := by
  rw [List.pairwise_iff_getElem]
  intro i j hi hj hij
  have := h i j hij hj
  rwa [List.getElem?_eq_getElem hi, List.getElem?_eq_getElem hj] at this

theorem ivt_get {zs : List Int} {ys : List Value} {k : Nat} (h : k < zs.length) : (iv zs ++ ys)[k]? = some (.int .i64 (zs[k]?.getD 0)) := by
  rw [List.getElem?_append_left (by rw [iv_length]; exact h), iv_get h]
theorem ivt_set {zs : List Int} {ys : List Value} {k : Nat} {x : Int} (h : k < zs.length) : (iv zs ++ ys).set k (.int .i64 x) = iv (zs.set k x) ++ ys := by
  rw [List.set_append_left _ _ (by rw [iv_length]; exact h)]
  simp [iv, List.map_set]

set_option maxRecDepth 4000 in
set_option maxHeartbeats 4000000 in
theorem insertion_any (g cap n : Nat) (xs : List Int) (ys : List Value) (w : World) (h : OwnArr w g 3 (iv xs ++ ys)) (hn : xs.length = n) (h1 : 1 ≤ n) (hn2 : n ≤ 1000) :
    Calls Try.prog 68 #[.slice (some ⟨g, 0, none⟩) n cap, .int .i64 0, .int .i64 n] w fun e w' => e = .returned (.tuple #[]) ∧ ∃ zs, zs.Perm xs ∧ zs.Pairwise (· ≤ ·) ∧ OwnArr w' g 3 (iv zs ++ ys) ∧ Keep g (g + 1) w w' := by
  have HO0 := Lib.hid h
  have HK0 : Hid (Keep g (g + 1) w w) := Keep.refl _ _ _
  have HP0 : Hid (xs.Perm xs) := List.Perm.refl _
  have HU0 : Hid (upto xs 1) := by show upto _ _; intro p q h1 h2; omega
  have HN := Lib.hid hn
  clear h hn
  go_enter Try.func68, Try.ntmps68
  go_wp2_with fail
  go_loopw [6, 7] (fun vi _ wr => ∃ (i : Nat) (zs : List Int), 1 ≤ i ∧ i ≤ n ∧ vi = .int .i64 i ∧ Hid (zs.length = n) ∧ Hid (zs.Perm xs) ∧ Hid (upto zs i) ∧ Hid (OwnArr wr g 3 (iv zs ++ ys)) ∧ Hid (Keep g (g + 1) w wr)) (fun vi _ _ => n - (intOf vi).toNat)
  case atStart => exact ⟨1, xs, Nat.le_refl _, h1, rfl, HN, HP0, HU0, HO0, HK0⟩
  case round =>
    obtain ⟨i, zs, hi1, hin, rfl, HL, HP, HU, HO, HK⟩ := hrel
    clear HO0 HK0 HP0 HU0 HN
    obtain ⟨wo, rfl⟩ : ∃ wo : World, wo = wr := ⟨_, rfl⟩
    by_cases hlt : i < n
    · have hlt1 : (i : Int) < (n : Int) := by omega
      go_wp2_with fail
      go_loopw [7] (fun vj wr => ∃ (j : Nat) (zs : List Int), j ≤ i ∧ vj = .int .i64 j ∧ Hid (zs.length = n) ∧ Hid (zs.Perm xs) ∧ Hid (butOne zs i j) ∧ Hid (OwnArr wr g 3 (iv zs ++ ys)) ∧ Hid (Keep g (g + 1) w wr)) (fun vj _ => (intOf vj).toNat)
      case atStart => exact ⟨i, zs, Nat.le_refl _, rfl, HL, HP, Lib.hid (butOne_start HU.out), HO, HK⟩
      case round =>
        clear HL HP HU HO HK
        obtain ⟨j, zs, hji, rfl, HL, HP, HU, HO, HK⟩ := hrel
        by_cases hj0 : 0 < j
        · obtain ⟨j, rfl⟩ : ∃ m, j = m + 1 := ⟨j - 1, by omega⟩
          have hk0 : (0 : Int) < ((j + 1 : Nat) : Int) := by omega
          have hk1 : (0 : Int) ≤ ((j + 1 : Nat) : Int) := by omega
          have hk2 : ((j + 1 : Nat) : Int) < (n : Int) := by omega
          have hw1 : IntKind.i64.wrap (((j + 1 : Nat) : Int) - 1) = (j : Int) := by rw [IntWalk.i64_in _ (by omega)]; omega
          have hk3 : (0 : Int) ≤ (j : Int) := by omega
          have hk4 : (j : Int) < (n : Int) := by omega
          have hl := HL.out
          have x0 := HO.out.cell j
          have x1 := HO.out.cell (j + 1)
          rw [ivt_get (by omega)] at x0 x1
          have f0 := HO.out.free j
          have f1 := HO.out.free (j + 1)
          obtain ⟨x, hx⟩ : ∃ x, zs[j]?.getD 0 = x := ⟨_, rfl⟩
          obtain ⟨y, hy⟩ : ∃ y, zs[j + 1]?.getD 0 = y := ⟨_, rfl⟩
          rw [hx] at x0
          rw [hy] at x1
          have LS := Lib.hid (fun w' => lessN_any y x w')
          by_cases hxy : y < x
          · have e1 : decide (y < x) = true := by simpa using hxy
            replace LS := LS.out
            rw [e1] at LS
            replace LS := Lib.hid LS
            have HL2 : Hid ((swp zs j).length = n) := by show _ = _; rw [swp_length]; exact hl
            have HP2 : Hid ((swp zs j).Perm xs) := (swp_perm (by omega)).trans HP.out
            have HU2 : Hid (butOne (swp zs j) i j) := butOne_swap HU.out (by rw [hx, hy]; exact hxy) (by omega) (by omega)
            have hs := (HO.out.set (j + 1) (.int .i64 x)).set j (.int .i64 y)
            have hs2 : ((iv zs ++ ys).set (j + 1) (.int .i64 x)).set j (.int .i64 y) = iv (swp zs j) ++ ys := by
              rw [ivt_set (by omega), ivt_set (by rw [List.length_set]; omega)]
              unfold swp
              rw [hx, hy]
            rw [hs2] at hs
            have hkeep := (HK.out.setCell (b := g) ⟨Nat.le_refl _, Nat.lt_succ_self _⟩ (j + 1) (.int .i64 x)).setCell (b := g) ⟨Nat.le_refl _, Nat.lt_succ_self _⟩ j (.int .i64 y)
            have HS := Lib.hid hs
            have HK2 := Lib.hid hkeep
            clear hs hs2 hkeep e1 hl hx hy HU HP HL
            go_wp2_with fail
            go_quiet ((go_at_call 74; exact quiet_same (LS.out _)))
            go_wp2_with fail
            have k0 : (wr.drewN nq).cell? ⟨g, j, none⟩ = some (.int .i64 x) := x0
            have k1 : (wr.drewN nq).cell? ⟨g, j + 1, none⟩ = some (.int .i64 y) := x1
            have j0 : (wr.drewN nq).frozen? ⟨g, j, none⟩ = false := f0
            have j1 : (wr.drewN nq).frozen? ⟨g, j + 1, none⟩ = false := f1
            have HS' : Hid (OwnArr (((wr.drewN nq).setCell ⟨g, j + 1, none⟩ (.int .i64 x)).setCell ⟨g, j, none⟩ (.int .i64 y)) g 3 (iv (swp zs j) ++ ys)) := HS.out
            have HK' : Hid (Keep g (g + 1) w (((wr.drewN nq).setCell ⟨g, j + 1, none⟩ (.int .i64 x)).setCell ⟨g, j, none⟩ (.int .i64 y))) := by
              show Keep _ _ _ _
              exact ((HK.out.trans (⟨rfl, rfl, rfl, Nat.le_refl _, fun _ _ _ => rfl⟩ : Keep g (g + 1) wr (wr.drewN nq))).setCell (b := g) ⟨Nat.le_refl _, Nat.lt_succ_self _⟩ (j + 1) (.int .i64 x)).setCell (b := g) ⟨Nat.le_refl _, Nat.lt_succ_self _⟩ j (.int .i64 y)
            clear HS HK2 HO HK
            generalize hW : wr.drewN nq = W at k0 k1 j0 j1 HS' HK' ⊢
            clear x0 x1 f0 f1 hW
            go_region
            all_goals
              go_wp2_with fail
              refine ⟨⟨j, swp zs j, by omega, by go_num, HL2, HP2, HU2, ?_, ?_⟩, ?_⟩
              · show OwnArr _ _ _ _; exact HS'.out
              · show Keep _ _ _ _; exact HK'.out.trans ⟨rfl, rfl, rfl, Nat.le_refl _, fun _ _ _ => rfl⟩
              · simp [intOf]
          · have e1 : decide (y < x) = false := by simpa using hxy
            replace LS := LS.out
            rw [e1] at LS
            replace LS := Lib.hid LS
            have HU2 : Hid (upto zs (i + 1)) := butOne_stop HU.out (by rw [hx, hy]; omega)
            clear e1 hl hx hy HU
            go_wp2_with fail
            go_quiet ((go_at_call 74; exact quiet_same (LS.out _)))
            go_wp2_with fail
            go_roundw
            case rel => exact ⟨i + 1, zs, by omega, by omega, by go_num, HL, HP, HU2, HO.out.drewN _, HK.out.trans ⟨rfl, rfl, rfl, Nat.le_refl _, fun _ _ _ => rfl⟩⟩
            case measure => simp [intOf]; omega
        · have hj00 : j = 0 := by omega
          subst hj00
          have HU2 : Hid (upto zs (i + 1)) := butOne_zero HU.out
          clear HU
          go_wp2_with fail
          go_quiet (fail)
          go_wp2_with fail
          go_roundw
          case rel => exact ⟨i + 1, zs, by omega, by omega, by go_num, HL, HP, HU2, HO.out.drewN _, HK.out.trans ⟨rfl, rfl, rfl, Nat.le_refl _, fun _ _ _ => rfl⟩⟩
          case measure => simp [intOf]; omega
    · have hin2 : i = n := by omega
      subst hin2
      have hlt1 : ¬ (i : Int) < (i : Int) := by omega
      have HS : Hid (zs.Pairwise (· ≤ ·)) := upto_sorted (by rw [HL.out]; exact HU.out)
      go_wp2_with fail
      go_end0
      exact ⟨rfl, zs, HP.out, HS.out, HO.out, HK.out⟩
end Go.Proofs.Ytohnjdlhgcemjaa
