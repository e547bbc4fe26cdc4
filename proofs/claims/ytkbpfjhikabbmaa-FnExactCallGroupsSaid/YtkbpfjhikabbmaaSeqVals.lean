/- slices.insertionSortOrdered of numbers in a block of the call's own: what lies there behind the call is a rearrangement, ascending. slices.Sort of at most twelve numbers in a block of the call's own; slices.Sorted over what a slice gives. slices.Sorted(slices.Values(list)) of at most twelve numbers: a rearrangement, ascending, in memory of the call's own. -/
import Derived.Test.YtkbpfjhikabbmaaOut
import Derived.BigRegion
import Derived.BigQuiet
import Derived.Deep.QuietTactic
import Derived.ArgAppend
import Derived.RangeFuncNested
import Derived.RangeFuncBound
import Derived.RangeFuncCalls
import Derived.RangeFuncLeaves
import Derived.Shelf.Abstract
import Derived.Shelf.RegionOpen
import Derived.OwnWalkIn
import Derived.TacticsInMore
import Derived.LoopNIn
import Derived.LoopIn
import Derived.Maps.AppendAt
import Derived.Test.YtkbpfjhikabbmaaRangeOwn
section
namespace Go.Proofs.Ytkbpfjhikabbmaa
open Go.RowKit

theorem lessN_any (x y : Int) (w : World) : Calls Try.prog 66 #[.int .i64 x, .int .i64 y] w fun e w' => e = .returned (.bool (decide (x < y))) ∧ w = w' := by
  by_cases h : x < y
  · go_enter Try.func66, Try.ntmps66
    go_wp2
    go_ret
    exact ⟨ret_bool (by simp [h]), rfl⟩
  · go_enter Try.func66, Try.ntmps66
    go_wp2
    go_ret
    exact ⟨ret_bool (by simp; omega), rfl⟩

/-- all in order up to place i, but for what stands at place j -/
def butOne (zs : List Int) (i j : Nat) : Prop := ∀ p q, p < q → q ≤ i → q ≠ j → zs[p]?.getD 0 ≤ zs[q]?.getD 0
/-- the first i in order -/
def upto (zs : List Int) (i : Nat) : Prop := ∀ p q, p < q → q < i → zs[p]?.getD 0 ≤ zs[q]?.getD 0
def swp (zs : List Int) (j : Nat) : List Int := (zs.set (j + 1) (zs[j]?.getD 0)).set j (zs[j + 1]?.getD 0)
theorem swp_length (zs : List Int) (j : Nat) : (swp zs j).length = zs.length := by simp [swp]
theorem swp_perm {zs : List Int} {j : Nat} (h : j + 1 < zs.length) : (swp zs j).Perm zs := by
  unfold swp
  rw [List.getElem?_eq_getElem h, List.getElem?_eq_getElem (show j < zs.length by omega)]
  exact List.set_set_perm h (by omega)
theorem swp_get {zs : List Int} {j : Nat} (h : j + 1 < zs.length) (k : Nat) : (swp zs j)[k]?.getD 0 = if k = j then zs[j + 1]?.getD 0 else if k = j + 1 then zs[j]?.getD 0 else zs[k]?.getD 0 := by
  unfold swp
  rw [List.getElem?_set, List.getElem?_set]
  by_cases e1 : k = j
  · subst e1; rw [if_pos rfl, if_pos rfl, if_pos (by rw [List.length_set]; omega)]; rfl
  · rw [if_neg (fun e => e1 e.symm), if_neg e1]
    by_cases e2 : k = j + 1
    · subst e2; rw [if_pos rfl, if_pos rfl, if_pos h]; rfl
    · rw [if_neg (fun e => e2 e.symm), if_neg e2]
theorem butOne_start {zs : List Int} {i : Nat} (h : upto zs i) : butOne zs i i := fun p q h1 h2 h3 => h p q h1 (by omega)
theorem butOne_zero {zs : List Int} {i : Nat} (h : butOne zs i 0) : upto zs (i + 1) := fun p q h1 h2 => h p q h1 (by omega) (by omega)
theorem butOne_stop {zs : List Int} {i j : Nat} (h : butOne zs i (j + 1)) (hj : zs[j]?.getD 0 ≤ zs[j + 1]?.getD 0) : upto zs (i + 1) := by
  intro p q h1 h2
  by_cases e : q = j + 1
  · subst e
    by_cases e2 : p = j
    · subst e2; exact hj
    · have := h p j (by omega) (by omega) (by omega); omega
  · exact h p q h1 (by omega) e
theorem butOne_swap {zs : List Int} {i j : Nat} (h : butOne zs i (j + 1)) (hj : zs[j + 1]?.getD 0 < zs[j]?.getD 0) (hi : j + 1 ≤ i) (hl : i < zs.length) : butOne (swp zs j) i j := by
  intro p q h1 h2 h3
  rw [swp_get (by omega), swp_get (by omega), if_neg h3]
  by_cases e1 : q = j + 1
  · subst e1
    rw [if_pos rfl]
    by_cases e2 : p = j
    · subst e2; rw [if_pos rfl]; omega
    · rw [if_neg e2, if_neg (by omega)]; exact h p j (by omega) (by omega) (by omega)
  · rw [if_neg e1]
    by_cases e2 : p = j
    · subst e2; rw [if_pos rfl]; exact h (p + 1) q (by omega) h2 e1
    · rw [if_neg e2]
      by_cases e3 : p = j + 1
      · subst e3; rw [if_pos rfl]; exact h j q (by omega) h2 e1
      · rw [if_neg e3]; exact h p q h1 h2 e1
theorem upto_sorted {zs : List Int} (h : upto zs zs.length) : zs.Pairwise (· ≤ ·) := by
  rw [List.pairwise_iff_getElem]
  intro i j hi hj hij
  have := h i j hij hj
  rwa [List.getElem?_eq_getElem hi, List.getElem?_eq_getElem hj] at this

theorem ivt_get {zs : List Int} {ys : List Value} {k : Nat} (h : k < zs.length) : (iv zs ++ ys)[k]? = some (.int .i64 (zs[k]?.getD 0)) := by
  rw [List.getElem?_append_left (by rw [iv_length]; exact h), iv_get h]
theorem ivt_set {zs : List Int} {ys : List Value} {k : Nat} {x : Int} (h : k < zs.length) : (iv zs ++ ys).set k (.int .i64 x) = iv (zs.set k x) ++ ys := by
  rw [List.set_append_left _ _ (by rw [iv_length]; exact h)]
  simp [iv, List.map_set]

set_option maxRecDepth 4000 in
set_option maxHeartbeats 4000000 in
theorem insertion_any (g cap n : Nat) (xs : List Int) (ys : List Value) (w : World) (h : OwnArr w g 3 (iv xs ++ ys)) (hn : xs.length = n) (h1 : 1 ≤ n) (hn2 : n ≤ 1000) :
    Calls Try.prog 60 #[.slice (some ⟨g, 0, none⟩) n cap, .int .i64 0, .int .i64 n] w fun e w' => e = .returned (.tuple #[]) ∧ ∃ zs, zs.Perm xs ∧ zs.Pairwise (· ≤ ·) ∧ OwnArr w' g 3 (iv zs ++ ys) ∧ Keep g (g + 1) w w' := by
  have HO0 := Lib.hid h
  have HK0 : Hid (Keep g (g + 1) w w) := Keep.refl _ _ _
  have HP0 : Hid (xs.Perm xs) := List.Perm.refl _
  have HU0 : Hid (upto xs 1) := by show upto _ _; intro p q h1 h2; omega
  have HN := Lib.hid hn
  clear h hn
  go_enter Try.func60, Try.ntmps60
  go_wp2_with fail
  go_loopw [6, 7] (fun vi _ wr => ∃ (i : Nat) (zs : List Int), 1 ≤ i ∧ i ≤ n ∧ vi = .int .i64 i ∧ Hid (zs.length = n) ∧ Hid (zs.Perm xs) ∧ Hid (upto zs i) ∧ Hid (OwnArr wr g 3 (iv zs ++ ys)) ∧ Hid (Keep g (g + 1) w wr)) (fun vi _ _ => n - (intOf vi).toNat)
  case atStart => exact ⟨1, xs, Nat.le_refl _, h1, rfl, HN, HP0, HU0, HO0, HK0⟩
  case round =>
    obtain ⟨i, zs, hi1, hin, rfl, HL, HP, HU, HO, HK⟩ := hrel
    clear HO0 HK0 HP0 HU0 HN
    obtain ⟨wo, rfl⟩ : ∃ wo : World, wo = wr := ⟨_, rfl⟩
    by_cases hlt : i < n
    · have hlt1 : (i : Int) < (n : Int) := by omega
      go_wp2_with fail
      go_loopw [7] (fun vj wr => ∃ (j : Nat) (zs : List Int), j ≤ i ∧ vj = .int .i64 j ∧ Hid (zs.length = n) ∧ Hid (zs.Perm xs) ∧ Hid (butOne zs i j) ∧ Hid (OwnArr wr g 3 (iv zs ++ ys)) ∧ Hid (Keep g (g + 1) w wr)) (fun vj _ => (intOf vj).toNat)
      case atStart => exact ⟨i, zs, Nat.le_refl _, rfl, HL, HP, Lib.hid (butOne_start HU.out), HO, HK⟩
      case round =>
        clear HL HP HU HO HK
        obtain ⟨j, zs, hji, rfl, HL, HP, HU, HO, HK⟩ := hrel
        by_cases hj0 : 0 < j
        · obtain ⟨j, rfl⟩ : ∃ m, j = m + 1 := ⟨j - 1, by omega⟩
          have hk0 : (0 : Int) < ((j + 1 : Nat) : Int) := by omega
          have hk1 : (0 : Int) ≤ ((j + 1 : Nat) : Int) := by omega
          have hk2 : ((j + 1 : Nat) : Int) < (n : Int) := by omega
          have hw1 : IntKind.i64.wrap (((j + 1 : Nat) : Int) - 1) = (j : Int) := by rw [IntWalk.i64_in _ (by omega)]; omega
          have hk3 : (0 : Int) ≤ (j : Int) := by omega
          have hk4 : (j : Int) < (n : Int) := by omega
          have hl := HL.out
          have x0 := HO.out.cell j
          have x1 := HO.out.cell (j + 1)
          rw [ivt_get (by omega)] at x0 x1
          have f0 := HO.out.free j
          have f1 := HO.out.free (j + 1)
          obtain ⟨x, hx⟩ : ∃ x, zs[j]?.getD 0 = x := ⟨_, rfl⟩
          obtain ⟨y, hy⟩ : ∃ y, zs[j + 1]?.getD 0 = y := ⟨_, rfl⟩
          rw [hx] at x0
          rw [hy] at x1
          have LS := Lib.hid (fun w' => lessN_any y x w')
          by_cases hxy : y < x
          · have e1 : decide (y < x) = true := by simpa using hxy
            replace LS := LS.out
            rw [e1] at LS
            replace LS := Lib.hid LS
            have HL2 : Hid ((swp zs j).length = n) := by show _ = _; rw [swp_length]; exact hl
            have HP2 : Hid ((swp zs j).Perm xs) := (swp_perm (by omega)).trans HP.out
            have HU2 : Hid (butOne (swp zs j) i j) := butOne_swap HU.out (by rw [hx, hy]; exact hxy) (by omega) (by omega)
            have hs := (HO.out.set (j + 1) (.int .i64 x)).set j (.int .i64 y)
            have hs2 : ((iv zs ++ ys).set (j + 1) (.int .i64 x)).set j (.int .i64 y) = iv (swp zs j) ++ ys := by
              rw [ivt_set (by omega), ivt_set (by rw [List.length_set]; omega)]
              unfold swp
              rw [hx, hy]
            rw [hs2] at hs
            have hkeep := (HK.out.setCell (b := g) ⟨Nat.le_refl _, Nat.lt_succ_self _⟩ (j + 1) (.int .i64 x)).setCell (b := g) ⟨Nat.le_refl _, Nat.lt_succ_self _⟩ j (.int .i64 y)
            have HS := Lib.hid hs
            have HK2 := Lib.hid hkeep
            clear hs hs2 hkeep e1 hl hx hy HU HP HL
            go_wp2_with fail
            go_quiet ((go_at_call 66; exact quiet_same (LS.out _)))
            go_wp2_with fail
            have k0 : (wr.drewN nq).cell? ⟨g, j, none⟩ = some (.int .i64 x) := x0
            have k1 : (wr.drewN nq).cell? ⟨g, j + 1, none⟩ = some (.int .i64 y) := x1
            have j0 : (wr.drewN nq).frozen? ⟨g, j, none⟩ = false := f0
            have j1 : (wr.drewN nq).frozen? ⟨g, j + 1, none⟩ = false := f1
            have HS' : Hid (OwnArr (((wr.drewN nq).setCell ⟨g, j + 1, none⟩ (.int .i64 x)).setCell ⟨g, j, none⟩ (.int .i64 y)) g 3 (iv (swp zs j) ++ ys)) := HS.out
            have HK' : Hid (Keep g (g + 1) w (((wr.drewN nq).setCell ⟨g, j + 1, none⟩ (.int .i64 x)).setCell ⟨g, j, none⟩ (.int .i64 y))) := by
              show Keep _ _ _ _
              exact ((HK.out.trans (⟨rfl, rfl, rfl, Nat.le_refl _, fun _ _ _ => rfl⟩ : Keep g (g + 1) wr (wr.drewN nq))).setCell (b := g) ⟨Nat.le_refl _, Nat.lt_succ_self _⟩ (j + 1) (.int .i64 x)).setCell (b := g) ⟨Nat.le_refl _, Nat.lt_succ_self _⟩ j (.int .i64 y)
            clear HS HK2 HO HK
            generalize hW : wr.drewN nq = W at k0 k1 j0 j1 HS' HK' ⊢
            clear x0 x1 f0 f1 hW
            go_region
            all_goals
              go_wp2_with fail
              refine ⟨⟨j, swp zs j, by omega, by go_num, HL2, HP2, HU2, ?_, ?_⟩, ?_⟩
              · show OwnArr _ _ _ _; exact HS'.out
              · show Keep _ _ _ _; exact HK'.out.trans ⟨rfl, rfl, rfl, Nat.le_refl _, fun _ _ _ => rfl⟩
              · simp [intOf]
          · have e1 : decide (y < x) = false := by simpa using hxy
            replace LS := LS.out
            rw [e1] at LS
            replace LS := Lib.hid LS
            have HU2 : Hid (upto zs (i + 1)) := butOne_stop HU.out (by rw [hx, hy]; omega)
            clear e1 hl hx hy HU
            go_wp2_with fail
            go_quiet ((go_at_call 66; exact quiet_same (LS.out _)))
            go_wp2_with fail
            go_roundw
            case rel => exact ⟨i + 1, zs, by omega, by omega, by go_num, HL, HP, HU2, HO.out.drewN _, HK.out.trans ⟨rfl, rfl, rfl, Nat.le_refl _, fun _ _ _ => rfl⟩⟩
            case measure => simp [intOf]; omega
        · have hj00 : j = 0 := by omega
          subst hj00
          have HU2 : Hid (upto zs (i + 1)) := butOne_zero HU.out
          clear HU
          go_wp2_with fail
          go_quiet (fail)
          go_wp2_with fail
          go_roundw
          case rel => exact ⟨i + 1, zs, by omega, by omega, by go_num, HL, HP, HU2, HO.out.drewN _, HK.out.trans ⟨rfl, rfl, rfl, Nat.le_refl _, fun _ _ _ => rfl⟩⟩
          case measure => simp [intOf]; omega
    · have hin2 : i = n := by omega
      subst hin2
      have hlt1 : ¬ (i : Int) < (i : Int) := by omega
      have HS : Hid (zs.Pairwise (· ≤ ·)) := upto_sorted (by rw [HL.out]; exact HU.out)
      go_wp2_with fail
      go_end0
      exact ⟨rfl, zs, HP.out, HS.out, HO.out, HK.out⟩
end Go.Proofs.Ytkbpfjhikabbmaa
end

section
namespace Go.Proofs.Ytkbpfjhikabbmaa
open Go.RowKit

set_option maxRecDepth 4000 in
set_option maxHeartbeats 2000000 in
theorem len64N (k : Int) (hk : k = 1 ∨ k = 2 ∨ k = 3 ∨ k = 4 ∨ k = 5 ∨ k = 6 ∨ k = 7 ∨ k = 8 ∨ k = 9 ∨ k = 10 ∨ k = 11 ∨ k = 12) (w : World) : Calls Try.prog 70 #[.int .u64 k] w fun e w' => ∃ r : Int, e = .returned (.int .i64 r) ∧ w = w' := by
  rcases hk with rfl | rfl | rfl | rfl | rfl | rfl | rfl | rfl | rfl | rfl | rfl | rfl
  all_goals
    go_enter Try.func70, Try.ntmps70
    go_wp2
    go_ret
    exact ⟨_, rfl, rfl⟩

set_option maxRecDepth 4000 in
set_option maxHeartbeats 2000000 in
theorem lenN (k : Int) (hk : 1 ≤ k ∧ k ≤ 12) (w : World) : Calls Try.prog 59 #[.int .u64 k] w fun e w' => ∃ r : Int, e = .returned (.int .i64 r) ∧ w = w' := by
  have hc : k = 1 ∨ k = 2 ∨ k = 3 ∨ k = 4 ∨ k = 5 ∨ k = 6 ∨ k = 7 ∨ k = 8 ∨ k = 9 ∨ k = 10 ∨ k = 11 ∨ k = 12 := by omega
  have H := Lib.hid (fun w' => len64N k hc w')
  have hw : IntKind.u64.wrap k = k := by rcases hc with rfl | rfl | rfl | rfl | rfl | rfl | rfl | rfl | rfl | rfl | rfl | rfl <;> rfl
  clear hc
  go_enter Try.func59, Try.ntmps59
  go_wp2_with (go_at_call 70; refine (H.out _).mono ?_; rintro e w1 ⟨r, rfl, rfl⟩)
  go_ret
  exact ⟨_, rfl, rfl⟩

/-- slices.pdqsortOrdered hands a few numbers to slices.insertionSortOrdered -/
theorem pdqN (p : Option Addr) (n cap : Nat) (lim : Int) (w : World) (hn : n ≤ 12) (R : World → Prop)
    (h : Calls Try.prog 60 #[.slice p n cap, .int .i64 0, .int .i64 n] w fun e w' => e = .returned (.tuple #[]) ∧ R w') :
    Calls Try.prog 58 #[.slice p n cap, .int .i64 0, .int .i64 n, .int .i64 lim] w fun e w' => e = .returned (.tuple #[]) ∧ R w' := by
  have H := Lib.hid h
  clear h
  have hn1 : (n : Int) ≤ 12 := by omega
  go_enter Try.func58, Try.ntmps58
  go_wp2_with fail
  refine wp_loop_rounds 1 ?_
  rw [rounds_succ]
  go_wp2_with fail
  refine H.out.mono ?_
  rintro e w1 ⟨rfl, hR⟩
  go_wp2_with fail
  exact bodyPost_ret (results_none rfl _ _ _) rfl ⟨rfl, hR⟩

theorem sortN_few (p : Option Addr) (n cap : Nat) (w : World) (hn1 : 1 ≤ n) (hn : n ≤ 12) (R : World → Prop)
    (h : Calls Try.prog 60 #[.slice p n cap, .int .i64 0, .int .i64 n] w fun e w' => e = .returned (.tuple #[]) ∧ R w') :
    Calls Try.prog 55 #[.slice p n cap] w fun e w' => e = .returned (.tuple #[]) ∧ R w' := by
  have H := Lib.hid (fun lim => pdqN p n cap lim w (by omega) R h)
  have L := Lib.hid (lenN n (by omega) w)
  have hw : IntKind.u64.wrap (n : Int) = (n : Int) := by
    rcases (by omega : n = 1 ∨ n = 2 ∨ n = 3 ∨ n = 4 ∨ n = 5 ∨ n = 6 ∨ n = 7 ∨ n = 8 ∨ n = 9 ∨ n = 10 ∨ n = 11 ∨ n = 12) with rfl | rfl | rfl | rfl | rfl | rfl | rfl | rfl | rfl | rfl | rfl | rfl <;> rfl
  clear h hn1
  go_enter Try.func55, Try.ntmps55
  go_wp2_with fail
  refine L.out.mono ?_
  rintro e w1 ⟨r, rfl, rfl⟩
  go_wp2_with fail
  refine (H.out _).mono ?_
  rintro e w1 ⟨rfl, hR⟩
  go_wp2_with fail
  go_end0
  exact ⟨rfl, hR⟩

/-- at most twelve numbers in a block of the call's own -/
theorem sortN_any (g cap n : Nat) (xs : List Int) (ys : List Value) (w : World) (h : OwnArr w g 3 (iv xs ++ ys)) (hn : xs.length = n) (h1 : 1 ≤ n) (hn2 : n ≤ 12) :
    Calls Try.prog 55 #[.slice (some ⟨g, 0, none⟩) n cap] w fun e w' => e = .returned (.tuple #[]) ∧ ∃ zs, zs.Perm xs ∧ zs.Pairwise (· ≤ ·) ∧ OwnArr w' g 3 (iv zs ++ ys) ∧ Keep g (g + 1) w w' :=
  sortN_few (some ⟨g, 0, none⟩) n cap w h1 hn2 (fun w' => ∃ zs, zs.Perm xs ∧ zs.Pairwise (· ≤ ·) ∧ OwnArr w' g 3 (iv zs ++ ys) ∧ Keep g (g + 1) w w') (insertion_any g cap n xs ys w h hn h1 (by omega))
end Go.Proofs.Ytkbpfjhikabbmaa
end

section
namespace Go.Proofs.Ytkbpfjhikabbmaa
open Go.RowKit Go.Shelf
attribute [local go_sem] Oper.semAt_some

set_option maxRecDepth 100000 in
set_option maxHeartbeats 1000000 in
/-- what slices.Values hands back gives the numbers in their order -/
theorem values_iter (n l b off cap Bs : Nat) (zs : List Int) (hlen : zs.length ≤ 1000) (J : List Int → World → Prop)
    (hJ : ∀ pre W, J pre W → W.cell? ⟨Bs, 0, none⟩ = some (.slice (some ⟨b, off, none⟩) zs.length cap) ∧ ∀ j, j < zs.length → W.cell? ⟨b, off + j, none⟩ = some (.int .i64 (zs[j]?.getD 0)))
    (hY : ∀ pre x W, J pre W → pre.length < zs.length → YieldAt Fence.wide (n - 1) Try.prog l #[.int .i64 x] W fun e W' => e = .returned (.bool true) ∧ J (pre ++ [x]) W')
    (W : World) (h0 : J [] W) (hn : 1 ≤ n) :
    CallsIn Fence.wide n Try.prog 56 #[.func (.yield l) #[] #[], .pointer (some ⟨Bs, 0, none⟩)] W fun e W' => (∃ v, e = .returned v) ∧ J zs W' := by
  refine callsIn_of_wp Try.func56 rfl trivial ?_ rfl
  simp only [Try.ntmps56, List.size_toArray, List.length_cons, List.length_nil, Nat.reduceAdd, Nat.reduceSub, Array.replicate_succ, Array.replicate_zero, List.push_toArray, List.append_toArray, List.nil_append, List.cons_append]
  have hBs := (hJ _ _ h0).1
  gi_wp2
  gi_loopw [7] (fun i wr => ∃ k : Nat, k ≤ zs.length ∧ i = .int .i64 k ∧ J (zs.take k) wr) (fun i _ => zs.length - (intOf i).toNat)
  case atStart => exact ⟨0, Nat.zero_le _, rfl, h0⟩
  case round =>
    obtain ⟨k, hk, rfl, hJs⟩ := hrel
    by_cases hlt : k < zs.length
    · have hcx := (hJ _ _ hJs).2 k hlt
      have HT : Hid (zs.take (k + 1) = zs.take k ++ [zs[k]?.getD 0]) := by
        show _ = _
        rw [List.take_succ_eq_append_getElem hlt, List.getElem?_eq_getElem hlt]; rfl
      obtain ⟨x, hx⟩ : ∃ x, zs[k]?.getD 0 = x := ⟨_, rfl⟩
      rw [hx] at HT hcx
      clear hx
      obtain ⟨fn, tmps, assign, body, hy, hR⟩ := hY _ x wr hJs (by rw [List.length_take]; omega)
      gi_wp2
      refine hR.mono ?_
      rintro e W3 ⟨rfl, hJ3⟩
      gi_wp2
      go_roundw
      case rel => exact ⟨k + 1, by omega, by simp, by rw [HT.out]; exact hJ3⟩
      case measure => simp [intOf]; omega
    · have hkl : k = zs.length := by omega
      gi_wp2
      go_end0
      refine ⟨⟨_, rfl⟩, ?_⟩
      rw [hkl, List.take_length] at hJs
      exact hJs

set_option maxHeartbeats 1000000 in
theorem values_any (p : Option Addr) (m cap : Nat) (w : World) :
    Calls Try.prog 50 #[.slice p m cap] w fun e w' => e = .returned (.func (.func 56) #[] #[.pointer (some ⟨w.heap.size, 0, none⟩)]) ∧ w' = w.alloc (.cells #[.slice p m cap] 33) := by
  go_enter Try.func50, Try.ntmps50
  go_wp2
  go_ret
  exact ⟨rfl, rfl⟩

/-- what holds between two rounds of AppendSeq's loop, n blocks lying when the call began: n is the box of the slice, which holds v, n + 1 and n + 2 the loop's -/
def SqV (n : Nat) (w : World) (rec : Loop) (pre : List Int) (v : Value) (W : World) : Prop :=
  Boxed W n 33 v ∧ W.ownsRow (n + 3) 3 1 v pre.length (iv pre) ∧ W.heap[n + 2]? = some (.loop rec) ∧ W.heap[n + 1]? = some (.deferred (some [])) ∧ Below n w W ∧ n + 3 ≤ W.heap.size

theorem SqV.rec {n : Nat} {w : World} {rec : Loop} {pre : List Int} {v : Value} {W : World} (h : SqV n w rec pre v W) (rec' : Loop) : SqV n w rec' pre v (W.putObj (n + 2) (.loop rec')) := by
  obtain ⟨hv, ho, h6, h5, hb, hs⟩ := h
  have hg := grownBy_putObj' W (n + 2) (.loop rec')
  refine ⟨hv.kept hg (by simp), ho.kept hg (.inr fun e => by have := (ho.lt _ e).1; omega), World.putObj_heap_same (by omega), ?_, hb.grown hg (by omega) (fun k e => by cases e; omega), by have := hg.size; omega⟩
  · rw [hg.block _ (by omega) (by simp)]; exact h5

theorem SqV.grow {n : Nat} {w : World} {rec : Loop} {pre : List Int} {v : Value} {W : World} (h : SqV n w rec pre v W) (o : Obj) : SqV n w rec pre v (W.alloc o) := by
  obtain ⟨hv, ho, h6, h5, hb, hs⟩ := h
  refine ⟨hv.alloc _, ho.alloc _, ?_, ?_, hb.alloc (by omega) _, by simp; omega⟩
  · rw [Below.heap_alloc _ _ _ (by omega)]; exact h6
  · rw [Below.heap_alloc _ _ _ (by omega)]; exact h5

/-- behind the append, behind the store -/
theorem SqV.app {n : Nat} {w : World} {rec : Loop} {pre : List Int} {v v' : Value} {W W' : World} {row : Option Nat} {x : Int} (h : SqV n w rec pre v W) (hg : W.grownBy W' row) (hr : ∀ j, row = some j → n + 3 ≤ j)
    (ho : W'.ownsRow (n + 3) 3 1 v' (pre.length + 1) (iv (pre ++ [x]))) : Boxed W' n 33 v ∧ SqV n w rec (pre ++ [x]) v' (W'.setCell ⟨n, 0, none⟩ v') := by
  obtain ⟨hv, _, h6, h5, hb, hs⟩ := h
  have hne : ∀ k, k < n + 3 → some k ≠ row := fun k hk e => by have := hr k e.symm; omega
  have hv' := hv.kept hg (hne _ (by omega))
  have hs' : n + 3 ≤ W'.heap.size := by have := hg.size; omega
  have hg2 := grownBy_setCell' W' n v'
  refine ⟨hv', hv'.set v', ?_, ?_, ?_, (hb.grown hg (by omega) (fun j e => by have := hr j e; omega)).grown hg2 (by omega) (fun k e => by cases e; omega), by have := hg2.size; omega⟩
  · have hl : (pre ++ [x]).length = pre.length + 1 := by simp
    rw [hl]
    refine ho.kept hg2 (.inr fun e => ?_)
    have := (ho.lt _ e).1
    omega
  · rw [hg2.block _ (by omega) (by simp), hg.block _ (by omega) (hne _ (by omega))]; exact h6
  · rw [hg2.block _ (by omega) (by simp), hg.block _ (by omega) (hne _ (by omega))]; exact h5

set_option maxRecDepth 100000 in
set_option maxHeartbeats 4000000 in
theorem appendSeq_any (b off cap Bs : Nat) (zs : List Int) (w : World) (hlen : zs.length ≤ 1000) (hBs : Bs < w.heap.size) (hb : b < w.heap.size) (hcell : w.cell? ⟨Bs, 0, none⟩ = some (.slice (some ⟨b, off, none⟩) zs.length cap))
    (hc : ∀ j, j < zs.length → w.cell? ⟨b, off + j, none⟩ = some (.int .i64 (zs[j]?.getD 0))) :
    Calls Try.prog 57 #[.slice none 0 0, .func (.func 56) #[] #[.pointer (some ⟨Bs, 0, none⟩)]] w fun e w' => ∃ v, e = .returned v ∧ w'.ownsRow w.heap.size 3 1 v zs.length (iv zs) ∧ Below w.heap.size w w' := by
  obtain ⟨i0, hi, hz0, hz1, hz2⟩ := info_parts infoInt
  refine (callsIn_wide (n := 9)).1 ?_
  refine callsIn_of_wp_marks Try.func57 rfl trivial ?_ rfl
  simp only [Try.ntmps57, List.size_toArray, List.length_cons, List.length_nil, Nat.reduceAdd, Nat.reduceSub, Array.replicate_succ, Array.replicate_zero, List.push_toArray, List.append_toArray, List.nil_append, List.cons_append]
  gi_wp2
  obtain ⟨W0, hW0⟩ : ∃ W0, w.alloc (.cells #[.slice none 0 0] 33) = W0 := ⟨_, rfl⟩
  rw [hW0]
  have hz : W0.heap.size = w.heap.size + 1 := by rw [← hW0]; simp
  refine range_state rfl (by omega) (gf := 56) rfl trivial (enters_of Try.func56 (by kernel_rfl) rfl) ?_
  intro fn _ rec hrec
  rw [hz]
  have hJ0 : SqV w.heap.size w rec [] (.slice none 0 0) ((W0.alloc (.deferred (some []))).alloc (.loop rec)) := by
    have b1 := Boxed.new w 33 (.slice none 0 0)
    have hb : Below w.heap.size w W0 := by
      rw [← hW0]
      exact (Below.refl _ w).alloc (by simp) _
    rw [hW0] at b1
    have e5 : ((W0.alloc (.deferred (some []))).alloc (.loop rec)).heap[w.heap.size + 1]? = some (.deferred (some [])) := by
      rw [Below.heap_alloc _ _ _ (by simp; omega), ← hz, World.alloc_heap_new]
    have e6 : ((W0.alloc (.deferred (some []))).alloc (.loop rec)).heap[w.heap.size + 2]? = some (.loop rec) := by
      have := World.alloc_heap_new (W0.alloc (.deferred (some []))) (.loop rec)
      rw [World.size_alloc, hz] at this
      exact this
    exact ⟨(b1.alloc _).alloc _, ⟨rfl, .inl ⟨rfl, rfl⟩⟩, e6, e5, (hb.alloc (by omega) _).alloc (by simp; omega) _, by simp; omega⟩
  refine (values_iter 8 (w.heap.size + 1 + 1) b off cap Bs zs hlen (fun pre W => ∃ v, SqV w.heap.size w rec pre v W) (fun pre W h => h.elim fun v h => ⟨(h.2.2.2.2.1.cell (p := ⟨Bs, 0, none⟩) hBs).trans hcell, fun j hj => (h.2.2.2.2.1.cell (p := ⟨b, off + j, none⟩) hb).trans (hc j hj)⟩) ?round _ ⟨_, hJ0⟩ (by omega)).mono ?done
  case round =>
    rintro pre x W ⟨v, hJ⟩ hpre
    refine yield_state trivial hJ.2.2.1 (by rw [hrec]) (by rw [hrec]) (by rw [hrec]; rfl) ?_
    obtain ⟨rb, hrb⟩ : ∃ rb, ({ rec with state := .busy } : Loop) = rb := ⟨_, rfl⟩
    rw [hrb, congrArg Loop.assign hrec, congrArg Loop.body hrec, congrArg Loop.params hrec, congrArg Loop.tmps hrec]
    dsimp only
    clear hrec hJ0 hW0
    gi_wp2
    refine ⟨hJ.2.2.1, ?_⟩
    obtain ⟨W1, hW1⟩ : ∃ W1, W.putObj (w.heap.size + 1 + 1) (.loop rb) = W1 := ⟨_, rfl⟩
    have hJ1 : SqV w.heap.size w rb pre v W1 := by rw [← hW1]; exact hJ.rec rb
    rw [hW1]
    clear hrb hW1 hJ
    have hc1 := hJ1.1.cell
    have hJ2 := hJ1.grow (.cells #[.int .i64 x] 3)
    gi_wp2_with (gi_at_builtin; refine wpListIn_append_own _ rfl _ _ 33 rfl (w.heap.size + 3) 3 i0 (.int .i64 0) 1 8 Try.underlying33 hi hz0 hz1 hz2 rfl (by decide) _ _ _ rfl hJ2.2.1 ⟨W1.heap.size, 0, none⟩ 1 1 [.int .i64 x] rfl rfl (cell_one_new _ _ _) (by simp [Value.oneCell']) (by unfold maxLen; omega) (by omega) hJ2.2.2.2.2.2 ?_; intro v' W5 hown hgrow _; obtain ⟨g', cap', rfl⟩ := ownsRow_succ hown; obtain ⟨hv5, hJ6⟩ := hJ2.app hgrow (fun j e => (hJ2.2.1.lt j e).1) (by rw [iv_append]; exact hown); have hc5 := hv5.cell; have hf5 := hv5.frozen)
    exact ⟨hJ6.2.2.1, _, hJ6.rec rec⟩
  case done =>
    rintro e W2 ⟨⟨u, rfl⟩, v, hJ⟩
    refine ⟨⟨_, rfl⟩, hJ.2.2.1, ?_⟩
    have hJ3 := hJ.rec { rec with state := .exhausted }
    change Exit.inBlock _ _ _ _ (W2.putObj (w.heap.size + 2) _)
    obtain ⟨W3, hW3⟩ : ∃ W3, W2.putObj (w.heap.size + 2) (.loop { rec with state := .exhausted }) = W3 := ⟨_, rfl⟩
    rw [hW3] at hJ3 ⊢
    clear hW3 hJ0 hW0 hrec
    have hc3 := hJ3.1.cell
    dsimp only
    gi_wp2
    refine ⟨by simp, .inl ⟨_, _, rfl, run_takeDeferred hJ3.2.2.2.1, ?_⟩⟩
    refine ⟨v, by simp [results, Try.f57, go_sem], v, rfl, ?_, ?_⟩
    · have h1 : W3.ownsRow w.heap.size 3 1 v zs.length (iv zs) := Out.mono (xs := zs) hJ3.2.1 (by omega)
      exact ownsRow_putObj h1 _ hJ3.2.2.2.1 rfl
    · exact hJ3.2.2.2.2.1.trans (belowK_b (w := w) (Nat.le_refl _) W3 _ _ _ (by omega) hJ3.2.2.2.1 rfl rfl)

set_option maxHeartbeats 1000000 in
theorem collect_any (b off cap Bs : Nat) (zs : List Int) (w : World) (hlen : zs.length ≤ 1000) (hBs : Bs < w.heap.size) (hb : b < w.heap.size) (hcell : w.cell? ⟨Bs, 0, none⟩ = some (.slice (some ⟨b, off, none⟩) zs.length cap))
    (hc : ∀ j, j < zs.length → w.cell? ⟨b, off + j, none⟩ = some (.int .i64 (zs[j]?.getD 0))) :
    Calls Try.prog 54 #[.func (.func 56) #[] #[.pointer (some ⟨Bs, 0, none⟩)]] w fun e w' => ∃ v, e = .returned v ∧ w'.ownsRow w.heap.size 3 1 v zs.length (iv zs) ∧ Below w.heap.size w w' := by
  have H := Lib.hid (appendSeq_any b off cap Bs zs w hlen hBs hb hcell hc)
  clear hcell hc
  go_enter Try.func54, Try.ntmps54
  go_wp2_with fail
  refine H.out.mono ?_
  rintro e w1 ⟨v, rfl, h1, h2⟩
  go_wp2_with fail
  go_ret
  exact ⟨v, rfl, h1, h2⟩

set_option maxHeartbeats 1000000 in
theorem sorted_any (b off cap Bs n : Nat) (zs : List Int) (w : World) (hn : zs.length = n) (h1 : 1 ≤ n) (h12 : n ≤ 12) (hBs : Bs < w.heap.size) (hb : b < w.heap.size) (hcell : w.cell? ⟨Bs, 0, none⟩ = some (.slice (some ⟨b, off, none⟩) n cap))
    (hc : ∀ j, j < zs.length → w.cell? ⟨b, off + j, none⟩ = some (.int .i64 (zs[j]?.getD 0))) :
    Calls Try.prog 49 #[.func (.func 56) #[] #[.pointer (some ⟨Bs, 0, none⟩)]] w fun e w' => ∃ (g c : Nat) (ss : List Int), e = .returned (.slice (some ⟨g, 0, none⟩) n c) ∧ ss.Perm zs ∧ ss.Pairwise (· ≤ ·) ∧ Ri w.heap.size w'.heap.size w' (some ⟨g, 0, none⟩) ss ∧ Below w.heap.size w w' := by
  subst hn
  have H := Lib.hid (collect_any b off cap Bs zs w (by omega) hBs hb hcell hc)
  clear hcell hc
  go_enter Try.func49, Try.ntmps49
  go_wp2_with fail
  refine H.out.mono ?_
  rintro e w1 ⟨v, rfl, ho, hb1⟩
  have hO : Out w.heap.size w1 v zs := ho
  rcases hO.2 with ⟨_, h0⟩ | ⟨g, c, cur, rfl, hg, hh, hnc, hcm, hcur, htk⟩
  · omega
  have hA : OwnArr w1 g 3 (iv zs ++ cur.toList.drop zs.length) := by
    show w1.heap[g]? = _
    rw [hh]
    congr 1
    rw [← Nat.mul_one zs.length, ← htk, List.take_append_drop]
  have S := Lib.hid (sortN_any g c zs.length zs (cur.toList.drop zs.length) w1 hA rfl h1 h12)
  have HB := Lib.hid hb1
  obtain ⟨n, hn⟩ : ∃ n, zs.length = n := ⟨_, rfl⟩
  rw [hn] at S h1 h12 ⊢
  have HN := Lib.hid hn
  clear H ho hO hh hcur htk hA hb1 hn
  go_wp2_with fail
  refine S.out.mono ?_
  rintro e w2 ⟨rfl, ss, hP, hS, hO2, hk⟩
  go_wp2_with fail
  go_ret
  refine ⟨g, c, ss, by rw [HN.out]; rfl, hP, hS, ?_, ?_⟩
  · have h3 := Rd.of_own hO2 hg hO2.lt (Nat.le_refl _) ss.length
    rw [List.take_append_of_le_length (by rw [iv_length]; exact Nat.le_refl _), List.take_of_length_le (by rw [iv_length]; exact Nat.le_refl _)] at h3
    exact h3
  · exact HB.out.trans ⟨hk.os, hk.tape, hk.output, hk.size, fun k hk' => hk.block k (by have := HB.out.size; omega) (.inl (by omega))⟩
end Go.Proofs.Ytkbpfjhikabbmaa
end
