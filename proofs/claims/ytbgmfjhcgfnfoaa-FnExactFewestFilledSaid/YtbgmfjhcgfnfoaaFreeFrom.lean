/- impl's freeFrom, at the seats of a valid Row. -/
import Derived.Test.YtbgmfjhcgfnfoaaHasI
import Derived.Test.YtbgmfjhcgfnfoaaOut
import Derived.StillTailTactics
namespace Go.Proofs.Ytbgmfjhcgfnfoaa
open Go.RowKit

set_option maxRecDepth 4000 in
set_option maxHeartbeats 2000000 in
theorem freeFrom_ring (n : Nat) (p : Option Addr) (cap : Nat) (S : Nat → Bool) (a : Nat) (w : World) (lo hi : Nat) (hin : Ri lo hi w p (ints (tk n S))) (h2 : 2 ≤ n) (hn : n ≤ 24) (ha : a < n) :
    Calls Try.prog 40 #[rowV n true p (ints (tk n S)).length cap, .int .i64 (a : Nat)] w fun e w' => e = .returned (.int .i64 (runM n true S a : Nat)) ∧ Below w.heap.size w w' := by
  have hlen := ints_tk_len n S
  have TK : ∀ (x : Nat) (_ : x < n) (w' : World) (_ : Below w.heap.size w w'), Calls Try.prog 62 #[rowV n true p (ints (tk n S)).length cap, .int .i64 (x : Nat)] w' fun e w'' => e = .returned (.bool (S x)) ∧ Below w'.heap.size w' w'' := by
    intro x hx w' h'
    have := isTaken_any n true p cap (ints (tk n S)) x w' lo hi (hin.below h' hin.top) (by omega)
    rw [has_tk hx] at this
    exact this
  have HX0 := Lib.hid (OwnArr.made w 28 [.int .i64 n, .bool true, .slice p (ints (tk n S)).length cap])
  have HB0 := Lib.hid (box_below w n true p (ints (tk n S)).length cap 28)
  obtain ⟨m, hm⟩ : ∃ m, (ints (tk n S)).length = m := ⟨_, rfl⟩
  rw [hm] at TK HX0 HB0 ⊢
  replace TK := Lib.hid TK
  have hV : Hid (∀ k, (∀ i, i < k → S ((a + i) % n) = false) → k ≤ n → (k < n → S ((a + k) % n) = true) → runM n true S a = k) := by
    show ∀ _, _
    intro k h1 h2 h3
    unfold runM reachM
    rw [if_pos rfl]
    exact firstM_eq h1 (by omega) (fun h => h3 (by omega))
  have hn0 : ¬ n = 0 := by omega
  have hn0' : ¬ (n : Int) = 0 := by omega
  obtain ⟨V, hVe⟩ : ∃ V, runM n true S a = V := ⟨_, rfl⟩
  rw [hVe] at hV ⊢
  clear hin hlen hm hVe
  obtain ⟨c0, c1, c2, -⟩ := HX0.out.three
  go_enter Try.func40, Try.ntmps40
  go_wp2_with fail
  clear c0 c1 c2
  go_loopw [6, 16] (fun _ i wr => ∃ (k : Nat), k ≤ n ∧ i = .int .i64 k ∧ Hid (∀ i, i < k → S ((a + i) % n) = false) ∧ Hid (OwnArr wr w.heap.size 28 [.int .i64 n, .bool true, .slice p m cap]) ∧ Hid (Below w.heap.size w wr)) (fun _ i _ => n - (intOf i).toNat)
  case atStart => exact ⟨0, Nat.zero_le _, rfl, (by show ∀ _, _; intro i h; omega), HX0, HB0⟩
  case round =>
    obtain ⟨k, hk, rfl, HF, HX, HB⟩ := hrel
    clear HX0 HB0
    obtain ⟨c0, c1, c2, -⟩ := HX.out.three
    by_cases hlt : k < n
    · have hk1 : (k : Int) < (n : Int) := by omega
      have hxm : (a + k) % n < n := Nat.mod_lt _ (by omega)
      have T := TK.out _ hxm wr.drew HB.out.drew
      have hVk := hV.out k HF.out hk
      have HFk : Hid (S ((a + k) % n) = false → ∀ i, i < k + 1 → S ((a + i) % n) = false) := by
        show _ → ∀ _, _
        intro h i hi
        rcases Nat.lt_or_ge i k with h' | h'
        · exact HF.out i h'
        · have : i = k := by omega
          subst this; exact h
      obtain ⟨x, hx⟩ : ∃ x, (a + k) % n = x := ⟨_, rfl⟩
      have hw1 : IntKind.i64.wrap ((a : Int) + (k : Int)) = (a : Int) + (k : Int) := IntWalk.i64_in _ (by omega)
      have ht : Int.tmod ((a : Int) + (k : Int)) (n : Int) = (x : Int) := by
        rw [show ((a : Int) + (k : Int)) = ((a + k : Nat) : Int) from by omega, Int.tmod_eq_emod_of_nonneg (by omega)]
        rw [← hx]; omega
      rw [hx] at T hxm hVk HFk
      have hw3 : IntKind.i64.wrap (x : Int) = (x : Int) := IntWalk.i64_in _ (by omega)
      obtain ⟨t, ht2⟩ : ∃ t, S x = t := ⟨_, rfl⟩
      rw [ht2] at T hVk HFk
      have HT := Lib.hid T
      have HBd := Lib.hid HB.out.drew
      have HXd : Hid (OwnArr wr.drew w.heap.size 28 [.int .i64 n, .bool true, .slice p m cap]) := HX.out
      have HVK := Lib.hid hVk
      clear T hx ht2 hVk HX HB
      go_wp2_with fail
      go_still_tail 7, (by kernel_rfl)
      change wpList _ _ _ _ _ wr.drew
      go_wp2_with fail
      refine HT.out.mono ?_
      rintro e w5 ⟨rfl, hb5⟩
      have HX5 := Lib.hid (HXd.out.below hb5 HXd.out.lt)
      have HB5 := Lib.hid (HBd.out.trans (hb5.mono HBd.out.size))
      clear HXd HBd hb5 c0 c1 c2 HT
      cases t with
      | true =>
        have hv := HVK.out (fun _ => (by first | trivial | rfl))
        subst hv
        go_wp2_with fail
        go_ret
        exact ⟨rfl, HB5.out⟩
      | false =>
        have HF2 := Lib.hid (HFk.out (by first | trivial | rfl))
        go_wp2_with fail
        go_roundw
        case rel => exact ⟨k + 1, by omega, by go_num, HF2, HX5, HB5⟩
        case measure => simp [intOf]; omega
    · have hkR : k = n := by omega
      have hv := hV.out k HF.out hk (fun h => absurd h hlt)
      have hk1 : ¬ (k : Int) < (n : Int) := by omega
      clear hkR
      replace hv := Lib.hid hv
      have hkR2 : Hid (k = n) := by show _ = _; omega
      go_wp2_with fail
      go_ret
      exact ⟨ret_int (by have := hv.out; have := hkR2.out; omega), HB.out⟩

set_option maxRecDepth 4000 in
set_option maxHeartbeats 2000000 in
theorem freeFrom_line (n : Nat) (p : Option Addr) (cap : Nat) (S : Nat → Bool) (a : Nat) (w : World) (lo hi : Nat) (hin : Ri lo hi w p (ints (tk n S))) (h2 : 2 ≤ n) (hn : n ≤ 24) (ha : a < n) :
    Calls Try.prog 40 #[rowV n false p (ints (tk n S)).length cap, .int .i64 (a : Nat)] w fun e w' => e = .returned (.int .i64 (runM n false S a : Nat)) ∧ Below w.heap.size w w' := by
  have hlen := ints_tk_len n S
  have TK : ∀ (x : Nat) (_ : x < n) (w' : World) (_ : Below w.heap.size w w'), Calls Try.prog 62 #[rowV n false p (ints (tk n S)).length cap, .int .i64 (x : Nat)] w' fun e w'' => e = .returned (.bool (S x)) ∧ Below w'.heap.size w' w'' := by
    intro x hx w' h'
    have := isTaken_any n false p cap (ints (tk n S)) x w' lo hi (hin.below h' hin.top) (by omega)
    rw [has_tk hx] at this
    exact this
  have HX0 := Lib.hid (OwnArr.made w 28 [.int .i64 n, .bool false, .slice p (ints (tk n S)).length cap])
  have HB0 := Lib.hid (box_below w n false p (ints (tk n S)).length cap 28)
  obtain ⟨m, hm⟩ : ∃ m, (ints (tk n S)).length = m := ⟨_, rfl⟩
  rw [hm] at TK HX0 HB0 ⊢
  replace TK := Lib.hid TK
  obtain ⟨R, hR⟩ : ∃ R, n - a = R := ⟨_, rfl⟩
  have hV : Hid (∀ k, (∀ i, i < k → S ((a + i) % n) = false) → k ≤ R → (k < R → S ((a + k) % n) = true) → runM n false S a = k) := by
    show ∀ _, _
    intro k h1 h2 h3
    unfold runM reachM
    rw [if_neg (by simp)]
    exact firstM_eq h1 (by omega) (fun h => h3 (by omega))
  have hR24 : R ≤ n := by omega
  have hwR : IntKind.i64.wrap ((n : Int) - (a : Int)) = (R : Int) := by
    rw [IntWalk.i64_in _ (by omega)]
    omega
  have hn0 : ¬ n = 0 := by omega
  have hn0' : ¬ (n : Int) = 0 := by omega
  have hR2 := Lib.hid hR
  obtain ⟨V, hVe⟩ : ∃ V, runM n false S a = V := ⟨_, rfl⟩
  rw [hVe] at hV ⊢
  clear hin hlen hm hR hVe
  obtain ⟨c0, c1, c2, -⟩ := HX0.out.three
  go_enter Try.func40, Try.ntmps40
  go_wp2_with fail
  clear c0 c1 c2
  go_loopw [6, 16] (fun _ i wr => ∃ (k : Nat), k ≤ R ∧ i = .int .i64 k ∧ Hid (∀ i, i < k → S ((a + i) % n) = false) ∧ Hid (OwnArr wr w.heap.size 28 [.int .i64 n, .bool false, .slice p m cap]) ∧ Hid (Below w.heap.size w wr)) (fun _ i _ => R - (intOf i).toNat)
  case atStart => exact ⟨0, Nat.zero_le _, rfl, (by show ∀ _, _; intro i h; omega), HX0, HB0⟩
  case round =>
    obtain ⟨k, hk, rfl, HF, HX, HB⟩ := hrel
    clear HX0 HB0
    obtain ⟨c0, c1, c2, -⟩ := HX.out.three
    by_cases hlt : k < R
    · have hk1 : (k : Int) < (R : Int) := by omega
      have hxm : (a + k) % n < n := Nat.mod_lt _ (by omega)
      have T := TK.out _ hxm wr.drew HB.out.drew
      have hVk := hV.out k HF.out hk
      have HFk : Hid (S ((a + k) % n) = false → ∀ i, i < k + 1 → S ((a + i) % n) = false) := by
        show _ → ∀ _, _
        intro h i hi
        rcases Nat.lt_or_ge i k with h' | h'
        · exact HF.out i h'
        · have : i = k := by omega
          subst this; exact h
      obtain ⟨x, hx⟩ : ∃ x, (a + k) % n = x := ⟨_, rfl⟩
      have hw1 : IntKind.i64.wrap ((a : Int) + (k : Int)) = (a : Int) + (k : Int) := IntWalk.i64_in _ (by omega)
      have ht : Int.tmod ((a : Int) + (k : Int)) (n : Int) = (x : Int) := by
        rw [show ((a : Int) + (k : Int)) = ((a + k : Nat) : Int) from by omega, Int.tmod_eq_emod_of_nonneg (by omega)]
        rw [← hx]; omega
      rw [hx] at T hxm hVk HFk
      have hw3 : IntKind.i64.wrap (x : Int) = (x : Int) := IntWalk.i64_in _ (by omega)
      obtain ⟨t, ht2⟩ : ∃ t, S x = t := ⟨_, rfl⟩
      rw [ht2] at T hVk HFk
      have HT := Lib.hid T
      have HBd := Lib.hid HB.out.drew
      have HXd : Hid (OwnArr wr.drew w.heap.size 28 [.int .i64 n, .bool false, .slice p m cap]) := HX.out
      have HVK := Lib.hid hVk
      clear T hx ht2 hVk HX HB
      go_wp2_with fail
      go_still_tail 7, (by kernel_rfl)
      change wpList _ _ _ _ _ wr.drew
      go_wp2_with fail
      refine HT.out.mono ?_
      rintro e w5 ⟨rfl, hb5⟩
      have HX5 := Lib.hid (HXd.out.below hb5 HXd.out.lt)
      have HB5 := Lib.hid (HBd.out.trans (hb5.mono HBd.out.size))
      clear HXd HBd hb5 c0 c1 c2 HT
      cases t with
      | true =>
        have hv := HVK.out (fun _ => (by first | trivial | rfl))
        subst hv
        go_wp2_with fail
        go_ret
        exact ⟨rfl, HB5.out⟩
      | false =>
        have HF2 := Lib.hid (HFk.out (by first | trivial | rfl))
        go_wp2_with fail
        go_roundw
        case rel => exact ⟨k + 1, by omega, by go_num, HF2, HX5, HB5⟩
        case measure => simp [intOf]; omega
    · have hkR : k = R := by omega
      have hv := hV.out k HF.out hk (fun h => absurd h hlt)
      have hk1 : ¬ (k : Int) < (R : Int) := by omega
      clear hkR
      replace hv := Lib.hid hv
      have hkR2 : Hid (k = R) := by show _ = _; omega
      go_wp2_with fail
      go_ret
      exact ⟨ret_int (by have := hv.out; have := hkR2.out; omega), HB.out⟩

theorem freeFrom_any (n : Nat) (ring : Bool) (p : Option Addr) (cap : Nat) (S : Nat → Bool) (a : Nat) (w : World) (lo hi : Nat) (hin : Ri lo hi w p (ints (tk n S))) (h2 : 2 ≤ n) (hn : n ≤ 24) (ha : a < n) :
    Calls Try.prog 40 #[rowV n ring p (ints (tk n S)).length cap, .int .i64 (a : Nat)] w fun e w' => e = .returned (.int .i64 (runM n ring S a : Nat)) ∧ Below w.heap.size w w' := by
  cases ring with
  | true => exact freeFrom_ring n p cap S a w lo hi hin h2 hn ha
  | false => exact freeFrom_line n p cap S a w lo hi hin h2 hn ha
end Go.Proofs.Ytbgmfjhcgfnfoaa
