/- Chapter 5, spec side: spec.l5Choices. -/
import Derived.Test.YtkbpfjhikabbmaaHasS
import Derived.Test.YtkbpfjhikabbmaaApp
import Derived.StillTailTactics
namespace Go.Proofs.Ytkbpfjhikabbmaa
open Go.RowKit

/-- the seats that a traveler may take, behind those who took the seats xs -/
def choS (xs : List Int) (s : Nat) : Bool := !decide ((s : Int) ∈ xs)
def choM (n k : Nat) (xs : List Int) : List Nat := if k ≤ xs.length ∧ (xs.length : Int) ∉ xs then [xs.length] else tk n (choS xs)

set_option maxRecDepth 4000 in
set_option maxHeartbeats 1600000 in
theorem l5Choices_any (n k : Nat) (p : Option Addr) (cap : Nat) (xs : List Int) (w : World) (lo hi : Nat) (hin : Ri lo hi w p xs) (hn : n ≤ 24) (hlen : xs.length ≤ 1048576) :
    Calls Try.prog 39 #[.int .i64 (n : Nat), .int .i64 (k : Nat), .slice p xs.length cap] w fun e w' => ∃ v, e = .returned v ∧ Out w.heap.size w' v (ints (choM n k xs)) ∧ Below w.heap.size w w' := by
  obtain ⟨i0, hi0, hz0, hz1, hz2⟩ := info_parts infoInt
  have HS := Lib.hid (fun (x : Int) (w' : World) (h' : Below w.heap.size w w') => l1Has_any p cap xs x w' lo hi (hin.below h' hin.top) hlen)
  obtain ⟨m, hm⟩ : ∃ m, xs.length = m := ⟨_, rfl⟩
  by_cases hc : k ≤ m ∧ (m : Int) ∉ xs
  · have hM : choM n k xs = [m] := by unfold choM; rw [hm, if_pos hc]
    rw [hM, hm]
    rw [hm] at HS hlen
    have hk1 : (k : Int) ≤ (m : Int) := by omega
    have H0 := HS.out (m : Int) w (Below.refl _ _)
    rw [decide_eq_false hc.2] at H0
    replace H0 := Lib.hid H0
    clear hin hM HS hm hc
    go_enter Try.func39, Try.ntmps39
    go_wp2_with fail
    refine H0.out.mono ?_
    rintro e w1 ⟨rfl, rfl⟩
    go_wp2_with fail
    go_ret
    exact ⟨_, rfl, own_lit [.int .i64 (m : Int)] 1 1 rfl (by unfold maxLen; omega), (Below.refl _ _).alloc (Nat.le_refl _) _⟩
  · have hM : choM n k xs = tk n (choS xs) := by unfold choM; rw [hm, if_neg hc]
    rw [hM, hm]
    rw [hm] at HS hlen
    have HT : Hid (∀ s : Nat, decide ((s : Int) ∈ xs) = !(choS xs s)) := by
      show ∀ _, _
      intro s; unfold choS; rw [Bool.not_not]
    have h0 := HS.out (m : Int) w (Below.refl _ _)
    obtain ⟨T, hT⟩ : ∃ T, choS xs = T := ⟨_, rfl⟩
    rw [hT] at HT ⊢
    have HO0 := Lib.hid (Out.nilLit w)
    have HB0 : Hid (Below w.heap.size w (w.alloc (.cells #[] 3))) := (Below.refl _ _).alloc (Nat.le_refl _) _
    by_cases hkm : k ≤ m
    · have hk1 : (k : Int) ≤ (m : Int) := by omega
      have hmem : (m : Int) ∈ xs := Classical.byContradiction fun h => hc ⟨hkm, h⟩
      rw [decide_eq_true hmem] at h0
      have H0 := Lib.hid h0
      clear hin hM hm hc hT h0 hmem
      go_enter Try.func39, Try.ntmps39
      go_wp2_with fail
      refine H0.out.mono ?_
      rintro e w1 ⟨rfl, rfl⟩
      clear H0
      go_wp2_with fail
      go_loopw [8, 9] (fun v i wr => ∃ (k : Nat), k ≤ n ∧ i = .int .i64 k ∧ Hid (Out w.heap.size wr v (ints (tk k T))) ∧ Hid (Below w.heap.size w wr)) (fun _ i _ => n - (intOf i).toNat)
      case atStart => exact ⟨0, Nat.zero_le _, rfl, HO0, HB0⟩
      case round =>
        obtain ⟨k, hk, rfl, HO, HB⟩ := hrel
        clear HO0 HB0
        by_cases hlt : k < n
        · have hk1 : (k : Int) < (n : Int) := by omega
          have G := Lib.hid (HS.out (k : Int) wr HB.out)
          have hT := HT.out k
          obtain ⟨b, hTb⟩ : ∃ b, T k = b := ⟨_, rfl⟩
          rw [hTb] at hT
          replace G := G.out
          rw [hT] at G
          replace G := Lib.hid G
          clear hT
          cases b with
          | true =>
            have HT2 := Lib.hid (ints_tk_yes hTb)
            clear hTb
            go_wp2_with fail
            refine G.out.mono ?_
            rintro e w2 ⟨rfl, rfl⟩
            clear G
            have HL := Lib.hid (ints_tk_len k T)
            have hblk := Lib.hid (own_block HO.out)
            have hsz := HB.out.size
            obtain ⟨l, vs, hl, hvs, hown⟩ := HO.out.open'
            have hlk := HL.out
            rw [hl] at hlk
            replace hl := Lib.hid hl
            replace hvs := Lib.hid hvs
            go_wp2_with (at_builtin; refine wpList_append_own _ rfl _ _ 33 rfl w.heap.size 3 i0 (.int .i64 0) 1 8 Try.underlying33 hi0 hz0 hz1 hz2 rfl (by decide) _ _ _ rfl (hown.alloc _) ⟨wr.heap.size, 0, none⟩ 1 1 [.int .i64 (k : Int)] rfl rfl (cell_one_new _ _ _) (fun x hx => by simp at hx; subst hx; rfl) (by unfold maxLen; omega) (by omega) (by simp; omega) ?_; intro v' w3 hown' hgrow3 hnil3)
            have hG : Below w.heap.size wr w3 := ((Below.refl w.heap.size wr).alloc hsz _).grown hgrow3 (by simp; omega) hblk.out
            have HB3 := Lib.hid (HB.out.trans hG)
            have HO3 : Hid (Out w.heap.size w3 v' (ints (tk (k + 1) T))) := by
              show Out _ _ _ _
              rw [HT2.out]; exact Out.close hl.out hvs.out hown'
            clear hown' hgrow3 hnil3 hown hG
            go_wp2
            go_roundw
            case rel => exact ⟨k + 1, by omega, by go_num, HO3, HB3⟩
            case measure => simp [intOf]; omega
          | false =>
            have HT2 := Lib.hid (ints_tk_no hTb)
            clear hTb
            go_wp2_with fail
            refine G.out.mono ?_
            rintro e w2 ⟨rfl, rfl⟩
            have ho3 := HO.out
            rw [← HT2.out] at ho3
            have HO3 := Lib.hid ho3
            clear ho3 G
            go_wp2_with fail
            go_roundw
            case rel => exact ⟨k + 1, by omega, by go_num, HO3, HB⟩
            case measure => simp [intOf]; omega
        · have hkn : k = n := by omega
          subst hkn
          have hk1 : ¬ (k : Int) < (k : Int) := by omega
          go_wp2_with fail
          go_ret
          exact ⟨_, rfl, HO.out, HB.out⟩
    · have hk1 : ¬ (k : Int) ≤ (m : Int) := by omega
      clear hin hM hm hc hT h0
      go_enter Try.func39, Try.ntmps39
      go_wp2_with fail
      go_loopw [8, 9] (fun v i wr => ∃ (k : Nat), k ≤ n ∧ i = .int .i64 k ∧ Hid (Out w.heap.size wr v (ints (tk k T))) ∧ Hid (Below w.heap.size w wr)) (fun _ i _ => n - (intOf i).toNat)
      case atStart => exact ⟨0, Nat.zero_le _, rfl, HO0, HB0⟩
      case round =>
        obtain ⟨k, hk, rfl, HO, HB⟩ := hrel
        clear HO0 HB0
        by_cases hlt : k < n
        · have hk1 : (k : Int) < (n : Int) := by omega
          have G := Lib.hid (HS.out (k : Int) wr HB.out)
          have hT := HT.out k
          obtain ⟨b, hTb⟩ : ∃ b, T k = b := ⟨_, rfl⟩
          rw [hTb] at hT
          replace G := G.out
          rw [hT] at G
          replace G := Lib.hid G
          clear hT
          cases b with
          | true =>
            have HT2 := Lib.hid (ints_tk_yes hTb)
            clear hTb
            go_wp2_with fail
            refine G.out.mono ?_
            rintro e w2 ⟨rfl, rfl⟩
            clear G
            have HL := Lib.hid (ints_tk_len k T)
            have hblk := Lib.hid (own_block HO.out)
            have hsz := HB.out.size
            obtain ⟨l, vs, hl, hvs, hown⟩ := HO.out.open'
            have hlk := HL.out
            rw [hl] at hlk
            replace hl := Lib.hid hl
            replace hvs := Lib.hid hvs
            go_wp2_with (at_builtin; refine wpList_append_own _ rfl _ _ 33 rfl w.heap.size 3 i0 (.int .i64 0) 1 8 Try.underlying33 hi0 hz0 hz1 hz2 rfl (by decide) _ _ _ rfl (hown.alloc _) ⟨wr.heap.size, 0, none⟩ 1 1 [.int .i64 (k : Int)] rfl rfl (cell_one_new _ _ _) (fun x hx => by simp at hx; subst hx; rfl) (by unfold maxLen; omega) (by omega) (by simp; omega) ?_; intro v' w3 hown' hgrow3 hnil3)
            have hG : Below w.heap.size wr w3 := ((Below.refl w.heap.size wr).alloc hsz _).grown hgrow3 (by simp; omega) hblk.out
            have HB3 := Lib.hid (HB.out.trans hG)
            have HO3 : Hid (Out w.heap.size w3 v' (ints (tk (k + 1) T))) := by
              show Out _ _ _ _
              rw [HT2.out]; exact Out.close hl.out hvs.out hown'
            clear hown' hgrow3 hnil3 hown hG
            go_wp2
            go_roundw
            case rel => exact ⟨k + 1, by omega, by go_num, HO3, HB3⟩
            case measure => simp [intOf]; omega
          | false =>
            have HT2 := Lib.hid (ints_tk_no hTb)
            clear hTb
            go_wp2_with fail
            refine G.out.mono ?_
            rintro e w2 ⟨rfl, rfl⟩
            have ho3 := HO.out
            rw [← HT2.out] at ho3
            have HO3 := Lib.hid ho3
            clear ho3 G
            go_wp2_with fail
            go_roundw
            case rel => exact ⟨k + 1, by omega, by go_num, HO3, HB⟩
            case measure => simp [intOf]; omega
        · have hkn : k = n := by omega
          subst hkn
          have hk1 : ¬ (k : Int) < (k : Int) := by omega
          go_wp2_with fail
          go_ret
          exact ⟨_, rfl, HO.out, HB.out⟩
end Go.Proofs.Ytkbpfjhikabbmaa
