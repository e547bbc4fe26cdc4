/- Chapter 5, impl side: a plane's freeBehind and choices. -/
import Derived.Test.YtkbpfjhikabbmaaShr5
import Derived.Test.YtkbpfjhikabbmaaHasI
import Derived.Test.YtkbpfjhikabbmaaCho5
namespace Go.Proofs.Ytkbpfjhikabbmaa
open Go.RowKit

theorem plane_lit (w : World) (n k : Int) : OwnArr ((w.alloc (planeB n k)).alloc (.cells #[] 3)) w.heap.size 42 [.int .i64 n, .int .i64 k] ∧ Out w.heap.size ((w.alloc (planeB n k)).alloc (.cells #[] 3)) (.slice (some ⟨w.heap.size + 1, 0, none⟩) 0 0) [] ∧ Below w.heap.size w ((w.alloc (planeB n k)).alloc (.cells #[] 3)) := by
  refine ⟨(OwnArr.made w _ [_, _]).alloc _, ?_, ((Below.refl _ _).alloc (Nat.le_refl _) _).alloc (by simp) _⟩
  have h := Out.nilLit (w.alloc (planeB n k))
  rw [show (w.alloc (planeB n k)).heap.size = w.heap.size + 1 by simp] at h
  exact h.mono (by omega)

set_option maxRecDepth 4000 in
set_option maxHeartbeats 1600000 in
theorem freeBehind_any (n : Nat) (k : Int) (p : Option Addr) (cap : Nat) (xs : List Int) (w : World) (lo hi : Nat) (hin : Ri lo hi w p xs) (hn : n ≤ 24) (hlen : xs.length ≤ 1048576) :
    Calls Try.prog 51 #[.agg #[.int .i64 (n : Nat), .int .i64 k], .slice p xs.length cap] w fun e w' => ∃ v, e = .returned v ∧ Out w.heap.size w' v (ints (tk n (choS xs))) ∧ Below w.heap.size w w' := by
  obtain ⟨i0, hi0, hz0, hz1, hz2⟩ := info_parts infoInt
  have HS := Lib.hid (fun (x : Int) (w' : World) (h' : Below w.heap.size w w') => contains_any p cap xs x w' lo hi (hin.below h' hin.top) hlen)
  obtain ⟨m, hm⟩ : ∃ m, xs.length = m := ⟨_, rfl⟩
  rw [hm] at HS ⊢
  have HT : Hid (∀ s : Nat, decide ((s : Int) ∈ xs) = !(choS xs s)) := by
    show ∀ _, _
    intro s; unfold choS; rw [Bool.not_not]
  obtain ⟨T, hT⟩ : ∃ T, choS xs = T := ⟨_, rfl⟩
  rw [hT] at HT ⊢
  obtain ⟨hX, hO, hB⟩ := plane_lit w n k
  obtain ⟨b0, b1⟩ := box_plane hX
  have HO0 := Lib.hid hO
  have HB0 := Lib.hid hB
  clear hin hlen hm hT hX hO hB
  go_enter Try.func51, Try.ntmps51
  go_wp2_with fail
  clear b0 b1
  go_loopw [5, 10, 6] (fun v i _ wr => ∃ (k : Nat), k ≤ n ∧ i = .int .i64 k ∧ Hid (Out w.heap.size wr v (ints (tk k T))) ∧ Hid (Below w.heap.size w wr)) (fun _ i _ _ => n - (intOf i).toNat)
  case atStart => exact ⟨0, Nat.zero_le _, rfl, HO0, HB0⟩
  case round =>
    obtain ⟨k, hk, rfl, HO, HB⟩ := hrel
    clear HO0 HB0
    by_cases hlt : k < n
    · have hk1 : (k : Int) < (n : Int) := by omega
      have G := HS.out (k : Int) wr HB.out
      have hT := HT.out k
      obtain ⟨b, hTb⟩ : ∃ b, T k = b := ⟨_, rfl⟩
      rw [hTb] at hT
      rw [hT] at G
      replace G := Lib.hid G
      clear hT
      cases b with
      | true =>
        have HT2 := Lib.hid (ints_tk_yes hTb)
        clear hTb
        go_wp2_with fail
        refine G.out.mono ?_
        rintro e w2 ⟨rfl, rfl⟩
        clear G
        have HL := Lib.hid (ints_tk_len k T)
        have hblk := Lib.hid (own_block HO.out)
        have hsz := HB.out.size
        obtain ⟨l, vs, hl, hvs, hown⟩ := HO.out.open'
        have hlk := HL.out
        rw [hl] at hlk
        replace hl := Lib.hid hl
        replace hvs := Lib.hid hvs
        go_wp2_with (at_builtin; refine wpList_append_own _ rfl _ _ 33 rfl w.heap.size 3 i0 (.int .i64 0) 1 8 Try.underlying33 hi0 hz0 hz1 hz2 rfl (by decide) _ _ _ rfl (hown.alloc _) ⟨wr.heap.size, 0, none⟩ 1 1 [.int .i64 (k : Int)] rfl rfl (cell_one_new _ _ _) (fun x hx => by simp at hx; subst hx; rfl) (by unfold maxLen; omega) (by omega) (by simp; omega) ?_; intro v' w3 hown' hgrow3 hnil3)
        have hG : Below w.heap.size wr w3 := ((Below.refl w.heap.size wr).alloc hsz _).grown hgrow3 (by simp; omega) hblk.out
        have HB3 := Lib.hid (HB.out.trans hG)
        have HO3 : Hid (Out w.heap.size w3 v' (ints (tk (k + 1) T))) := by
          show Out _ _ _ _
          rw [HT2.out]; exact Out.close hl.out hvs.out hown'
        clear hown' hgrow3 hnil3 hown hG
        go_wp2
        go_roundw
        case rel => exact ⟨k + 1, by omega, by go_num, HO3, HB3⟩
        case measure => simp [intOf]; omega
      | false =>
        have HT2 := Lib.hid (ints_tk_no hTb)
        clear hTb
        go_wp2_with fail
        refine G.out.mono ?_
        rintro e w2 ⟨rfl, rfl⟩
        have ho3 := HO.out
        rw [← HT2.out] at ho3
        have HO3 := Lib.hid ho3
        clear ho3 G
        go_wp2_with fail
        go_roundw
        case rel => exact ⟨k + 1, by omega, by go_num, HO3, HB⟩
        case measure => simp [intOf]; omega
    · have hkn : k = n := by omega
      subst hkn
      have hk1 : ¬ (k : Int) < (k : Int) := by omega
      go_wp2_with fail
      go_ret
      exact ⟨_, rfl, HO.out, HB.out⟩

set_option maxRecDepth 4000 in
set_option maxHeartbeats 1600000 in
theorem choices_any (n k : Nat) (p : Option Addr) (cap : Nat) (xs : List Int) (w : World) (lo hi : Nat) (hin : Ri lo hi w p xs) (hn : n ≤ 24) (hlen : xs.length ≤ 1048576) :
    Calls Try.prog 43 #[.agg #[.int .i64 (n : Nat), .int .i64 (k : Nat)], .slice p xs.length cap] w fun e w' => ∃ v, e = .returned v ∧ Out w.heap.size w' v (ints (choM n k xs)) ∧ Below w.heap.size w w' := by
  have hX := OwnArr.made w 42 [.int .i64 (n : Int), .int .i64 (k : Int)]
  have hB := (Below.refl w.heap.size w).alloc (Nat.le_refl _) (planeB n k)
  have HS := contains_any p cap xs (xs.length : Int) _ lo hi (hin.bel hB) hlen
  have FB := Lib.hid (freeBehind_any n (k : Int) p cap xs _ lo hi (hin.bel hB) hn hlen)
  obtain ⟨b0, b1⟩ := box_plane hX
  have HB := Lib.hid hB
  obtain ⟨m, hm⟩ : ∃ m, xs.length = m := ⟨_, rfl⟩
  by_cases hc : k ≤ m ∧ (m : Int) ∉ xs
  · have hM : choM n k xs = [m] := by unfold choM; rw [hm, if_pos hc]
    rw [hM, hm]
    rw [hm, decide_eq_false hc.2] at HS
    have hk1 : (k : Int) ≤ (m : Int) := by omega
    replace HS := Lib.hid HS
    have HO : Hid (Out w.heap.size ((w.alloc (planeB n k)).alloc (.cells #[.int .i64 (m : Int)] 3)) (.slice (some ⟨w.heap.size + 1, 0, none⟩) 1 1) (ints [m])) := by
      show Out _ _ _ _
      have h : Out (w.alloc (planeB n k)).heap.size ((w.alloc (planeB n k)).alloc (.cells #[.int .i64 (m : Int)] 3)) (.slice (some ⟨(w.alloc (planeB n k)).heap.size, 0, none⟩) 1 1) (ints [m]) := own_lit [.int .i64 (m : Int)] 1 1 rfl (by unfold maxLen; omega)
      rw [show (w.alloc (planeB n k)).heap.size = w.heap.size + 1 by simp] at h
      exact h.mono (by omega)
    clear hin hM hm hc hX hB FB
    go_enter Try.func43, Try.ntmps43
    go_wp2_with fail
    refine HS.out.mono ?_
    rintro e w1 ⟨rfl, rfl⟩
    go_wp2_with fail
    go_ret
    exact ⟨_, rfl, HO.out, HB.out.alloc HB.out.size _⟩
  · have hM : choM n k xs = tk n (choS xs) := by unfold choM; rw [hm, if_neg hc]
    rw [hM, hm]
    rw [hm] at FB HS
    by_cases hkm : k ≤ m
    · have hk1 : (k : Int) ≤ (m : Int) := by omega
      have hmem : (m : Int) ∈ xs := Classical.byContradiction fun h => hc ⟨hkm, h⟩
      rw [decide_eq_true hmem] at HS
      replace HS := Lib.hid HS
      clear hin hM hm hc hX hB hmem
      go_enter Try.func43, Try.ntmps43
      go_wp2_with fail
      refine HS.out.mono ?_
      rintro e w1 ⟨rfl, rfl⟩
      clear HS
      go_wp2_with fail
      refine FB.out.mono ?_
      rintro e w2 ⟨v, rfl, hO, hb2⟩
      have HO := Lib.hid (hO.mono HB.out.size)
      have HB2 := Lib.hid (HB.out.trans (hb2.mono HB.out.size))
      clear hO hb2 FB
      go_wp2_with fail
      go_ret
      exact ⟨_, rfl, HO.out, HB2.out⟩
    · have hk1 : ¬ (k : Int) ≤ (m : Int) := by omega
      clear hin hM hm hc hX hB HS
      go_enter Try.func43, Try.ntmps43
      go_wp2_with fail
      refine FB.out.mono ?_
      rintro e w2 ⟨v, rfl, hO, hb2⟩
      have HO := Lib.hid (hO.mono HB.out.size)
      have HB2 := Lib.hid (HB.out.trans (hb2.mono HB.out.size))
      clear hO hb2 FB
      go_wp2_with fail
      go_ret
      exact ⟨_, rfl, HO.out, HB2.out⟩
end Go.Proofs.Ytkbpfjhikabbmaa
