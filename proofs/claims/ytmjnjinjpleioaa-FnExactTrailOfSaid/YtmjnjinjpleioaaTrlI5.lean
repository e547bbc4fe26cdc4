/- Chapter 5, impl side: slices.Index of a seat that somebody has; impl.TrailOf; both sides. -/
import Derived.Test.YtmjnjinjpleioaaFreI5
import Derived.Test.YtmjnjinjpleioaaTrl5
namespace Go.Proofs.Ytmjnjinjpleioaa
open Go.RowKit

set_option maxHeartbeats 800000 in
theorem index_who (p : Option Addr) (cap : Nat) (xs : List Int) (s : Nat) (w : World) (lo hi : Nat) (hin : Ri lo hi w p xs) (hm : (s : Int) ∈ xs) (hlen : xs.length ≤ 1048576) :
    Calls Try.prog 37 #[.slice p xs.length cap, .int .i64 (s : Nat)] w fun e w' => e = .returned (.int .i64 ((whoM xs s : Nat) : Int)) ∧ w = w' := by
  obtain ⟨h1, h2, h3⟩ := who_is hm
  obtain ⟨b, off, rfl, -, -, hbw, hc⟩ := hin.int (by omega)
  have HC := Lib.hid (fun (i : Nat) (hi' : i < xs.length) => hc i hi')
  obtain ⟨m, hmm⟩ : ∃ m, xs.length = m := ⟨_, rfl⟩
  rw [hmm] at HC h1 hlen ⊢
  obtain ⟨z, hz⟩ : ∃ z, whoM xs s = z := ⟨_, rfl⟩
  rw [hz] at h1 h2 h3 ⊢
  have H2 := Lib.hid h2
  have H3 := Lib.hid h3
  clear hin hm hc hmm hz h2 h3
  go_enter Try.func37, Try.ntmps37
  go_wp2_with fail
  go_loop [5, 8] (fun _ i => ∃ j : Nat, j ≤ z ∧ i = .int .i64 j) (fun _ i => z - (intOf i).toNat)
  case atStart => exact ⟨0, Nat.zero_le _, rfl⟩
  case round =>
    obtain ⟨j, hj, rfl⟩ := hrel
    have hj0 : (0 : Int) ≤ (j : Int) := by omega
    have hj1 : (j : Int) < (m : Int) := by omega
    have h0 := HC.out j (by omega)
    obtain ⟨x, hx⟩ : ∃ x, xs[j]?.getD 0 = x := ⟨_, rfl⟩
    rw [hx] at h0
    by_cases hlt : j < z
    · have hne := H3.out j hlt
      rw [hx] at hne
      have hne2 : ¬ (s : Int) = x := fun h => hne h.symm
      clear hx
      go_wp2_with fail
      go_round
      case rel => exact ⟨j + 1, by omega, by go_num⟩
      case measure => simp [intOf]; omega
    · have hjz : j = z := by omega
      subst hjz
      have he := H2.out
      rw [hx] at he
      subst he
      clear hx
      go_wp2_with fail
      go_ret
      exact ⟨rfl, rfl⟩

theorem lit_plane (w : World) (n k : Int) : PlaneW w (w.heap.size + 1) n k ((w.alloc (.cells #[] 3)).alloc (.cells #[.int .i64 n, .int .i64 k] 46)) ∧ Out w.heap.size ((w.alloc (.cells #[] 3)).alloc (.cells #[.int .i64 n, .int .i64 k] 46)) (.slice (some ⟨w.heap.size, 0, none⟩) 0 0) [] := by
  refine ⟨⟨?_, ((Below.refl _ _).alloc (Nat.le_refl _) _).alloc (by simp) _⟩, ?_⟩
  · exact OwnArr.mk' rfl (by simp)
  · exact (Out.nilLit w).below ((Below.refl _ _).alloc (Nat.le_refl _) _)

set_option maxRecDepth 4000 in
set_option maxHeartbeats 1600000 in
theorem trailI_bad (n k : Int) (p : Option Addr) (cap : Nat) (xs : List Int) (i : Int) (w : World) (lo hi : Nat) (hin : Ri lo hi w p xs) (hcap : xs.length ≤ cap) (hcm : cap ≤ maxLen) (hlen : xs.length ≤ 1048576) (h : askI n k xs i = false) :
    Calls Try.prog 18 #[.int .i64 n, .int .i64 k, .slice p xs.length cap, .int .i64 i] w fun e w' => ∃ v, e = .returned (.tuple #[v, .bool false]) ∧ Out w.heap.size w' v [] ∧ Below w.heap.size w w' := by
  obtain ⟨hE, hO⟩ := lit_plane w n k
  have V := fun w' => hasNumber_any n k i w'
  have CB := fun (w' : World) (h' : Below w.heap.size w w') => canBe_any n k p cap xs w' lo hi (hin.below h' hin.top) hcap hcm hlen
  obtain ⟨wb, hwb⟩ : ∃ wb, (w.alloc (.cells #[] 3)).alloc (.cells #[.int .i64 n, .int .i64 k] 46) = wb := ⟨_, rfl⟩
  rw [hwb] at hE hO
  obtain ⟨b0, b1⟩ := hE.cells
  have HE := Lib.hid hE
  have HO := Lib.hid hO
  have HW := Lib.hid hwb
  rcases askI_no h with hg | ⟨hg, ha⟩
  · rw [hg] at V
    replace V := Lib.hid V
    obtain ⟨m, hm⟩ : ∃ m, xs.length = m := ⟨_, rfl⟩
    rw [hm]
    clear hin h hg hE CB hO hwb
    go_enter Try.func18, Try.ntmps18
    go_upto_region 3 with fail
    rw [HW.out]
    go_wp2_with fail
    refine (V.out _).mono ?_
    rintro e w1 ⟨rfl, hb1⟩
    have HB1 := Lib.hid (HE.out.next hb1).bel
    have HO1 := Lib.hid (HO.out.below hb1)
    clear hb1
    go_wp2_with fail
    go_ret2
    exact ⟨_, rfl, HO1.out, HB1.out⟩
  · rw [hg] at V
    rw [ha] at CB
    replace V := Lib.hid V
    replace CB := Lib.hid CB
    obtain ⟨m, hm⟩ : ∃ m, xs.length = m := ⟨_, rfl⟩
    rw [hm] at CB ⊢
    clear hin h hg ha hE hO hwb
    go_enter Try.func18, Try.ntmps18
    go_upto_region 3 with fail
    rw [HW.out]
    go_wp2_with fail
    refine (V.out _).mono ?_
    rintro e w1 ⟨rfl, hb1⟩
    have HE1 := Lib.hid (HE.out.next hb1)
    have HO1 := Lib.hid (HO.out.below hb1)
    clear b0 b1 hb1 HE HO
    obtain ⟨b0, b1⟩ := HE1.out.cells
    go_wp2_with fail
    refine (CB.out _ HE1.out.bel).mono ?_
    rintro e w2 ⟨rfl, hb2⟩
    have HB2 := Lib.hid (HE1.out.next hb2).bel
    have HO2 := Lib.hid (HO1.out.below hb2)
    clear hb2
    go_wp2_with fail
    go_ret2
    exact ⟨_, rfl, HO2.out, HB2.out⟩

set_option maxRecDepth 4000 in
set_option maxHeartbeats 2000000 in
theorem trailI_any (n k : Nat) (p : Option Addr) (cap : Nat) (xs : List Int) (s : Nat) (w : World) (lo hi : Nat) (hin : Ri lo hi w p xs) (hcap : xs.length ≤ cap) (hcm : cap ≤ maxLen) (ha : askI n k xs s = true) :
    Calls Try.prog 18 #[.int .i64 (n : Nat), .int .i64 (k : Nat), .slice p xs.length cap, .int .i64 (s : Nat)] w fun e w' => ∃ v, e = .returned (.tuple #[v, .bool true]) ∧ Out w.heap.size w' v (ints (trlM xs k n (whoM xs s))) ∧ Below w.heap.size w w' := by
  obtain ⟨i0, hi9, hz0, hz1, hz2⟩ := info_parts infoInt
  obtain ⟨hg, ha2⟩ := askI_yes ha
  obtain ⟨a', b', e1, e2, h1, h2, h3, hl, hp⟩ := askB_is ha2
  have e1' : n = a' := by omega
  have e2' : k = b' := by omega
  subst e1' e2'
  have hs : s < n := by
    unfold askI at ha
    rw [Bool.and_eq_true] at ha
    have := ha.2
    simp at this
    omega
  obtain ⟨hE, hO⟩ := lit_plane w n k
  have V := fun w' => hasNumber_any (n : Int) (k : Int) (s : Int) w'
  have CB := fun (w' : World) (h' : Below w.heap.size w w') => canBe_any (n : Int) (k : Int) p cap xs w' lo hi (hin.below h' hin.top) hcap hcm (by omega)
  rw [hg] at V
  rw [ha2] at CB
  have WH := fun (x : Nat) (hx : x < n) (w' : World) (h' : Below w.heap.size w w') => index_who p cap xs x w' lo hi (hin.below h' hin.top) (poss_all hp hl hx) (by omega)
  have HWL := fun (x : Nat) (hx : x < n) => (who_is (poss_all hp hl hx)).1
  have HWX := Lib.hid (fun (x : Nat) (hx : x < n) => (who_is (poss_all hp hl hx)).2.1)
  have HBF := Lib.hid (fun (j : Nat) (hj : j < n) (hk : k ≤ j) (hne : ¬ xs[j]?.getD 0 = (j : Int)) => who_take (poss_before hp hl hj hk hne))
  rw [hl] at CB WH HWL ⊢
  replace V := Lib.hid V
  replace CB := Lib.hid CB
  replace WH := Lib.hid WH
  have hfl := HWL s hs
  replace HWL := Lib.hid HWL
  obtain ⟨F, hF⟩ : ∃ F, trlM xs k n (whoM xs s) = F := ⟨_, rfl⟩
  have HF := Lib.hid hF
  rw [hF]
  obtain ⟨wb, hwb⟩ : ∃ wb, (w.alloc (.cells #[] 3)).alloc (.cells #[.int .i64 (n : Int), .int .i64 (k : Int)] 46) = wb := ⟨_, rfl⟩
  rw [hwb] at hE hO
  obtain ⟨b0, b1⟩ := hE.cells
  have HE := Lib.hid hE
  have HO := Lib.hid hO
  have HW := Lib.hid hwb
  replace hfl := Lib.hid hfl
  clear hin ha hg ha2 hE hO hwb hF e1 e2 hp
  go_enter Try.func18, Try.ntmps18
  go_upto_region 3 with fail
  rw [HW.out]
  go_wp2_with fail
  refine (V.out _).mono ?_
  rintro e w1 ⟨rfl, hb1⟩
  have HE1 := Lib.hid (HE.out.next hb1)
  have HO1 := Lib.hid (HO.out.below hb1)
  clear b0 b1 hb1 HE V HO HW
  obtain ⟨b0, b1⟩ := HE1.out.cells
  go_wp2_with fail
  refine (CB.out _ HE1.out.bel).mono ?_
  rintro e w2 ⟨rfl, hb2⟩
  have HB2 := Lib.hid (HE1.out.next hb2).bel
  have HO2 : Hid (Out w.heap.size w2 (.slice (some ⟨w.heap.size, 0, none⟩) 0 0) (ints [])) := HO1.out.below hb2
  clear b0 b1 hb2 HE1 CB HO1
  go_wp2_with fail
  go_loopw [10, 3, 12] (fun v sv _ wr => ∃ (acc : List Nat) (s f : Nat), s < n ∧ sv = .int .i64 (s : Int) ∧ Hid (whoM xs s ≤ f ∧ acc.length + whoM xs s + 1 ≤ n) ∧ (∃ g c, v = .slice (some ⟨g, 0, none⟩) acc.length c) ∧ Hid (acc ++ trlM xs k f (whoM xs s) = F) ∧ Hid (Out w.heap.size wr v (ints acc)) ∧ Hid (Below w.heap.size w wr)) (fun v _ _ _ => 13 - lenV v)
  case atStart => exact ⟨[], s, n, hs, rfl, Lib.hid ⟨by have := hfl.out; omega, by have := hfl.out; simp; omega⟩, ⟨_, _, rfl⟩, HF, HO2, HB2⟩
  case round =>
    obtain ⟨acc, s, f, hs', rfl, HAL, ⟨g, c, rfl⟩, HA, HO, HB⟩ := hrel
    clear HO2 HB2 HF hfl hs
    have WI := WH.out s hs' _ HB.out
    have hwn := HWL.out s hs'
    have hwx := HWX.out s hs'
    have hal := HAL.out
    obtain ⟨m, hm⟩ : ∃ m, acc.length = m := ⟨_, rfl⟩
    have hA := HA.out
    obtain ⟨z, hz⟩ : ∃ z, whoM xs s = z := ⟨_, rfl⟩
    rw [hz] at WI hwn hwx hal hA
    rw [hm] at hal HO ⊢
    have hbf := HBF.out z hwn
    have hwlz := HWL.out z hwn
    replace WI := Lib.hid WI
    have HL : Hid ((ints acc).length = m) := by show _ = _; rw [ints_length, hm]
    have HM := Lib.hid hm
    have hblk := Lib.hid (own_block HO.out)
    have hsz := HB.out.size
    have hst1 : (z < k ∨ z = s) → acc ++ [z] = F := by
      intro h
      rw [← hA]
      cases f with
      | zero => rfl
      | succ f =>
        unfold trlM
        rw [if_pos]
        rcases h with h | h
        · exact .inl h
        · exact .inr (by rw [hwx, h])
    have hst2 : ¬ z < k → ¬ z = s → (acc ++ [z]) ++ trlM xs k (f - 1) (whoM xs z) = F ∧ whoM xs z < z := by
      intro h1 h2
      have hne : ¬ xs[z]?.getD 0 = (z : Int) := by rw [hwx]; omega
      have hlt := hbf (by omega) hne
      refine ⟨?_, hlt⟩
      rw [← hA]
      cases f with
      | zero => omega
      | succ f =>
        have e : trlM xs k (f + 1) z = z :: trlM xs k f (whoM xs z) := by
          show (if _ then _ else _) = _
          rw [if_neg (by rintro (h | h); exact h1 h; exact hne h)]
        rw [e]; simp
    have HS1 := Lib.hid hst1
    have HS2 := Lib.hid hst2
    clear HAL HA hz hm hwx hA hbf hst1 hst2 hwlz
    go_wp2_with fail
    refine WI.out.mono ?_
    rintro e w3 ⟨rfl, rfl⟩
    clear WI
    obtain ⟨l, vs, hl2, hvs, hown⟩ := HO.out.open'
    have hlk := HL.out
    rw [hl2] at hlk
    replace hl2 := Lib.hid hl2
    replace hvs := Lib.hid hvs
    by_cases hzk : z < k
    · have hzk1 : (z : Int) < (k : Int) := by omega
      have HT := Lib.hid (HS1.out (.inl hzk))
      go_wp2_with (at_builtin; refine wpList_append_own _ rfl _ _ 22 rfl w.heap.size 3 i0 (.int .i64 0) 1 8 Try.underlying22 hi9 hz0 hz1 hz2 rfl (by decide) _ _ _ rfl (hown.alloc _) ⟨wr.heap.size, 0, none⟩ 1 1 [.int .i64 (z : Int)] rfl rfl (cell_one_new _ _ _) (fun x hx => by simp at hx; subst hx; rfl) (by unfold maxLen; omega) (by omega) (by simp; omega) ?_; intro v' w4 hown' hgrow4 hnil4)
      have hG : Below w.heap.size wr w4 := ((Below.refl w.heap.size wr).alloc hsz _).grown hgrow4 (by simp; omega) hblk.out
      have HB3 := Lib.hid (HB.out.trans hG)
      have HO3 : Hid (Out w.heap.size w4 v' (ints F)) := by
        show Out _ _ _ _
        rw [← HT.out]
        have e : ints (acc ++ [z]) = ints acc ++ [(z : Int)] := by simp [ints]
        rw [e]; exact Out.close hl2.out hvs.out hown'
      clear hown' hgrow4 hnil4 hown hG
      go_wp2_with fail
      go_ret2
      exact ⟨_, rfl, HO3.out, HB3.out⟩
    · have hzk1 : ¬ (z : Int) < (k : Int) := by omega
      by_cases hzs : z = s
      · have HT := Lib.hid (HS1.out (.inr hzs))
        subst hzs
        go_wp2_with (at_builtin; refine wpList_append_own _ rfl _ _ 22 rfl w.heap.size 3 i0 (.int .i64 0) 1 8 Try.underlying22 hi9 hz0 hz1 hz2 rfl (by decide) _ _ _ rfl (hown.alloc _) ⟨wr.heap.size, 0, none⟩ 1 1 [.int .i64 (z : Int)] rfl rfl (cell_one_new _ _ _) (fun x hx => by simp at hx; subst hx; rfl) (by unfold maxLen; omega) (by omega) (by simp; omega) ?_; intro v' w4 hown' hgrow4 hnil4)
        have hG : Below w.heap.size wr w4 := ((Below.refl w.heap.size wr).alloc hsz _).grown hgrow4 (by simp; omega) hblk.out
        have HB3 := Lib.hid (HB.out.trans hG)
        have HO3 : Hid (Out w.heap.size w4 v' (ints F)) := by
          show Out _ _ _ _
          rw [← HT.out]
          have e : ints (acc ++ [z]) = ints acc ++ [(z : Int)] := by simp [ints]
          rw [e]; exact Out.close hl2.out hvs.out hown'
        clear hown' hgrow4 hnil4 hown hG
        go_wp2_with fail
        go_ret2
        exact ⟨_, rfl, HO3.out, HB3.out⟩
      · have hzs1 : ¬ (z : Int) = (s : Int) := by omega
        have HT := Lib.hid (HS2.out hzk hzs)
        go_wp2_with (at_builtin; refine wpList_append_own _ rfl _ _ 22 rfl w.heap.size 3 i0 (.int .i64 0) 1 8 Try.underlying22 hi9 hz0 hz1 hz2 rfl (by decide) _ _ _ rfl (hown.alloc _) ⟨wr.heap.size, 0, none⟩ 1 1 [.int .i64 (z : Int)] rfl rfl (cell_one_new _ _ _) (fun x hx => by simp at hx; subst hx; rfl) (by unfold maxLen; omega) (by omega) (by simp; omega) ?_; intro v' w4 hown' hgrow4 hnil4; obtain ⟨g', cp', rfl⟩ := Go.Joins.ownsRow_form hown' (by omega))
        have hG : Below w.heap.size wr w4 := ((Below.refl w.heap.size wr).alloc hsz _).grown hgrow4 (by simp; omega) hblk.out
        have HB3 := Lib.hid (HB.out.trans hG)
        have HO3 : Hid (Out w.heap.size w4 (.slice (some ⟨g', 0, none⟩) (l + 1) cp') (ints (acc ++ [z]))) := by
          show Out _ _ _ _
          have e : ints (acc ++ [z]) = ints acc ++ [(z : Int)] := by simp [ints]
          rw [e]; exact Out.close hl2.out hvs.out hown'
        have HO4 : Hid (Out w.heap.size w4 (.slice (some ⟨g', 0, none⟩) (m + 1) cp') (ints (acc ++ [z]))) := by rw [← hlk]; exact HO3
        clear hown' hgrow4 hnil4 hown hG HO3
        go_wp2
        go_roundw
        case rel => exact ⟨acc ++ [z], z, f - 1, hwn, rfl, Lib.hid ⟨by have := HT.out.2; omega, by have := HT.out.2; rw [List.length_append, HM.out]; simp; omega⟩, ⟨g', cp', by rw [List.length_append, HM.out]; rfl⟩, Lib.hid HT.out.1, HO4, HB3⟩
        case measure => simp [lenV]; omega

theorem trl_len (xs : List Int) (k : Nat) : ∀ f i, (trlM xs k f i).length ≤ f + 1
  | 0, _ => Nat.le_refl _
  | f + 1, i => by
    unfold trlM
    split
    · simp
    · simp only [List.length_cons]
      have := trl_len xs k f (whoM xs i)
      omega

theorem trailOf_both (a0 : Int) (a1 : Int) (xs2 : List Int) (a3 : Int) : ∃ (L0 : List Int) (y1 : Bool), L0.length ≤ 1000 ∧ (∀ (q2 : Option Addr) (c2 : Nat) (w : World) (lo2 hi2 : Nat), Ri lo2 hi2 w q2 xs2 → xs2.length ≤ 1048576 → xs2.length ≤ c2 → c2 ≤ maxLen → Calls Try.prog 17 #[.int .i64 a0, .int .i64 a1, .slice q2 xs2.length c2, .int .i64 a3] w fun e w' => ∃ v0, e = .returned (.tuple #[v0, .bool y1]) ∧ Out w.heap.size w' v0 L0 ∧ Below w.heap.size w w') ∧ (∀ (q2 : Option Addr) (c2 : Nat) (w : World) (lo2 hi2 : Nat), Ri lo2 hi2 w q2 xs2 → xs2.length ≤ 1048576 → xs2.length ≤ c2 → c2 ≤ maxLen → Calls Try.prog 18 #[.int .i64 a0, .int .i64 a1, .slice q2 xs2.length c2, .int .i64 a3] w fun e w' => ∃ v0, e = .returned (.tuple #[v0, .bool y1]) ∧ Out w.heap.size w' v0 L0 ∧ Below w.heap.size w w') := by
  cases h : askI a0 a1 xs2 a3 with
  | false => exact ⟨[], false, by simp, fun q c w lo hi h1 h2 h3 h4 => trailS_bad a0 a1 q c xs2 a3 w lo hi h1 h3 h4 h2 h, fun q c w lo hi h1 h2 h3 h4 => trailI_bad a0 a1 q c xs2 a3 w lo hi h1 h3 h4 h2 h⟩
  | true =>
    obtain ⟨a, b, i, rfl, rfl, rfl, h1, h2⟩ := askI_nat h
    exact ⟨_, true, by rw [ints_length]; exact Nat.le_trans (trl_len _ _ _ _) (by omega), fun q c w lo hi g1 _ g3 g4 => trailS_any a b q c xs2 i w lo hi g1 g3 g4 (askI_yes h).2 h1, fun q c w lo hi g1 _ g3 g4 => trailI_any a b q c xs2 i w lo hi g1 g3 g4 h⟩
end Go.Proofs.Ytmjnjinjpleioaa
