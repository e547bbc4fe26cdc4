/- Chapter 9: impl.FewestGuards; both sides. -/
import Derived.Test.YtogdiahojbonaaaFgdS9
namespace Go.Proofs.Ytogdiahojbonaaa
open Go.RowKit

theorem out_own9 {w : World} {g B : Nat} {xs : List Int} (h : OwnArr w g 3 (iv xs)) (hB : B ≤ g) (hl : xs.length ≤ 1000) : Out B w (.slice (some ⟨g, 0, none⟩) xs.length xs.length) xs :=
  ⟨by rw [iv_length]; omega, .inr ⟨g, xs.length, _, rfl, hB, h, Nat.le_refl _, by unfold maxLen; omega, by simp [iv], by rw [Nat.mul_one]; exact List.take_of_length_le (by show (iv xs).length ≤ xs.length; rw [iv_length]; exact Nat.le_refl _)⟩⟩
theorem filled_gd (n : Nat) (ring : Bool) (h K : Nat) : filled (fun i => .int .i64 ((gdM n ring h K i : Nat) : Int)) (.int .i64 0) K K = iv (ints (gdL n ring h K)) := by
  apply List.ext_getElem?
  intro i
  rcases Nat.lt_or_ge i K with h' | h'
  · rw [filled_get _ _ _ _ _ h', if_pos h']
    unfold iv ints gdL
    simp [h']
  · rw [List.getElem?_eq_none (by rw [filled_len]; exact h'), List.getElem?_eq_none (by rw [iv_length, ints_length, gdL_len]; exact h')]

set_option maxHeartbeats 1000000 in
theorem fewestI_bad (s : Int) (ring : Bool) (p : Option Addr) (cap : Nat) (xs : List Int) (h : Int) (w : World) (lo hi : Nat) (hin : Ri lo hi w p xs) (hlen : xs.length ≤ 1048576) (hr : (rowB s ring xs && decide (0 ≤ h)) = false) :
    Calls Try.prog 12 #[rowV s ring p xs.length cap, .int .i64 h] w fun e w' => ∃ v, e = .returned (.tuple #[.int .i64 0, v, .bool false]) ∧ Out w.heap.size w' v [] ∧ Below w.heap.size w w' := by
  have hB := box_below w s ring p xs.length cap 28
  have I := Lib.hid (isRow_any s ring p cap xs _ lo hi (hin.below hB hin.top) hlen)
  obtain ⟨RB, hRB⟩ : ∃ RB, rowB s ring xs = RB := ⟨_, rfl⟩
  rw [hRB] at hr I
  obtain ⟨m0, hm0⟩ : ∃ m, xs.length = m := ⟨_, rfl⟩
  rw [hm0] at hB I ⊢
  have HB := Lib.hid hB
  clear hin hRB hm0 hlen hB
  cases RB with
  | false =>
    clear hr
    go_enter Try.func12, Try.ntmps12
    go_wp2_with fail
    refine I.out.mono ?_
    rintro e w2 ⟨rfl, hb2⟩
    have HB2 := Lib.hid (HB.out.trans (hb2.mono HB.out.size))
    have HO2 := Lib.hid ((Out.nilLit w2).mono HB2.out.size)
    have HB3 := Lib.hid (HB2.out.alloc HB2.out.size (.cells #[] 3))
    clear I HB hb2
    go_wp2_with fail
    go_ret3
    exact ⟨_, rfl, HO2.out, HB3.out⟩
  | true =>
    have h1 : h < 0 := by simpa using hr
    clear hr
    go_enter Try.func12, Try.ntmps12
    go_wp2_with fail
    refine I.out.mono ?_
    rintro e w2 ⟨rfl, hb2⟩
    have HB2 := Lib.hid (HB.out.trans (hb2.mono HB.out.size))
    have HO2 := Lib.hid ((Out.nilLit w2).mono HB2.out.size)
    have HB3 := Lib.hid (HB2.out.alloc HB2.out.size (.cells #[] 3))
    clear I HB hb2
    go_wp2_with fail
    go_ret3
    exact ⟨_, rfl, HO2.out, HB3.out⟩

set_option maxRecDepth 4000 in
set_option maxHeartbeats 4000000 in
theorem fewestI_any (n : Nat) (ring : Bool) (p : Option Addr) (cap : Nat) (S : Nat → Bool) (h : Int) (w : World) (lo hi : Nat) (hin : Ri lo hi w p (ints (tk n S))) (hr : rowB n ring (ints (tk n S)) = true) (hh : 0 ≤ h) (H : Nat) (hH : (if h < (n : Int) then h else (n : Int)) = (H : Int)) :
    Calls Try.prog 12 #[rowV n ring p (ints (tk n S)).length cap, .int .i64 h] w fun e w' => ∃ v, e = .returned (.tuple #[.int .i64 (gdK n H : Nat), v, .bool true]) ∧ Out w.heap.size w' v (ints (gdL n ring H (gdK n H))) ∧ Below w.heap.size w w' := by
  have hn : 2 ≤ n ∧ n ≤ 24 := by
    obtain ⟨n', S', e, -, h0, h, h3⟩ := rowB_is hr
    have : n = n' := by omega
    subst this
    exact ⟨h0, h⟩
  obtain ⟨hn2, hn24⟩ := hn
  have hHn : H ≤ n := by split at hH <;> omega
  have hlen := ints_tk_len n S
  have hX := OwnArr.made w 28 [.int .i64 n, .bool ring, .slice p (ints (tk n S)).length cap]
  have hB := box_below w n ring p (ints (tk n S)).length cap 28
  have I := isRow_any n ring p cap (ints (tk n S)) _ lo hi (hin.below hB hin.top) (by omega)
  rw [hr] at I
  replace I := Lib.hid I
  have hn1 : ¬ h < 0 := by omega
  have hKn := gdK_le n H (by omega)
  obtain ⟨hK1, hK2, hK3⟩ := gdK_is n H (by omega)
  obtain ⟨m, hm⟩ : ∃ m, (ints (tk n S)).length = m := ⟨_, rfl⟩
  rw [hm] at hX hB I ⊢
  obtain ⟨T, hT⟩ : ∃ T, 2 * H = T := ⟨_, rfl⟩
  have hTi : 2 * (H : Int) = (T : Int) := by omega
  obtain ⟨Q, hQ⟩ : ∃ Q, T + 1 = Q := ⟨_, rfl⟩
  have hQi : (T : Int) + 1 = (Q : Int) := by omega
  obtain ⟨A, hA⟩ : ∃ A, n + Q = A := ⟨_, rfl⟩
  have hAi : (n : Int) + (Q : Int) = (A : Int) := by omega
  obtain ⟨E, hE⟩ : ∃ E, A - 1 = E := ⟨_, rfl⟩
  have hEi : (A : Int) - 1 = (E : Int) := by omega
  have w1 : IntKind.i64.wrap (T : Int) = (T : Int) := IntWalk.i64_in _ (by omega)
  have w2 : IntKind.i64.wrap (Q : Int) = (Q : Int) := IntWalk.i64_in _ (by omega)
  have w3 : IntKind.i64.wrap (A : Int) = (A : Int) := IntWalk.i64_in _ (by omega)
  have w4 : IntKind.i64.wrap (E : Int) = (E : Int) := IntWalk.i64_in _ (by omega)
  have hQ0 : ¬ Q = 0 := by omega
  have hQ0i : ¬ (Q : Int) = 0 := by omega
  have hP0 : ∀ i, i < gdK n H → Q * (gdK n H - 1 - i) ≤ 73 := by
    intro i hi
    have : Q * (gdK n H - 1 - i) ≤ Q * gdK n H := Nat.mul_le_mul_left _ (by omega)
    have e : Q = 2 * H + 1 := by omega
    rw [e] at this ⊢
    omega
  have hgd : ∀ i, gdM n ring H (gdK n H) i = n - 1 - (if ring then 2 * H else H) - Q * (gdK n H - 1 - i) := by
    intro i
    unfold gdM
    have e : Q = 2 * H + 1 := by omega
    rw [e]
  have hdiv : (E : Int).tdiv (Q : Int) = ((gdK n H : Nat) : Int) := by
    unfold gdK
    have e1 : n + 2 * H = E := by omega
    have e2 : 2 * H + 1 = Q := by omega
    rw [e1, e2]
    exact (Int.ofNat_tdiv E Q).symm
  have HFG := filled_gd n ring H (gdK n H)
  have HLG := gdL_len n ring H (gdK n H)
  obtain ⟨K, hK⟩ : ∃ K, gdK n H = K := ⟨_, rfl⟩
  rw [hK] at hKn hP0 hgd hdiv hK1 HFG HLG ⊢
  have w5 : IntKind.i64.wrap (K : Int) = (K : Int) := IntWalk.i64_in _ (by omega)
  have hmk0 := @run_make_row' Try.prog 22 3 (.int .i64 0) 8 Try.underlying22 infoInt rfl .i64 .i64 K (by omega) (by omega)
  rw [madeCells_one, ← filled_zero (fun i => .int .i64 ((gdM n ring H K i : Nat) : Int)) (.int .i64 0) K] at hmk0
  have HP := Lib.hid hP0
  have HGM := Lib.hid hgd
  replace HFG := Lib.hid HFG
  replace HLG := Lib.hid HLG
  have HSET := Lib.hid (filled_set (fun i => .int .i64 ((gdM n ring H K i : Nat) : Int)) (.int .i64 0) K)
  obtain ⟨N1, hN1⟩ : ∃ N, n - 1 = N := ⟨_, rfl⟩
  have hN1i : (n : Int) - 1 = (N1 : Int) := by omega
  have w6 : IntKind.i64.wrap (N1 : Int) = (N1 : Int) := IntWalk.i64_in _ (by omega)
  obtain ⟨L1, hL1⟩ : ∃ L, (N1 : Int) - (H : Int) = L := ⟨_, rfl⟩
  obtain ⟨L2, hL2⟩ : ∃ L, L1 - (H : Int) = L := ⟨_, rfl⟩
  have w7 : IntKind.i64.wrap L1 = L1 := IntWalk.i64_in _ (by omega)
  have w8 : IntKind.i64.wrap L2 = L2 := IntWalk.i64_in _ (by omega)
  have HX := Lib.hid hX
  have HB := Lib.hid hB
  have hK0i : (0 : Int) ≤ (K : Int) := by omega
  obtain ⟨c0, c1, c2, -⟩ := HX.out.three
  obtain ⟨fM, hfM⟩ : ∃ f : Nat → Value, f = fun i => .int .i64 ((gdM n ring H K i : Nat) : Int) := ⟨_, rfl⟩
  rw [← hfM] at HSET HFG hmk0
  have HFM : Hid (∀ i, fM i = .int .i64 ((gdM n ring H K i : Nat) : Int)) := fun i => by rw [hfM]
  clear hin hr hm hlen hX hB hK hfM hP0 hgd hN1 hA hE hT hQ hK2 hK3
  go_enter Try.func12, Try.ntmps12
  go_wp2_with fail
  refine I.out.mono ?_
  rintro e w2 ⟨rfl, hb2⟩
  have HB2 := Lib.hid (HB.out.trans (hb2.mono HB.out.size))
  have HX2 := Lib.hid (HX.out.below hb2 HX.out.lt)
  have hs2 := HX2.out.lt
  clear I HB hb2 c0 c1 c2 HX
  obtain ⟨c0, c1, c2, -⟩ := HX2.out.three
  obtain ⟨wm, hwm⟩ : ∃ wm, wm = w2.alloc (.cells (filled fM (.int .i64 0) K 0).toArray 3) := ⟨_, rfl⟩
  have hmk := hmk0 w2
  rw [← hwm] at hmk
  have HOm : Hid (OwnArr wm w2.heap.size 3 (filled fM (.int .i64 0) K 0)) := by show OwnArr _ _ _ _; rw [hwm]; exact OwnArr.made _ _ _
  have HXm : Hid (OwnArr wm w.heap.size 28 [.int .i64 n, .bool ring, .slice p m cap]) := by show OwnArr _ _ _ _; rw [hwm]; exact HX2.out.alloc _
  have HBm : Hid (Below w.heap.size w wm) := by show Below _ _ _; rw [hwm]; exact HB2.out.alloc HB2.out.size _
  clear hwm hmk0
  go_upto_region 3 with fail
  go_cut [1] (fun v wx => v = .int .i64 (H : Int) ∧ Hid (wx = w2))
  case first =>
    rcases Int.lt_trichotomy h (n : Int) with hc | hc | hc
    · have : h = (H : Int) := by rw [if_pos hc] at hH; exact hH
      subst this
      have a1 : (H : Int) ≤ (n : Int) := by omega
      have a2 : ¬ (n : Int) ≤ (H : Int) := by omega
      have a3 : H ≤ n := by omega
      have a4 : ¬ n ≤ H := by omega
      have a5 : H < n := by omega
      clear hH
      go_wp2_with fail
      go_meet
      exact ⟨rfl, Lib.hid rfl⟩
    · subst hc
      have : n = H := by split at hH <;> omega
      subst this
      clear hH
      go_wp2_with fail
      go_meet
      exact ⟨rfl, Lib.hid rfl⟩
    · have : n = H := by rw [if_neg (by omega)] at hH; omega
      subst this
      have a1 : (n : Int) ≤ h := by omega
      have a2 : ¬ h ≤ (n : Int) := by omega
      have a3 : ¬ h < (n : Int) := by omega
      clear hH
      go_wp2_with fail
      go_meet
      exact ⟨rfl, Lib.hid rfl⟩
  case rest =>
    obtain ⟨rfl, hwx⟩ := hcut
    obtain ⟨w3, hw3⟩ : ∃ w3 : World, w3 = wc := ⟨_, rfl⟩
    have := hwx.out
    rw [← hw3] at this
    subst this
    subst hw3
    clear hH
    obtain ⟨cm0, cm1, cm2, -⟩ := HXm.out.three
    obtain ⟨SZ, hSZ⟩ : ∃ z, w3.heap.size = z := ⟨_, rfl⟩
    have HOX := Lib.hid hSZ
    rw [hSZ] at HOm hmk hs2
    clear hSZ
    cases ring with
    | false =>
      go_wp2_with fail
      clear c0 c1 c2 cm0 cm1 cm2 hmk HOX
      go_loopw [10, 46] (fun _ i wr => ∃ (j : Nat), j ≤ K ∧ i = .int .i64 (j : Int) ∧ Hid (OwnArr wr SZ 3 (filled fM (.int .i64 0) K j)) ∧ Hid (Below w.heap.size w wr)) (fun _ i _ => K - (intOf i).toNat)
      case atStart => exact ⟨0, Nat.zero_le _, rfl, HOm, HBm⟩
      case round =>
        obtain ⟨j, hj, rfl, HO, HB⟩ := hrel
        clear HOm HBm
        by_cases hlt : j < K
        · have hj1 : (j : Int) < (K : Int) := by omega
          have hj0 : (0 : Int) ≤ (j : Int) := by omega
          have hp := HP.out j hlt
          have hg := HGM.out j
          simp only [Bool.false_eq_true, if_false] at hg
          obtain ⟨J, hJ⟩ : ∃ J, K - 1 - j = J := ⟨_, rfl⟩
          rw [hJ] at hp hg
          obtain ⟨P, hP⟩ : ∃ P, Q * J = P := ⟨_, rfl⟩
          rw [hP] at hp hg
          obtain ⟨K1, hKK⟩ : ∃ k, K - 1 = k := ⟨_, rfl⟩
          have hKKi : (K : Int) - 1 = (K1 : Int) := by omega
          have hJi : (K1 : Int) - (j : Int) = (J : Int) := by omega
          have hPi : (Q : Int) * (J : Int) = (P : Int) := by rw [← hP]; rfl
          have x1 : IntKind.i64.wrap (K1 : Int) = (K1 : Int) := IntWalk.i64_in _ (by omega)
          have x2 : IntKind.i64.wrap (J : Int) = (J : Int) := IntWalk.i64_in _ (by omega)
          have x3 : IntKind.i64.wrap (P : Int) = (P : Int) := IntWalk.i64_in _ (by omega)
          obtain ⟨Y, hY⟩ : ∃ Y, L1 - (P : Int) = Y := ⟨_, rfl⟩
          have x4 : IntKind.i64.wrap Y = Y := IntWalk.i64_in _ (by omega)
          obtain ⟨G, hG⟩ : ∃ G, gdM n false H K j = G := ⟨_, rfl⟩
          rw [hG] at hg
          have hold := HO.out.cell j
          rw [filled_get _ _ _ _ _ hlt] at hold
          have hfree := HO.out.free j
          have hset := HO.out.set j (.int .i64 (G : Int))
          have hst := HSET.out j
          rw [hG] at hst
          rw [hst] at hset
          have HO4 := Lib.hid hset
          have HB4 := Lib.hid (HB.out.setCell (p := ⟨SZ, j, none⟩) (by show _ ≤ SZ; omega) (.int .i64 (G : Int)))
          clear hset hst hG hP hKK hJ HO HB
          by_cases hy : 0 < Y
          · have hYG : Y = (G : Int) := by omega
            subst hYG
            have y1 : (0 : Int) < (G : Int) := by omega
            have y2 : 0 < G := by omega
            clear hg
            go_wp2_with fail
            go_roundw
            case rel => exact ⟨j + 1, by omega, by go_num, HO4, HB4⟩
            case measure => simp [intOf]; omega
          · have hG0 : G = 0 := by omega
            subst hG0
            have y3 : Y ≤ 0 := by omega
            clear hg
            go_wp2_with fail
            go_roundw
            case rel => exact ⟨j + 1, by omega, by go_num, HO4, HB4⟩
            case measure => simp [intOf]; omega
        · have hjk : j = K := by omega
          subst hjk
          have ho := HO.out
          rw [HFG.out] at ho
          have hout := out_own9 ho (by omega : w.heap.size ≤ SZ) (by rw [ints_length, HLG.out]; omega)
          rw [ints_length, HLG.out] at hout
          have HOUT := Lib.hid hout
          clear ho hout HO
          go_wp2_with fail
          go_ret3
          exact ⟨_, rfl, HOUT.out, HB.out⟩
    | true =>
      go_wp2_with fail
      clear c0 c1 c2 cm0 cm1 cm2 hmk HOX
      go_loopw [10, 46] (fun _ i wr => ∃ (j : Nat), j ≤ K ∧ i = .int .i64 (j : Int) ∧ Hid (OwnArr wr SZ 3 (filled fM (.int .i64 0) K j)) ∧ Hid (Below w.heap.size w wr)) (fun _ i _ => K - (intOf i).toNat)
      case atStart => exact ⟨0, Nat.zero_le _, rfl, HOm, HBm⟩
      case round =>
        obtain ⟨j, hj, rfl, HO, HB⟩ := hrel
        clear HOm HBm
        by_cases hlt : j < K
        · have hj1 : (j : Int) < (K : Int) := by omega
          have hj0 : (0 : Int) ≤ (j : Int) := by omega
          have hp := HP.out j hlt
          have hg := HGM.out j
          simp only [if_true] at hg
          obtain ⟨J, hJ⟩ : ∃ J, K - 1 - j = J := ⟨_, rfl⟩
          rw [hJ] at hp hg
          obtain ⟨P, hP⟩ : ∃ P, Q * J = P := ⟨_, rfl⟩
          rw [hP] at hp hg
          obtain ⟨K1, hKK⟩ : ∃ k, K - 1 = k := ⟨_, rfl⟩
          have hKKi : (K : Int) - 1 = (K1 : Int) := by omega
          have hJi : (K1 : Int) - (j : Int) = (J : Int) := by omega
          have hPi : (Q : Int) * (J : Int) = (P : Int) := by rw [← hP]; rfl
          have x1 : IntKind.i64.wrap (K1 : Int) = (K1 : Int) := IntWalk.i64_in _ (by omega)
          have x2 : IntKind.i64.wrap (J : Int) = (J : Int) := IntWalk.i64_in _ (by omega)
          have x3 : IntKind.i64.wrap (P : Int) = (P : Int) := IntWalk.i64_in _ (by omega)
          obtain ⟨Y, hY⟩ : ∃ Y, L2 - (P : Int) = Y := ⟨_, rfl⟩
          have x4 : IntKind.i64.wrap Y = Y := IntWalk.i64_in _ (by omega)
          obtain ⟨G, hG⟩ : ∃ G, gdM n true H K j = G := ⟨_, rfl⟩
          rw [hG] at hg
          have hold := HO.out.cell j
          rw [filled_get _ _ _ _ _ hlt] at hold
          have hfree := HO.out.free j
          have hset := HO.out.set j (.int .i64 (G : Int))
          have hst := HSET.out j
          rw [hG] at hst
          rw [hst] at hset
          have HO4 := Lib.hid hset
          have HB4 := Lib.hid (HB.out.setCell (p := ⟨SZ, j, none⟩) (by show _ ≤ SZ; omega) (.int .i64 (G : Int)))
          clear hset hst hG hP hKK hJ HO HB
          by_cases hy : 0 < Y
          · have hYG : Y = (G : Int) := by omega
            subst hYG
            have y1 : (0 : Int) < (G : Int) := by omega
            have y2 : 0 < G := by omega
            clear hg
            go_wp2_with fail
            go_roundw
            case rel => exact ⟨j + 1, by omega, by go_num, HO4, HB4⟩
            case measure => simp [intOf]; omega
          · have hG0 : G = 0 := by omega
            subst hG0
            have y3 : Y ≤ 0 := by omega
            clear hg
            go_wp2_with fail
            go_roundw
            case rel => exact ⟨j + 1, by omega, by go_num, HO4, HB4⟩
            case measure => simp [intOf]; omega
        · have hjk : j = K := by omega
          subst hjk
          have ho := HO.out
          rw [HFG.out] at ho
          have hout := out_own9 ho (by omega : w.heap.size ≤ SZ) (by rw [ints_length, HLG.out]; omega)
          rw [ints_length, HLG.out] at hout
          have HOUT := Lib.hid hout
          clear ho hout HO
          go_wp2_with fail
          go_ret3
          exact ⟨_, rfl, HOUT.out, HB.out⟩

theorem fewestGuards_both (s0 : Int) (r0 : Bool) (xs0 : List Int) (a1 : Int) : ∃ (x0 : Int) (L1 : List Int) (y2 : Bool), L1.length ≤ 1000 ∧ (∀ (q0 : Option Addr) (c0 : Nat) (w : World) (lo0 hi0 : Nat), Ri lo0 hi0 w q0 xs0 → xs0.length ≤ 1048576 → xs0.length ≤ c0 → c0 ≤ maxLen → Calls Try.prog 10 #[rowV s0 r0 q0 xs0.length c0, .int .i64 a1] w fun e w' => ∃ v1, e = .returned (.tuple #[.int .i64 x0, v1, .bool y2]) ∧ Out w.heap.size w' v1 L1 ∧ Below w.heap.size w w') ∧ (∀ (q0 : Option Addr) (c0 : Nat) (w : World) (lo0 hi0 : Nat), Ri lo0 hi0 w q0 xs0 → xs0.length ≤ 1048576 → xs0.length ≤ c0 → c0 ≤ maxLen → Calls Try.prog 12 #[rowV s0 r0 q0 xs0.length c0, .int .i64 a1] w fun e w' => ∃ v1, e = .returned (.tuple #[.int .i64 x0, v1, .bool y2]) ∧ Out w.heap.size w' v1 L1 ∧ Below w.heap.size w w') := by
  cases h : (rowB s0 r0 xs0 && decide (0 ≤ a1)) with
  | false =>
    exact ⟨0, [], false, by simp,
      fun q0 c0 w lo0 hi0 h1 h2 _ _ => fewestS_bad s0 r0 q0 c0 xs0 a1 w lo0 hi0 h1 h2 h,
      fun q0 c0 w lo0 hi0 h1 h2 _ _ => fewestI_bad s0 r0 q0 c0 xs0 a1 w lo0 hi0 h1 h2 h⟩
  | true =>
    rw [Bool.and_eq_true, decide_eq_true_eq] at h
    obtain ⟨g2, hd⟩ := h
    obtain ⟨n, S, rfl, rfl, hn2, hn24, -⟩ := rowB_is g2
    obtain ⟨H, hH⟩ : ∃ H : Nat, (if a1 < (n : Int) then a1 else (n : Int)) = (H : Int) := by
      by_cases hc : a1 < (n : Int)
      · rw [if_pos hc]; exact ⟨a1.toNat, by omega⟩
      · rw [if_neg hc]; exact ⟨n, rfl⟩
    have hkl := gdK_le n H (by omega)
    exact ⟨(gdK n H : Nat), ints (gdL n r0 H (gdK n H)), true, by rw [ints_length, gdL_len]; omega,
      fun q0 c0 w lo0 hi0 h1 _ _ _ => fewestS_any n r0 q0 c0 S a1 w lo0 hi0 h1 g2 hd H hH,
      fun q0 c0 w lo0 hi0 h1 _ _ _ => fewestI_any n r0 q0 c0 S a1 w lo0 hi0 h1 g2 hd H hH⟩
end Go.Proofs.Ytogdiahojbonaaa
