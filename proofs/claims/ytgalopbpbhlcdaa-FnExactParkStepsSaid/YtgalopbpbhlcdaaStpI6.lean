/- Chapter 6, impl side: impl.ParkSteps; both sides. -/
import Derived.Test.YtgalopbpbhlcdaaPkB6
import Derived.Test.YtgalopbpbhlcdaaStp6
import Derived.BigQuiet
namespace Go.Proofs.Ytgalopbpbhlcdaa
open Go.RowKit

set_option maxRecDepth 4000 in
set_option maxHeartbeats 2000000 in
theorem stepsI_none (s : Int) (ring : Bool) (p : Option Addr) (m0 cap : Nat) (q : Option Addr) (m c : Nat) (w : World) (s' : Int) (ring' : Bool) (T : List Int) (B : Bool)
    (h : ∀ w', Below w.heap.size w w' → Calls Try.prog 13 #[rowV s ring p m0 cap, .slice q m c] w' (MadePkS w' s' ring' [] T B)) :
    Calls Try.prog 25 #[rowV s ring p m0 cap, .slice q m c] w fun e w' => ∃ v, e = .returned (.tuple #[v, .int .i64 0, .bool B]) ∧ Out w.heap.size w' v [] ∧ Below w.heap.size w w' := by
  have HE := Lib.hid ((RowE.start w s ring p m0 cap).next (ext1 _ E0))
  have hO := (Out.nilLit (w.alloc (.cells #[.int .i64 s, .bool ring, .slice p m0 cap] 26))).mono (B' := w.heap.size) (by simp)
  rw [show (w.alloc (.cells #[.int .i64 s, .bool ring, .slice p m0 cap] 26)).heap.size = w.heap.size + 1 by simp] at hO
  have HO := Lib.hid hO
  have PK := h
  unfold MadePkS at PK
  replace PK := Lib.hid PK
  clear h hO
  obtain ⟨c0, c1, c2, -⟩ := HE.out.row.three
  go_enter Try.func25, Try.ntmps25
  go_wp2_with fail
  refine (PK.out _ HE.out.bel).mono ?_
  rintro e w2 ⟨v, u, rfl, hO, hU, -, hb2⟩
  obtain ⟨qu, cu, rfl, -⟩ := hU.rd
  obtain ⟨tl, htl⟩ : ∃ tl, T.length = tl := ⟨_, rfl⟩
  obtain ⟨qv, cv, rfl, -, -, -, -⟩ := hO.rd
  rw [htl]
  have HE2 := Lib.hid ((HE.out.next hb2).next (ext1 w2 (.cells #[.int .i64 s', .bool ring', .slice qu tl cu] 26)))
  have HO2 := Lib.hid (Out.below (HO.out.below hb2) (ext1 w2 (.cells #[.int .i64 s', .bool ring', .slice qu tl cu] 26)))
  clear hb2 c0 c1 c2 PK HE hO hU HO htl
  go_wp2_with fail
  refine wp_loop_rounds 1 ?_
  rw [rounds_succ]
  go_wp2_with fail
  go_ret3
  exact ⟨_, rfl, HO2.out, HE2.out.bel⟩

set_option maxRecDepth 4000 in
set_option maxHeartbeats 4000000 in
theorem stepsI_any (n : Nat) (ring : Bool) (p : Option Addr) (cap : Nat) (S : Nat → Bool) (q : Option Addr) (c : Nat) (l : List Nat) (w : World) (lo hi lo2 hi2 : Nat) (hin : Ri lo hi w p (ints (tk n S))) (h2 : 2 ≤ n) (hn : n ≤ 24) (hin2 : Ri lo2 hi2 w q (ints l)) (hl : ∀ x ∈ l, x < n) (hll : l.length ≤ 12) (hc : carsB n ring (ints (tk n S)) (ints l) = true) :
    Calls Try.prog 25 #[rowV n ring p (ints (tk n S)).length cap, .slice q (ints l).length c] w fun e w' => ∃ v, e = .returned (.tuple #[v, .int .i64 ((sumM n ring S l l.length : Nat) : Int), .bool true]) ∧ Out w.heap.size w' v (stpM n ring S l l.length) ∧ Below w.heap.size w w' := by
  obtain ⟨i0, hi0, hz0, hz1, hz2⟩ := info_parts infoInt
  have hlen := ints_tk_len n S
  have hE := (RowE.start w n ring p (ints (tk n S)).length cap).next (ext1 _ E0)
  have hO := (Out.nilLit (w.alloc (.cells #[.int .i64 n, .bool ring, .slice p (ints (tk n S)).length cap] 26)))
  rw [show (w.alloc (.cells #[.int .i64 n, .bool ring, .slice p (ints (tk n S)).length cap] 26)).heap.size = w.heap.size + 1 by simp] at hO
  have PK := fun (w' : World) (h' : Below w.heap.size w w') => parkCarsI_any n ring p cap S q c l w' lo hi lo2 hi2 (hin.below h' hin.top) hn (hin2.below h' hin2.top) hl hll hc
  unfold MadePkS at PK
  have HLL := Lib.hid (pk_len n ring 0 S l l.length)
  have HPG : Hid (∀ j, j < l.length → (pkM n ring 0 S l l.length)[j]?.getD 0 = optI (carM n ring 0 S l j)) := by show ∀ _, _; intro j hj; exact pk_get hj
  have HI2 := Lib.hid (fun (w' : World) (h' : Below w.heap.size w w') => hin2.below h' hin2.top)
  obtain ⟨L, hL⟩ : ∃ L, pkM n ring 0 S l l.length = L := ⟨_, rfl⟩
  obtain ⟨T, hT⟩ : ∃ T, ints (tk n (stM n ring 0 S l l.length)) = T := ⟨_, rfl⟩
  rw [hL, hT] at PK
  rw [hL] at HLL HPG
  obtain ⟨tl, htl⟩ : ∃ tl, T.length = tl := ⟨_, rfl⟩
  have HTL := Lib.hid htl
  obtain ⟨SM, hSM⟩ : ∃ SM, sumM n ring S l l.length = SM := ⟨_, rfl⟩
  rw [hSM]
  have HLS := Lib.hid hl
  obtain ⟨m0, hm0⟩ : ∃ m, (ints (tk n S)).length = m := ⟨_, rfl⟩
  obtain ⟨m, hm⟩ : ∃ m, (ints l).length = m := ⟨_, rfl⟩
  have hml : l.length = m := by rw [← hm, ints_length]
  rw [hm0] at hE hO PK ⊢
  rw [hm] at PK ⊢
  rw [hml] at HLL hll HPG hSM ⊢
  have HM := Lib.hid hml
  have HE := Lib.hid hE
  replace PK := Lib.hid PK
  have HO := Lib.hid hO
  have HSM := Lib.hid hSM
  clear hin hin2 hE hO hm0 hm hml hL hT hc hl hlen htl
  obtain ⟨c0, c1, c2, -⟩ := HE.out.row.three
  go_enter Try.func25, Try.ntmps25
  go_wp2_with fail
  obtain ⟨w1, hw1⟩ : ∃ w1, (w.alloc (.cells #[.int .i64 n, .bool ring, .slice p m0 cap] 26)).alloc E0 = w1 := ⟨_, rfl⟩
  rw [hw1] at HE HO ⊢
  have HE1 := HE
  have HO1 := HO
  clear HE HO hw1
  refine (PK.out _ HE1.out.bel).mono ?_
  rintro e w2 ⟨v, u, rfl, hO, hU, -, hb2⟩
  obtain ⟨qu, cu, rfl, -⟩ := hU.rd
  rw [HTL.out] at hU ⊢
  obtain ⟨qv, cv, rfl, -, -, -, -⟩ := hO.rd
  rw [HLL.out] at hO ⊢
  obtain ⟨ww, hww⟩ : ∃ ww, w2.alloc (.cells #[.int .i64 (n : Int), .bool ring, .slice qu tl cu] 26) = ww := ⟨_, rfl⟩
  have hE2 := (HE1.out.next hb2).next (ext1 w2 (.cells #[.int .i64 (n : Int), .bool ring, .slice qu tl cu] 26))
  have hV2 : Out w1.heap.size (w2.alloc (.cells #[.int .i64 (n : Int), .bool ring, .slice qu tl cu] 26)) (.slice qv m cv) L := World.ownsRow.alloc hO _
  have hO2 := Out.below (HO1.out.below hb2) (ext1 w2 (.cells #[.int .i64 (n : Int), .bool ring, .slice qu tl cu] 26))
  rw [hww] at hE2 hV2 hO2
  have HE2 := Lib.hid hE2
  have HV2 := Lib.hid hV2
  have HO2 : Hid (Out (w.heap.size + 1) ww (.slice (some ⟨w.heap.size + 1, 0, none⟩) 0 0) (stpM n ring S l 0)) := hO2
  have HNN : Hid (∀ b, (Value.slice (some ⟨w.heap.size + 1, 0, none⟩) 0 0).ownBlock = some b → (Value.slice qv m cv).ownBlock ≠ some b) := by
    show ∀ _, _
    intro b hb hc
    have h1 := own_block hO b hc
    have h2 := (World.ownsRow.lt HO1.out b hb).2
    omega
  have HW := Lib.hid hww
  clear hb2 c0 c1 c2 PK HE1 HO1 hO hU hE2 hV2 hO2 hww
  go_upto_region 4 with fail
  rw [HW.out]
  go_wp2_with fail
  go_loopw [7, 8, 25, 12, 13, 14] (fun v sv i _ _ _ wr => ∃ (j : Nat), j ≤ m ∧ i = .int .i64 (j : Int) ∧ sv = .int .i64 ((sumM n ring S l j : Nat) : Int) ∧ Hid (RowE w n ring p m0 cap wr) ∧ Hid (Out w1.heap.size wr (.slice qv m cv) L) ∧ Hid (Out (w.heap.size + 1) wr v (stpM n ring S l j)) ∧ Hid (∀ b, v.ownBlock = some b → (Value.slice qv m cv).ownBlock ≠ some b)) (fun _ _ i _ _ _ _ => m - (intOf i).toNat)
  case atStart => exact ⟨0, Nat.zero_le _, rfl, rfl, HE2, HV2, HO2, HNN⟩
  case round =>
    obtain ⟨j, hj, rfl, rfl, HE, HV, HO, HN⟩ := hrel
    clear HE2 HV2 HO2 HNN HW
    by_cases hlt : j < m
    · have hj1 : (j : Int) < (m : Int) := by omega
      have hj0 : (0 : Int) ≤ (j : Int) := by omega
      have hjl : j < l.length := by rw [HM.out]; exact hlt
      have hjL : j < L.length := by rw [HLL.out]; exact hlt
      obtain ⟨b, off, rfl, -, -, hbw, hc⟩ := (HI2.out wr HE.out.bel).int (by rw [ints_length]; omega)
      have h0 := hc j (by rw [ints_length]; exact hjl)
      rw [ints_get hjl] at h0
      have hxn := HLS.out _ (nat_mem hjl)
      obtain ⟨bv, ov, e, -, -, -, hcv⟩ := (HV.out.riK).int (by omega)
      subst e
      have h1 := hcv j hjL
      rw [HPG.out j hlt] at h1
      have hT1 := stp_succ n ring S l j
      have hS1 : sumM n ring S l (j + 1) = sumM n ring S l j + stpN n (l[j]?.getD 0) (carM n ring 0 S l j) := rfl
      have hsl := sum_le h2 ring S l j
      have hnj : n * j ≤ 24 * 12 := Nat.mul_le_mul hn (by omega)
      have HL2 : Hid ((stpM n ring S l j).length ≤ j) := by show _ ≤ _; rw [stp_len]; exact Nat.le_refl _
      have hcl := fun q => car_lt (ring := ring) (k := 0) (S := S) (j := j) (q := q) HLS.out hjl
      obtain ⟨x, hx⟩ : ∃ x, l[j]?.getD 0 = x := ⟨_, rfl⟩
      obtain ⟨C, hC⟩ : ∃ C, carM n ring 0 S l j = C := ⟨_, rfl⟩
      obtain ⟨sm, hsm⟩ : ∃ sm, sumM n ring S l j = sm := ⟨_, rfl⟩
      rw [hx] at h0 hT1 hS1 hxn
      rw [hC] at h1 hT1 hS1 hcl
      rw [hsm] at hS1 hsl ⊢
      have HT1 := Lib.hid hT1
      have HS1 := Lib.hid hS1
      obtain ⟨c0, -, -, -⟩ := HE.out.row.three
      have hm12 := hll
      cases C with
      | none =>
        have HT2 : Hid (stpM n ring S l (j + 1) = stpM n ring S l j ++ [(-1 : Int)]) := HT1
        have HS2 : Hid (sumM n ring S l (j + 1) = sm) := HS1
        simp only [optI] at h1
        have HE3 := HE
        have HV3 := HV
        have HO3 := HO
        obtain ⟨w3, hw3⟩ : ∃ w3 : World, w3 = wr := ⟨_, rfl⟩
        subst hw3
        clear hc hcv hbw hx hC hsm hT1 hS1 HT1 HS1 hcl hsl HE HV HO
        have hblk := Lib.hid (own_block HO3.out)
        have hrl := HE3.out.row.lt
        obtain ⟨l2, vs, hl2, hvs, hown⟩ := HO3.out.open'
        have hlk := HL2.out
        rw [hl2] at hlk
        replace hl2 := Lib.hid hl2
        replace hvs := Lib.hid hvs
        go_wp2_with (at_builtin; refine wpList_append_own_at _ rfl _ _ 22 rfl (w.heap.size + 1) 3 i0 (.int .i64 0) 1 8 Try.underlying22 hi0 hz0 hz1 hz2 rfl (by decide) _ _ _ rfl (hown.alloc _) ⟨w3.heap.size, 0, none⟩ 1 1 [.int .i64 ((-1 : Int))] rfl rfl (cell_one_new _ _ _) (fun x hx => by simp at hx; subst hx; rfl) (by unfold maxLen; omega) (by omega) (by simp; omega) ?_; intro v' w4 hown' hgrow4 hnil4 hat4)
        have hG : Below (w.heap.size + 1) w3 w4 := ((Below.refl (w.heap.size + 1) w3).alloc (by omega) _).grown hgrow4 (by simp; omega) hblk.out
        have HE4 := Lib.hid (HE3.out.next1 hG)
        have HO4 : Hid (Out (w.heap.size + 1) w4 v' (stpM n ring S l (j + 1))) := by
          show Out _ _ _ _
          rw [HT2.out]; exact Out.close hl2.out hvs.out hown'
        have HV4 : Hid (Out w1.heap.size w4 (.slice (some ⟨bv, ov, none⟩) m cv) L) := World.ownsRow.kept (World.ownsRow.alloc HV3.out _) hgrow4 (not_own HN.out)
        have HN4 : Hid (∀ b, v'.ownBlock = some b → (Value.slice (some ⟨bv, ov, none⟩) m cv).ownBlock ≠ some b) := by
          show ∀ _, _
          intro b hb hc
          rcases hat4 with h | h
          · rw [h] at hb; exact HN.out b hb hc
          · rw [h] at hb
            have h1 := (World.ownsRow.lt HV3.out b hc).2
            simp at hb
            omega
        clear hown' hgrow4 hnil4 hat4 hown hG hblk HE3 HV3 HO3 HN hrl
        go_wp2
        go_roundw
        case rel => exact ⟨j + 1, by omega, by go_num, by rw [HS2.out], HE4, HV4, HO4, HN4⟩
        case measure => simp [intOf]; omega
      | some y =>
        obtain ⟨hyn, -⟩ := hcl y rfl
        have hn0 : ¬ (n : Int) = 0 := by omega
        have hn00 : ¬ n = 0 := by omega
        have hmod : ((y : Int) - (x : Int) + (n : Int)).tmod (n : Int) = (((y + n - x) % n : Nat) : Int) := by rw [show (y : Int) - (x : Int) + (n : Int) = ((y + n - x : Nat) : Int) by omega, Int.ofNat_tmod]
        have hdl : (y + n - x) % n < n := Nat.mod_lt _ (by omega)
        have hT2 : stpM n ring S l (j + 1) = stpM n ring S l j ++ [(((y + n - x) % n : Nat) : Int)] := HT1.out
        have hS2 : sumM n ring S l (j + 1) = sm + (y + n - x) % n := HS1.out
        obtain ⟨d, hd⟩ : ∃ d, (y + n - x) % n = d := ⟨_, rfl⟩
        rw [hd] at hmod hdl hT2 hS2
        have HT2 := Lib.hid hT2
        have HS2 := Lib.hid hS2
        simp only [optI] at h1
        have hy0 : ¬ (y : Int) = -1 := by omega
        have hyb : ((y : Int) == -1) = false := by simp
        have hw1 : IntKind.i64.wrap ((y : Int) - (x : Int)) = (y : Int) - (x : Int) := IntWalk.i64_in _ (by omega)
        have hw2 : IntKind.i64.wrap ((y : Int) - (x : Int) + (n : Int)) = (y : Int) - (x : Int) + (n : Int) := IntWalk.i64_in _ (by omega)
        have hw3' : IntKind.i64.wrap (d : Int) = (d : Int) := IntWalk.i64_in _ (by omega)
        have hw4 : IntKind.i64.wrap ((sm : Int) + (d : Int)) = (sm : Int) + (d : Int) := IntWalk.i64_in _ (by omega)
        clear hc hcv hbw hx hC hsm hT1 hS1 HT1 HS1 hcl hsl hT2 hS2 hd
        go_wp2_with fail
        go_quiet (fail)
        obtain ⟨w3, hw3⟩ : ∃ w3, wr.drewN nq = w3 := ⟨_, rfl⟩
        have hD : Below wr.heap.size wr w3 := by rw [← hw3]; exact below_drewN (Below.refl _ _) _
        rw [hw3]
        have HE3 := Lib.hid (HE.out.next hD)
        have HV3 := Lib.hid (HV.out.below hD)
        have HO3 := Lib.hid (HO.out.below hD)
        clear hw3 hD HE HV HO h0 h1
        clear hmod hw1 hw2 c0
        have hblk := Lib.hid (own_block HO3.out)
        have hrl := HE3.out.row.lt
        obtain ⟨l2, vs, hl2, hvs, hown⟩ := HO3.out.open'
        have hlk := HL2.out
        rw [hl2] at hlk
        replace hl2 := Lib.hid hl2
        replace hvs := Lib.hid hvs
        go_wp2_with (at_builtin; refine wpList_append_own_at _ rfl _ _ 22 rfl (w.heap.size + 1) 3 i0 (.int .i64 0) 1 8 Try.underlying22 hi0 hz0 hz1 hz2 rfl (by decide) _ _ _ rfl (hown.alloc _) ⟨w3.heap.size, 0, none⟩ 1 1 [.int .i64 ((d : Int))] rfl rfl (cell_one_new _ _ _) (fun x hx => by simp at hx; subst hx; rfl) (by unfold maxLen; omega) (by omega) (by simp; omega) ?_; intro v' w4 hown' hgrow4 hnil4 hat4)
        have hG : Below (w.heap.size + 1) w3 w4 := ((Below.refl (w.heap.size + 1) w3).alloc (by omega) _).grown hgrow4 (by simp; omega) hblk.out
        have HE4 := Lib.hid (HE3.out.next1 hG)
        have HO4 : Hid (Out (w.heap.size + 1) w4 v' (stpM n ring S l (j + 1))) := by
          show Out _ _ _ _
          rw [HT2.out]; exact Out.close hl2.out hvs.out hown'
        have HV4 : Hid (Out w1.heap.size w4 (.slice (some ⟨bv, ov, none⟩) m cv) L) := World.ownsRow.kept (World.ownsRow.alloc HV3.out _) hgrow4 (not_own HN.out)
        have HN4 : Hid (∀ b, v'.ownBlock = some b → (Value.slice (some ⟨bv, ov, none⟩) m cv).ownBlock ≠ some b) := by
          show ∀ _, _
          intro b hb hc
          rcases hat4 with h | h
          · rw [h] at hb; exact HN.out b hb hc
          · rw [h] at hb
            have h1 := (World.ownsRow.lt HV3.out b hc).2
            simp at hb
            omega
        clear hown' hgrow4 hnil4 hat4 hown hG hblk HE3 HV3 HO3 HN hrl
        go_wp2
        go_roundw
        case rel => exact ⟨j + 1, by omega, by go_num, by rw [HS2.out]; push_cast; rfl, HE4, HV4, HO4, HN4⟩
        case measure => simp [intOf]; omega
    · have hjm : j = m := by omega
      subst hjm
      have hj1 : ¬ (j : Int) < (j : Int) := by omega
      have hsm := HSM.out
      obtain ⟨sm, hs⟩ : ∃ sm, sumM n ring S l j = sm := ⟨_, rfl⟩
      rw [hs] at hsm ⊢
      subst hsm
      clear HSM hs
      go_wp2_with fail
      go_ret3
      exact ⟨_, rfl, HO.out.mono (Nat.le_succ _), HE.out.bel⟩
theorem parkSteps_both (s0 : Int) (r0 : Bool) (xs0 : List Int) (xs1 : List Int) : ∃ (L0 : List Int) (x1 : Int) (y2 : Bool), L0.length ≤ 1000 ∧ (∀ (q0 : Option Addr) (c0 : Nat) (q1 : Option Addr) (c1 : Nat) (w : World) (lo0 hi0 : Nat) (lo1 hi1 : Nat), Ri lo0 hi0 w q0 xs0 → xs0.length ≤ 1048576 → xs0.length ≤ c0 → c0 ≤ maxLen → Ri lo1 hi1 w q1 xs1 → xs1.length ≤ 1048576 → xs1.length ≤ c1 → c1 ≤ maxLen → Calls Try.prog 24 #[rowV s0 r0 q0 xs0.length c0, .slice q1 xs1.length c1] w fun e w' => ∃ v0, e = .returned (.tuple #[v0, .int .i64 x1, .bool y2]) ∧ Out w.heap.size w' v0 L0 ∧ Below w.heap.size w w') ∧ (∀ (q0 : Option Addr) (c0 : Nat) (q1 : Option Addr) (c1 : Nat) (w : World) (lo0 hi0 : Nat) (lo1 hi1 : Nat), Ri lo0 hi0 w q0 xs0 → xs0.length ≤ 1048576 → xs0.length ≤ c0 → c0 ≤ maxLen → Ri lo1 hi1 w q1 xs1 → xs1.length ≤ 1048576 → xs1.length ≤ c1 → c1 ≤ maxLen → Calls Try.prog 25 #[rowV s0 r0 q0 xs0.length c0, .slice q1 xs1.length c1] w fun e w' => ∃ v0, e = .returned (.tuple #[v0, .int .i64 x1, .bool y2]) ∧ Out w.heap.size w' v0 L0 ∧ Below w.heap.size w w') := by
  cases h : carsB s0 r0 xs0 xs1 with
  | false => exact ⟨[], 0, false, by simp, fun q0 c0 q1 c1 w lo hi lo2 hi2 h1 h2 _ _ h3 h4 _ _ => stepsS_bad s0 r0 q0 c0 xs0 q1 c1 xs1 w lo hi lo2 hi2 h1 h2 h3 h4 h, fun q0 c0 q1 c1 w lo hi lo2 hi2 h1 h2 _ _ h3 h4 _ _ => stepsI_none s0 r0 q0 _ c0 q1 _ c1 w 0 false [] false (fun w' h' => parkCarsI_bad s0 r0 q0 c0 xs0 q1 c1 xs1 w' lo hi lo2 hi2 (h1.below h' h1.top) h2 (h3.below h' h3.top) h4 h)⟩
  | true =>
    obtain ⟨n, S, l, rfl, rfl, rfl, h2, hn, h3, hl, hll⟩ := carsB_is h
    exact ⟨_, _, _, by rw [stp_len]; omega, fun q0 c0 q1 c1 w lo hi lo2 hi2 h1 _ _ _ h3' _ _ _ => stepsS_any n r0 q0 c0 S q1 c1 l w lo hi lo2 hi2 h1 h2 hn h3' hl hll h, fun q0 c0 q1 c1 w lo hi lo2 hi2 h1 _ _ _ h3' _ _ _ => stepsI_any n r0 q0 c0 S q1 c1 l w lo hi lo2 hi2 h1 h2 hn h3' hl hll h⟩
end Go.Proofs.Ytgalopbpbhlcdaa
