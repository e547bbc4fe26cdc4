/- Chapter 6, spec side: spec.AllPark, LuckyCars. -/
import Derived.Test.YtgalopbpbhlcdaaPkC6
import Derived.Test.YtgalopbpbhlcdaaRowE6
namespace Go.Proofs.Ytgalopbpbhlcdaa
open Go.RowKit

set_option maxRecDepth 4000 in
set_option maxHeartbeats 1600000 in
theorem allParkS_bad (s : Int) (ring : Bool) (p : Option Addr) (cap : Nat) (xs : List Int) (q : Option Addr) (c : Nat) (cs : List Int) (w : World) (lo hi lo2 hi2 : Nat) (hin : Ri lo hi w p xs) (hlen : xs.length ≤ 1048576) (hin2 : Ri lo2 hi2 w q cs) (hlen2 : cs.length ≤ 1048576) (h : carsB s ring xs cs = false) :
    Calls Try.prog 22 #[rowV s ring p xs.length cap, .slice q cs.length c] w fun e w' => e = .returned (.tuple #[.bool false, .bool false]) ∧ Below w.heap.size w w' := by
  have hE := RowE.start w s ring p xs.length cap
  have CB := fun (w' : World) (h' : Below w.heap.size w w') => l6Cars_any s ring p cap xs q c cs w' lo hi lo2 hi2 (hin.below h' hin.top) hlen (hin2.below h' hin2.top) hlen2
  rw [h] at CB
  obtain ⟨m0, hm0⟩ : ∃ m, xs.length = m := ⟨_, rfl⟩
  obtain ⟨m, hm⟩ : ∃ m, cs.length = m := ⟨_, rfl⟩
  rw [hm0] at hE CB ⊢
  rw [hm] at CB ⊢
  have HE := Lib.hid hE
  replace CB := Lib.hid CB
  clear hin hin2 hE hm0 hm h
  obtain ⟨c0, c1, c2, -⟩ := HE.out.row.three
  go_enter Try.func22, Try.ntmps22
  go_wp2_with fail
  refine (CB.out _ HE.out.bel).mono ?_
  rintro e w1 ⟨rfl, hb1⟩
  have HE1 := Lib.hid (HE.out.next hb1)
  clear hb1 c0 c1 c2 CB
  go_wp2_with fail
  go_ret2
  exact ⟨rfl, HE1.out.bel⟩

set_option maxRecDepth 4000 in
set_option maxHeartbeats 1600000 in
theorem allParkS_any (n : Nat) (ring : Bool) (p : Option Addr) (cap : Nat) (S : Nat → Bool) (q : Option Addr) (c : Nat) (l : List Nat) (w : World) (lo hi lo2 hi2 : Nat) (hin : Ri lo hi w p (ints (tk n S))) (h2 : 2 ≤ n) (hn : n ≤ 24) (hin2 : Ri lo2 hi2 w q (ints l)) (hl : ∀ x ∈ l, x < n) (hll : l.length ≤ 12) (hc : carsB n ring (ints (tk n S)) (ints l) = true) :
    Calls Try.prog 22 #[rowV n ring p (ints (tk n S)).length cap, .slice q (ints l).length c] w fun e w' => e = .returned (.tuple #[.bool (!decide ((-1 : Int) ∈ pkM n ring 0 S l l.length)), .bool true]) ∧ Below w.heap.size w w' := by
  have hlen := ints_tk_len n S
  have hE := RowE.start w n ring p (ints (tk n S)).length cap
  have CB := fun (w' : World) (h' : Below w.heap.size w w') => l6Cars_any n ring p cap (ints (tk n S)) q c (ints l) w' lo hi lo2 hi2 (hin.below h' hin.top) (by omega) (hin2.below h' hin2.top) (by rw [ints_length]; omega)
  have PK := fun (w' : World) (h' : Below w.heap.size w w') => l6Park_any n ring p cap S q c l 0 w' lo hi lo2 hi2 (hin.below h' hin.top) h2 hn (hin2.below h' hin2.top) hl hll (by omega)
  rw [hc] at CB
  have HLL := Lib.hid (pk_len n ring 0 S l l.length)
  obtain ⟨L, hL⟩ : ∃ L, pkM n ring 0 S l l.length = L := ⟨_, rfl⟩
  obtain ⟨T, hT⟩ : ∃ T, ints (tk n (stM n ring 0 S l l.length)) = T := ⟨_, rfl⟩
  rw [hL, hT] at PK
  rw [hL] at HLL ⊢
  obtain ⟨tl, htl⟩ : ∃ tl, T.length = tl := ⟨_, rfl⟩
  have HTL := Lib.hid htl
  obtain ⟨m0, hm0⟩ : ∃ m, (ints (tk n S)).length = m := ⟨_, rfl⟩
  obtain ⟨m, hm⟩ : ∃ m, (ints l).length = m := ⟨_, rfl⟩
  have hml : l.length = m := by rw [← hm, ints_length]
  rw [hm0] at hE CB PK ⊢
  rw [hm] at CB PK ⊢
  rw [hml] at HLL hll
  have HM := Lib.hid hml
  have HE := Lib.hid hE
  replace CB := Lib.hid CB
  replace PK := Lib.hid PK
  clear hin hin2 hE hm0 hm hml hL hT hc hl hlen htl
  obtain ⟨c0, c1, c2, -⟩ := HE.out.row.three
  go_enter Try.func22, Try.ntmps22
  go_wp2_with fail
  refine (CB.out _ HE.out.bel).mono ?_
  rintro e w1 ⟨rfl, hb1⟩
  have HE1 := Lib.hid (HE.out.next hb1)
  clear hb1 c0 c1 c2 CB HE
  obtain ⟨c0, c1, c2, -⟩ := HE1.out.row.three
  go_wp2_with fail
  refine (PK.out _ HE1.out.bel).mono ?_
  rintro e w2 ⟨v, u, rfl, hO, hU, hb2⟩
  obtain ⟨qu, cu, rfl, -⟩ := hU.rd
  rw [HTL.out] at hU ⊢
  obtain ⟨qv, cv, rfl, -, -, hR, -⟩ := hO.rd
  have LH := l1Has_any qv cv L (-1) (w2.alloc (.cells #[.int .i64 (n : Int), .bool ring, .slice qu tl cu] 26)) _ _ (hR.bel (ext1 w2 _)) (by rw [HLL.out]; omega)
  rw [HLL.out] at LH ⊢
  have HE2 := Lib.hid ((HE1.out.next hb2).next (ext1 w2 (.cells #[.int .i64 (n : Int), .bool ring, .slice qu tl cu] 26)))
  obtain ⟨B, hB⟩ : ∃ B, decide ((-1 : Int) ∈ L) = B := ⟨_, rfl⟩
  rw [hB] at LH
  replace hB := Lib.hid hB
  replace LH := Lib.hid LH
  clear hb2 c0 c1 c2 PK HE1 hO hU hR
  go_wp2_with fail
  refine LH.out.mono ?_
  rintro e w3 ⟨rfl, rfl⟩
  go_wp2_with fail
  go_ret2
  exact ⟨by rw [hB.out]; rfl, HE2.out.bel⟩

/-- whether car i is a lucky one -/
def lkyB (n : Nat) (ring : Bool) (S : Nat → Bool) (l : List Nat) (i : Nat) : Bool := decide (optI (carM n ring 0 S l i) = ((l[i]?.getD 0 : Nat) : Int))

set_option maxRecDepth 4000 in
set_option maxHeartbeats 1600000 in
theorem luckyS_bad (s : Int) (ring : Bool) (p : Option Addr) (cap : Nat) (xs : List Int) (q : Option Addr) (c : Nat) (cs : List Int) (w : World) (lo hi lo2 hi2 : Nat) (hin : Ri lo hi w p xs) (hlen : xs.length ≤ 1048576) (hin2 : Ri lo2 hi2 w q cs) (hlen2 : cs.length ≤ 1048576) (h : carsB s ring xs cs = false) :
    Calls Try.prog 26 #[rowV s ring p xs.length cap, .slice q cs.length c] w fun e w' => ∃ v, e = .returned (.tuple #[v, .bool false]) ∧ Out w.heap.size w' v [] ∧ Below w.heap.size w w' := by
  have hE := (RowE.start w s ring p xs.length cap).next (ext1 _ E0)
  have hO := (Out.nilLit (w.alloc (.cells #[.int .i64 s, .bool ring, .slice p xs.length cap] 26))).mono (B' := w.heap.size) (by simp)
  rw [show (w.alloc (.cells #[.int .i64 s, .bool ring, .slice p xs.length cap] 26)).heap.size = w.heap.size + 1 by simp] at hO
  have CB := fun (w' : World) (h' : Below w.heap.size w w') => l6Cars_any s ring p cap xs q c cs w' lo hi lo2 hi2 (hin.below h' hin.top) hlen (hin2.below h' hin2.top) hlen2
  rw [h] at CB
  obtain ⟨m0, hm0⟩ : ∃ m, xs.length = m := ⟨_, rfl⟩
  obtain ⟨m, hm⟩ : ∃ m, cs.length = m := ⟨_, rfl⟩
  rw [hm0] at hE hO CB ⊢
  rw [hm] at CB ⊢
  have HE := Lib.hid hE
  have HO := Lib.hid hO
  replace CB := Lib.hid CB
  clear hin hin2 hE hO hm0 hm h
  obtain ⟨c0, c1, c2, -⟩ := HE.out.row.three
  go_enter Try.func26, Try.ntmps26
  go_wp2_with fail
  refine (CB.out _ HE.out.bel).mono ?_
  rintro e w1 ⟨rfl, hb1⟩
  have HE1 := Lib.hid (HE.out.next hb1)
  have HO1 := Lib.hid (HO.out.below hb1)
  clear hb1 c0 c1 c2 CB
  go_wp2_with fail
  go_ret2
  exact ⟨_, rfl, HO1.out, HE1.out.bel⟩

set_option maxRecDepth 4000 in
set_option maxHeartbeats 2000000 in
theorem luckyS_any (n : Nat) (ring : Bool) (p : Option Addr) (cap : Nat) (S : Nat → Bool) (q : Option Addr) (c : Nat) (l : List Nat) (w : World) (lo hi lo2 hi2 : Nat) (hin : Ri lo hi w p (ints (tk n S))) (h2 : 2 ≤ n) (hn : n ≤ 24) (hin2 : Ri lo2 hi2 w q (ints l)) (hl : ∀ x ∈ l, x < n) (hll : l.length ≤ 12) (hc : carsB n ring (ints (tk n S)) (ints l) = true) :
    Calls Try.prog 26 #[rowV n ring p (ints (tk n S)).length cap, .slice q (ints l).length c] w fun e w' => ∃ v, e = .returned (.tuple #[v, .bool true]) ∧ Out w.heap.size w' v (ints (tk l.length (lkyB n ring S l))) ∧ Below w.heap.size w w' := by
  obtain ⟨i0, hi0, hz0, hz1, hz2⟩ := info_parts infoInt
  have hlen := ints_tk_len n S
  have hE := (RowE.start w n ring p (ints (tk n S)).length cap).next (ext1 _ E0)
  have hO := (Out.nilLit (w.alloc (.cells #[.int .i64 n, .bool ring, .slice p (ints (tk n S)).length cap] 26)))
  rw [show (w.alloc (.cells #[.int .i64 n, .bool ring, .slice p (ints (tk n S)).length cap] 26)).heap.size = w.heap.size + 1 by simp] at hO
  have CB := fun (w' : World) (h' : Below w.heap.size w w') => l6Cars_any n ring p cap (ints (tk n S)) q c (ints l) w' lo hi lo2 hi2 (hin.below h' hin.top) (by omega) (hin2.below h' hin2.top) (by rw [ints_length]; omega)
  have PK := fun (w' : World) (h' : Below w.heap.size w w') => l6Park_any n ring p cap S q c l 0 w' lo hi lo2 hi2 (hin.below h' hin.top) h2 hn (hin2.below h' hin2.top) hl hll (by omega)
  rw [hc] at CB
  have HLL := Lib.hid (pk_len n ring 0 S l l.length)
  have HPG : Hid (∀ j, j < l.length → (pkM n ring 0 S l l.length)[j]?.getD 0 = optI (carM n ring 0 S l j)) := by show ∀ _, _; intro j hj; exact pk_get hj
  have HI2 := Lib.hid (fun (w' : World) (h' : Below w.heap.size w w') => hin2.below h' hin2.top)
  obtain ⟨L, hL⟩ : ∃ L, pkM n ring 0 S l l.length = L := ⟨_, rfl⟩
  obtain ⟨T, hT⟩ : ∃ T, ints (tk n (stM n ring 0 S l l.length)) = T := ⟨_, rfl⟩
  rw [hL, hT] at PK
  rw [hL] at HLL HPG
  obtain ⟨tl, htl⟩ : ∃ tl, T.length = tl := ⟨_, rfl⟩
  have HTL := Lib.hid htl
  obtain ⟨m0, hm0⟩ : ∃ m, (ints (tk n S)).length = m := ⟨_, rfl⟩
  obtain ⟨m, hm⟩ : ∃ m, (ints l).length = m := ⟨_, rfl⟩
  have hml : l.length = m := by rw [← hm, ints_length]
  rw [hm0] at hE hO CB PK ⊢
  rw [hm] at CB PK ⊢
  rw [hml] at HLL hll HPG ⊢
  have HM := Lib.hid hml
  have HE := Lib.hid hE
  replace CB := Lib.hid CB
  replace PK := Lib.hid PK
  have HO := Lib.hid hO
  clear hin hin2 hE hO hm0 hm hml hL hT hc hl hlen htl
  obtain ⟨c0, c1, c2, -⟩ := HE.out.row.three
  go_enter Try.func26, Try.ntmps26
  go_wp2_with fail
  refine (CB.out _ HE.out.bel).mono ?_
  rintro e w1 ⟨rfl, hb1⟩
  have HE1 := Lib.hid (HE.out.next hb1)
  have HO1 := Lib.hid (HO.out.below hb1)
  clear hb1 c0 c1 c2 CB HE HO
  obtain ⟨c0, c1, c2, -⟩ := HE1.out.row.three
  go_wp2_with fail
  refine (PK.out _ HE1.out.bel).mono ?_
  rintro e w2 ⟨v, u, rfl, hO, hU, hb2⟩
  obtain ⟨qu, cu, rfl, -⟩ := hU.rd
  rw [HTL.out] at hU ⊢
  obtain ⟨qv, cv, rfl, -, -, -, -⟩ := hO.rd
  rw [HLL.out] at hO ⊢
  obtain ⟨ww, hww⟩ : ∃ ww, w2.alloc (.cells #[.int .i64 (n : Int), .bool ring, .slice qu tl cu] 26) = ww := ⟨_, rfl⟩
  have hE2 := (HE1.out.next hb2).next (ext1 w2 (.cells #[.int .i64 (n : Int), .bool ring, .slice qu tl cu] 26))
  have hV2 : Out w1.heap.size (w2.alloc (.cells #[.int .i64 (n : Int), .bool ring, .slice qu tl cu] 26)) (.slice qv m cv) L := World.ownsRow.alloc hO _
  have hO2 := Out.below (HO1.out.below hb2) (ext1 w2 (.cells #[.int .i64 (n : Int), .bool ring, .slice qu tl cu] 26))
  rw [hww] at hE2 hV2 hO2
  have HE2 := Lib.hid hE2
  have HV2 := Lib.hid hV2
  have HO2 : Hid (Out (w.heap.size + 1) ww (.slice (some ⟨w.heap.size + 1, 0, none⟩) 0 0) (ints (tk 0 (lkyB n ring S l)))) := hO2
  have HNN : Hid (∀ b, (Value.slice (some ⟨w.heap.size + 1, 0, none⟩) 0 0).ownBlock = some b → (Value.slice qv m cv).ownBlock ≠ some b) := by
    show ∀ _, _
    intro b hb hc
    have h1 := own_block hO b hc
    have h2 := (World.ownsRow.lt HO1.out b hb).2
    omega
  have HW := Lib.hid hww
  clear hb2 c0 c1 c2 PK HE1 HO1 hO hU hE2 hV2 hO2 hww
  go_upto_region 5 with fail
  rw [HW.out]
  go_wp2_with fail
  go_loopw [6, 9] (fun v i wr => ∃ (j : Nat), j ≤ m ∧ i = .int .i64 (j : Int) ∧ Hid (RowE w n ring p m0 cap wr) ∧ Hid (Out w1.heap.size wr (.slice qv m cv) L) ∧ Hid (Out (w.heap.size + 1) wr v (ints (tk j (lkyB n ring S l)))) ∧ Hid (∀ b, v.ownBlock = some b → (Value.slice qv m cv).ownBlock ≠ some b)) (fun _ i _ => m - (intOf i).toNat)
  case atStart => exact ⟨0, Nat.zero_le _, rfl, HE2, HV2, HO2, HNN⟩
  case round =>
    obtain ⟨j, hj, rfl, HE, HV, HO, HN⟩ := hrel
    clear HE2 HV2 HO2 HNN HW
    by_cases hlt : j < m
    · have hj1 : (j : Int) < (m : Int) := by omega
      have hj0 : (0 : Int) ≤ (j : Int) := by omega
      have hjl : j < l.length := by rw [HM.out]; exact hlt
      have hjL : j < L.length := by rw [HLL.out]; exact hlt
      obtain ⟨b, off, rfl, -, -, hbw, hc⟩ := (HI2.out wr HE.out.bel).int (by rw [ints_length]; omega)
      have h0 := hc j (by rw [ints_length]; exact hjl)
      rw [ints_get hjl] at h0
      obtain ⟨bv, ov, e, -, -, -, hcv⟩ := (HV.out.riK).int (by omega)
      subst e
      have h1 := hcv j hjL
      rw [HPG.out j hlt] at h1
      have hT1 := ints_tk_succ j (lkyB n ring S l)
      have hbd : lkyB n ring S l j = decide (optI (carM n ring 0 S l j) = ((l[j]?.getD 0 : Nat) : Int)) := rfl
      obtain ⟨x, hx⟩ : ∃ x, l[j]?.getD 0 = x := ⟨_, rfl⟩
      obtain ⟨y, hy⟩ : ∃ y, optI (carM n ring 0 S l j) = y := ⟨_, rfl⟩
      rw [hx] at h0 hbd
      rw [hy] at h1 hbd
      rw [hbd] at hT1
      have HT1 := Lib.hid hT1
      clear hc hcv hbw hx hy hT1 hbd
      by_cases hxy : y = (x : Int)
      · subst hxy
        have HT2 : Hid (ints (tk (j + 1) (lkyB n ring S l)) = ints (tk j (lkyB n ring S l)) ++ [(j : Int)]) := by show _ = _; rw [HT1.out, decide_eq_true rfl]; rfl
        have HL2 := Lib.hid (ints_tk_len j (lkyB n ring S l))
        have hm12 := hll
        clear HT1
        go_wp2_with fail
        go_quiet (fail)
        obtain ⟨w3, hw3⟩ : ∃ w3, wr.drewN nq = w3 := ⟨_, rfl⟩
        have hD : Below wr.heap.size wr w3 := by rw [← hw3]; exact below_drewN (Below.refl _ _) _
        rw [hw3]
        have HE3 := Lib.hid (HE.out.next hD)
        have HV3 := Lib.hid (HV.out.below hD)
        have HO3 := Lib.hid (HO.out.below hD)
        clear hw3 hD HE HV HO h0 h1
        have hblk := Lib.hid (own_block HO3.out)
        have hrl := HE3.out.row.lt
        obtain ⟨l2, vs, hl2, hvs, hown⟩ := HO3.out.open'
        have hlk := HL2.out
        rw [hl2] at hlk
        replace hl2 := Lib.hid hl2
        replace hvs := Lib.hid hvs
        go_wp2_with (at_builtin; refine wpList_append_own_at _ rfl _ _ 22 rfl (w.heap.size + 1) 3 i0 (.int .i64 0) 1 8 Try.underlying22 hi0 hz0 hz1 hz2 rfl (by decide) _ _ _ rfl (hown.alloc _) ⟨w3.heap.size, 0, none⟩ 1 1 [.int .i64 ((j : Int))] rfl rfl (cell_one_new _ _ _) (fun x hx => by simp at hx; subst hx; rfl) (by unfold maxLen; omega) (by omega) (by simp; omega) ?_; intro v' w4 hown' hgrow4 hnil4 hat4)
        have hG : Below (w.heap.size + 1) w3 w4 := ((Below.refl (w.heap.size + 1) w3).alloc (by omega) _).grown hgrow4 (by simp; omega) hblk.out
        have HE4 := Lib.hid (HE3.out.next1 hG)
        have HO4 : Hid (Out (w.heap.size + 1) w4 v' (ints (tk (j + 1) (lkyB n ring S l)))) := by
          show Out _ _ _ _
          rw [HT2.out]; exact Out.close hl2.out hvs.out hown'
        have HV4 : Hid (Out w1.heap.size w4 (.slice (some ⟨bv, ov, none⟩) m cv) L) := World.ownsRow.kept (World.ownsRow.alloc HV3.out _) hgrow4 (not_own HN.out)
        have HN4 : Hid (∀ b, v'.ownBlock = some b → (Value.slice (some ⟨bv, ov, none⟩) m cv).ownBlock ≠ some b) := by
          show ∀ _, _
          intro b hb hc
          rcases hat4 with h | h
          · rw [h] at hb; exact HN.out b hb hc
          · rw [h] at hb
            have h1 := (World.ownsRow.lt HV3.out b hc).2
            simp at hb
            omega
        clear hown' hgrow4 hnil4 hat4 hown hG hblk HE3 HV3 HO3 HN hrl
        go_wp2
        go_roundw
        case rel => exact ⟨j + 1, by omega, by go_num, HE4, HV4, HO4, HN4⟩
        case measure => simp [intOf]; omega
      · have HT2 : Hid (ints (tk (j + 1) (lkyB n ring S l)) = ints (tk j (lkyB n ring S l))) := by show _ = _; rw [HT1.out, decide_eq_false hxy, if_neg (by simp), List.append_nil]
        clear HT1
        go_wp2_with fail
        go_quiet (fail)
        obtain ⟨w3, hw3⟩ : ∃ w3, wr.drewN nq = w3 := ⟨_, rfl⟩
        have hD : Below wr.heap.size wr w3 := by rw [← hw3]; exact below_drewN (Below.refl _ _) _
        rw [hw3]
        have HE3 := Lib.hid (HE.out.next hD)
        have HV3 := Lib.hid (HV.out.below hD)
        have HO3 := Lib.hid (HO.out.below hD)
        clear hw3 hD HE HV HO h0 h1
        have ho4 := HO3.out
        rw [← HT2.out] at ho4
        have HO4 := Lib.hid ho4
        clear ho4 HO3
        go_wp2_with fail
        go_roundw
        case rel => exact ⟨j + 1, by omega, by go_num, HE3, HV3, HO4, HN⟩
        case measure => simp [intOf]; omega
    · have hjm : j = m := by omega
      subst hjm
      have hj1 : ¬ (j : Int) < (j : Int) := by omega
      go_wp2_with fail
      go_ret2
      exact ⟨_, rfl, HO.out.mono (Nat.le_succ _), HE.out.bel⟩
end Go.Proofs.Ytgalopbpbhlcdaa
