/- Chapter 6, spec side: spec.CarsAtSeats. -/
import Derived.Test.YtgalopbpbhlcdaaLky6
import Derived.Lib.SmallJoins
namespace Go.Proofs.Ytgalopbpbhlcdaa
open Go.RowKit

/-- an element of a list of the call's own is read and written -/
theorem out_setAt {B : Nat} {w : World} {xs : List Int} {n g c : Nat} (h : Out B w (.slice (some ⟨g, 0, none⟩) n c) xs) (i : Nat) (hi : i < n) (x : Int) :
    w.cell? ⟨g, i, none⟩ = some (.int .i64 (xs[i]?.getD 0)) ∧ w.frozen? ⟨g, i, none⟩ = false ∧ Out B (w.setCell ⟨g, i, none⟩ (.int .i64 x)) (.slice (some ⟨g, 0, none⟩) n c) (xs.set i x) := by
  obtain ⟨hl, h | ⟨g', cap, cur, hv, hB, hh, hn, hc, hs, ht⟩⟩ := h
  · simp at h
  · simp only [Value.slice.injEq, Option.some.injEq, Addr.mk.injEq, and_true] at hv
    obtain ⟨rfl, rfl, rfl⟩ := hv
    have ho : OwnArr w g 3 cur.toList := hh
    rw [Nat.mul_one] at ht hs
    refine ⟨?_, ho.free i, ?_, .inr ⟨g, c, (cur.toList.set i (.int .i64 x)).toArray, by rw [List.length_set], hB, ho.set i _, by rw [List.length_set]; exact hn, hc, by simpa using hs, ?_⟩⟩
    · rw [ho.cell, ← iv_get hi, ← ht, List.getElem?_take_of_lt hi]
    · rw [iv_length, List.length_set]; simp
    · rw [List.length_set, Nat.mul_one, List.take_set, ht]
      unfold iv
      rw [List.map_set]

/-- the numbers of cars at seats, behind j cars -/
def catF (n : Nat) (ring : Bool) (S : Nat → Bool) (l : List Nat) : Nat → Nat → Int
  | 0, p => if S p then -1 else -2
  | j + 1, p => if carM n ring 0 S l j = some p then (j : Int) else catF n ring S l j p
def rgM (n : Nat) (F : Nat → Int) : List Int := (List.range n).map F
theorem rg_len (n : Nat) (F : Nat → Int) : (rgM n F).length = n := by unfold rgM; rw [List.length_map, List.length_range]
theorem rg_succ (n : Nat) (F : Nat → Int) : rgM (n + 1) F = rgM n F ++ [F n] := by unfold rgM; rw [List.range_succ, List.map_append]; rfl
theorem rg_set (n : Nat) (F : Nat → Int) (y : Nat) (v : Int) : (rgM n F).set y v = rgM n (fun p => if p = y then v else F p) := by
  unfold rgM
  apply List.ext_getElem?
  intro i
  rw [List.getElem?_set]
  by_cases hi : i < n
  · rw [List.getElem?_map, List.getElem?_map, List.getElem?_range hi, List.length_map, List.length_range]
    by_cases e : y = i
    · subst e; simp [hi]
    · have e2 : ¬ i = y := fun h => e h.symm
      simp [e, e2]
  · rw [List.getElem?_eq_none (by simp; omega), List.getElem?_eq_none (by simp; omega), List.length_map, List.length_range]
    by_cases e : y = i
    · rw [if_pos e, if_neg (by omega)]
    · rw [if_neg e]
theorem cat_some {n : Nat} {ring : Bool} {S : Nat → Bool} {l : List Nat} {j y : Nat} (h : carM n ring 0 S l j = some y) : rgM n (catF n ring S l (j + 1)) = (rgM n (catF n ring S l j)).set y (j : Int) := by
  rw [rg_set]
  congr 1
  funext p
  show (if carM n ring 0 S l j = some p then _ else _) = _
  rw [h]
  by_cases e : p = y
  · rw [if_pos e, if_pos (by rw [e])]
  · rw [if_neg e, if_neg (fun h => e (by simpa using h.symm))]
theorem cat_none {n : Nat} {ring : Bool} {S : Nat → Bool} {l : List Nat} {j : Nat} (h : carM n ring 0 S l j = none) : rgM n (catF n ring S l (j + 1)) = rgM n (catF n ring S l j) := by
  congr 1
  funext p
  show (if carM n ring 0 S l j = some p then _ else _) = _
  rw [h, if_neg (by simp)]

set_option maxRecDepth 4000 in
set_option maxHeartbeats 1600000 in
theorem catS_bad (s : Int) (ring : Bool) (p : Option Addr) (cap : Nat) (xs : List Int) (q : Option Addr) (c : Nat) (cs : List Int) (w : World) (lo hi lo2 hi2 : Nat) (hin : Ri lo hi w p xs) (hlen : xs.length ≤ 1048576) (hin2 : Ri lo2 hi2 w q cs) (hlen2 : cs.length ≤ 1048576) (h : carsB s ring xs cs = false) :
    Calls Try.prog 28 #[rowV s ring p xs.length cap, .slice q cs.length c] w fun e w' => ∃ v, e = .returned (.tuple #[v, .bool false]) ∧ Out w.heap.size w' v [] ∧ Below w.heap.size w w' := by
  have hE := (RowE.start w s ring p xs.length cap).next (ext1 _ E0)
  have hO := (Out.nilLit (w.alloc (.cells #[.int .i64 s, .bool ring, .slice p xs.length cap] 26))).mono (B' := w.heap.size) (by simp)
  rw [show (w.alloc (.cells #[.int .i64 s, .bool ring, .slice p xs.length cap] 26)).heap.size = w.heap.size + 1 by simp] at hO
  have CB := fun (w' : World) (h' : Below w.heap.size w w') => l6Cars_any s ring p cap xs q c cs w' lo hi lo2 hi2 (hin.below h' hin.top) hlen (hin2.below h' hin2.top) hlen2
  rw [h] at CB
  obtain ⟨m0, hm0⟩ : ∃ m, xs.length = m := ⟨_, rfl⟩
  obtain ⟨m, hm⟩ : ∃ m, cs.length = m := ⟨_, rfl⟩
  rw [hm0] at hE hO CB ⊢
  rw [hm] at CB ⊢
  have HE := Lib.hid hE
  have HO := Lib.hid hO
  replace CB := Lib.hid CB
  clear hin hin2 hE hO hm0 hm h
  obtain ⟨c0, c1, c2, -⟩ := HE.out.row.three
  go_enter Try.func28, Try.ntmps28
  go_wp2_with fail
  refine (CB.out _ HE.out.bel).mono ?_
  rintro e w1 ⟨rfl, hb1⟩
  have HE1 := Lib.hid (HE.out.next hb1)
  have HO1 := Lib.hid (HO.out.below hb1)
  clear hb1 c0 c1 c2 CB
  go_wp2_with fail
  go_ret2
  exact ⟨_, rfl, HO1.out, HE1.out.bel⟩


set_option maxRecDepth 4000 in
set_option maxHeartbeats 2000000 in
theorem catS_any (n : Nat) (ring : Bool) (p : Option Addr) (cap : Nat) (S : Nat → Bool) (q : Option Addr) (c : Nat) (l : List Nat) (w : World) (lo hi lo2 hi2 : Nat) (hin : Ri lo hi w p (ints (tk n S))) (h2 : 2 ≤ n) (hn : n ≤ 24) (hin2 : Ri lo2 hi2 w q (ints l)) (hl : ∀ x ∈ l, x < n) (hll : l.length ≤ 12) (hc : carsB n ring (ints (tk n S)) (ints l) = true) :
    Calls Try.prog 28 #[rowV n ring p (ints (tk n S)).length cap, .slice q (ints l).length c] w fun e w' => ∃ v, e = .returned (.tuple #[v, .bool true]) ∧ Out w.heap.size w' v (rgM n (catF n ring S l l.length)) ∧ Below w.heap.size w w' := by
  obtain ⟨i0, hi0, hz0, hz1, hz2⟩ := info_parts infoInt
  have hlen := ints_tk_len n S
  have hE := (RowE.start w n ring p (ints (tk n S)).length cap).next (ext1 _ E0)
  have hO := (Out.nilLit (w.alloc (.cells #[.int .i64 n, .bool ring, .slice p (ints (tk n S)).length cap] 26)))
  rw [show (w.alloc (.cells #[.int .i64 n, .bool ring, .slice p (ints (tk n S)).length cap] 26)).heap.size = w.heap.size + 1 by simp] at hO
  have CB := fun (w' : World) (h' : Below w.heap.size w w') => l6Cars_any n ring p cap (ints (tk n S)) q c (ints l) w' lo hi lo2 hi2 (hin.below h' hin.top) (by omega) (hin2.below h' hin2.top) (by rw [ints_length]; omega)
  have PK := fun (w' : World) (h' : Below w.heap.size w w') => l6Park_any n ring p cap S q c l 0 w' lo hi lo2 hi2 (hin.below h' hin.top) h2 hn (hin2.below h' hin2.top) hl hll (by omega)
  rw [hc] at CB
  have HLL := Lib.hid (pk_len n ring 0 S l l.length)
  have HPG : Hid (∀ j, j < l.length → (pkM n ring 0 S l l.length)[j]?.getD 0 = optI (carM n ring 0 S l j)) := by show ∀ _, _; intro j hj; exact pk_get hj
  have HI2 := Lib.hid (fun (w' : World) (h' : Below w.heap.size w w') => hin2.below h' hin2.top)
  obtain ⟨L, hL⟩ : ∃ L, pkM n ring 0 S l l.length = L := ⟨_, rfl⟩
  obtain ⟨T, hT⟩ : ∃ T, ints (tk n (stM n ring 0 S l l.length)) = T := ⟨_, rfl⟩
  rw [hL, hT] at PK
  rw [hL] at HLL HPG
  obtain ⟨tl, htl⟩ : ∃ tl, T.length = tl := ⟨_, rfl⟩
  have HTL := Lib.hid htl
  have HLS := Lib.hid hl
  have IS := fun (x : Nat) (hx : x < n) (w' : World) (h' : Below w.heap.size w w') => l2Is_any n ring p cap (ints (tk n S)) (x : Int) w' lo hi (hin.below h' hin.top) (by omega)
  have HT := Lib.hid (fun (x : Nat) (hx : x < n) => has_tk (S := S) hx)
  obtain ⟨FR, hFR⟩ : ∃ FR, rgM n (catF n ring S l l.length) = FR := ⟨_, rfl⟩
  rw [hFR]
  obtain ⟨m0, hm0⟩ : ∃ m, (ints (tk n S)).length = m := ⟨_, rfl⟩
  obtain ⟨m, hm⟩ : ∃ m, (ints l).length = m := ⟨_, rfl⟩
  have hml : l.length = m := by rw [← hm, ints_length]
  rw [hm0] at hE hO CB PK IS ⊢
  rw [hm] at CB PK ⊢
  rw [hml] at HLL hll HPG hFR
  have HM := Lib.hid hml
  have HE := Lib.hid hE
  replace CB := Lib.hid CB
  replace PK := Lib.hid PK
  have HO := Lib.hid hO
  have HFR := Lib.hid hFR
  replace IS := Lib.hid IS
  clear hin hin2 hE hO hm0 hm hml hL hT hc hl hlen htl
  obtain ⟨c0, c1, c2, -⟩ := HE.out.row.three
  go_enter Try.func28, Try.ntmps28
  go_wp2_with fail
  refine (CB.out _ HE.out.bel).mono ?_
  rintro e w1 ⟨rfl, hb1⟩
  have HE1 := Lib.hid (HE.out.next hb1)
  have HO1 : Hid (Out (w.heap.size + 1) w1 (.slice (some ⟨w.heap.size + 1, 0, none⟩) 0 0) (rgM 0 (catF n ring S l 0))) := HO.out.below hb1
  clear hb1 c0 c1 c2 CB HE HO
  go_wp2_with fail
  go_loopw [6, 7] (fun v i wr => ∃ (j : Nat), j ≤ n ∧ i = .int .i64 (j : Int) ∧ Hid (RowE w n ring p m0 cap wr) ∧ Hid (Out (w.heap.size + 1) wr v (rgM j (catF n ring S l 0)))) (fun _ i _ => n - (intOf i).toNat)
  case atStart => exact ⟨0, Nat.zero_le _, rfl, HE1, HO1⟩
  case round =>
    obtain ⟨j, hj, rfl, HE, HO⟩ := hrel
    clear HE1 HO1
    obtain ⟨c0, c1, c2, -⟩ := HE.out.row.three
    by_cases hlt : j < n
    · have hj1 : (j : Int) < (n : Int) := by omega
      have I0 := IS.out j hlt wr HE.out.bel
      rw [HT.out j hlt] at I0
      have hst := rg_succ j (catF n ring S l 0)
      have hcf : catF n ring S l 0 j = if S j then -1 else -2 := rfl
      have HL2 : Hid ((rgM j (catF n ring S l 0)).length ≤ j) := by show _ ≤ _; rw [rg_len]; exact Nat.le_refl _
      obtain ⟨B, hB⟩ : ∃ B, S j = B := ⟨_, rfl⟩
      rw [hB] at I0 hcf
      rw [hcf] at hst
      replace I0 := Lib.hid I0
      replace hst := Lib.hid hst
      clear hcf hB
      go_wp2_with fail
      refine I0.out.mono ?_
      rintro e w3 ⟨rfl, hb3⟩
      have HE3 := Lib.hid (HE.out.next hb3)
      have HO3 := Lib.hid (HO.out.below hb3)
      clear hb3 HE HO I0 c0 c1 c2
      cases B with
      | true =>
        have HT2 : Hid (rgM (j + 1) (catF n ring S l 0) = rgM j (catF n ring S l 0) ++ [(-1 : Int)]) := hst
        have hblk := Lib.hid (own_block HO3.out)
        have hrl := HE3.out.row.lt
        obtain ⟨l2, vs, hl2, hvs, hown⟩ := HO3.out.open'
        have hlk := HL2.out
        rw [hl2] at hlk
        replace hl2 := Lib.hid hl2
        replace hvs := Lib.hid hvs
        go_wp2_with (at_builtin; refine wpList_append_own _ rfl _ _ 22 rfl (w.heap.size + 1) 3 i0 (.int .i64 0) 1 8 Try.underlying22 hi0 hz0 hz1 hz2 rfl (by decide) _ _ _ rfl (hown.alloc _) ⟨w3.heap.size, 0, none⟩ 1 1 [.int .i64 ((-1 : Int))] rfl rfl (cell_one_new _ _ _) (fun x hx => by simp at hx; subst hx; rfl) (by unfold maxLen; omega) (by omega) (by simp; omega) ?_; intro v' w4 hown' hgrow4 hnil4)
        have hG : Below (w.heap.size + 1) w3 w4 := ((Below.refl (w.heap.size + 1) w3).alloc (by omega) _).grown hgrow4 (by simp; omega) hblk.out
        have HE4 := Lib.hid (HE3.out.next1 hG)
        have HO4 : Hid (Out (w.heap.size + 1) w4 v' (rgM (j + 1) (catF n ring S l 0))) := by
          show Out _ _ _ _
          rw [HT2.out]; exact Out.close hl2.out hvs.out hown'
        clear hown' hgrow4 hnil4 hown hG hblk HE3 HO3 hrl
        go_wp2
        go_roundw
        case rel => exact ⟨j + 1, by omega, by go_num, HE4, HO4⟩
        case measure => simp [intOf]; omega
      | false =>
        have HT2 : Hid (rgM (j + 1) (catF n ring S l 0) = rgM j (catF n ring S l 0) ++ [(-2 : Int)]) := hst
        have hblk := Lib.hid (own_block HO3.out)
        have hrl := HE3.out.row.lt
        obtain ⟨l2, vs, hl2, hvs, hown⟩ := HO3.out.open'
        have hlk := HL2.out
        rw [hl2] at hlk
        replace hl2 := Lib.hid hl2
        replace hvs := Lib.hid hvs
        go_wp2_with (at_builtin; refine wpList_append_own _ rfl _ _ 22 rfl (w.heap.size + 1) 3 i0 (.int .i64 0) 1 8 Try.underlying22 hi0 hz0 hz1 hz2 rfl (by decide) _ _ _ rfl (hown.alloc _) ⟨w3.heap.size, 0, none⟩ 1 1 [.int .i64 ((-2 : Int))] rfl rfl (cell_one_new _ _ _) (fun x hx => by simp at hx; subst hx; rfl) (by unfold maxLen; omega) (by omega) (by simp; omega) ?_; intro v' w4 hown' hgrow4 hnil4)
        have hG : Below (w.heap.size + 1) w3 w4 := ((Below.refl (w.heap.size + 1) w3).alloc (by omega) _).grown hgrow4 (by simp; omega) hblk.out
        have HE4 := Lib.hid (HE3.out.next1 hG)
        have HO4 : Hid (Out (w.heap.size + 1) w4 v' (rgM (j + 1) (catF n ring S l 0))) := by
          show Out _ _ _ _
          rw [HT2.out]; exact Out.close hl2.out hvs.out hown'
        clear hown' hgrow4 hnil4 hown hG hblk HE3 HO3 hrl
        go_wp2
        go_roundw
        case rel => exact ⟨j + 1, by omega, by go_num, HE4, HO4⟩
        case measure => simp [intOf]; omega
    · have hjn : j = n := by omega
      subst hjn
      have hj1 : ¬ (j : Int) < (j : Int) := by omega
      have HLR : Hid ((rgM j (catF j ring S l 0)).length = j) := rg_len _ _
      obtain ⟨g, cO, hvf⟩ := Go.Joins.ownsRow_form HO.out (by rw [HLR.out]; omega)
      subst hvf
      have HO1 := HO.out
      rw [HLR.out] at HO1 ⊢
      have HOg := Lib.hid HO1
      clear HO HO1
      go_wp2_with fail
      refine (PK.out _ HE.out.bel).mono ?_
      rintro e w2 ⟨v, u, rfl, hO, hU, hb2⟩
      obtain ⟨qu, cu, rfl, -⟩ := hU.rd
      rw [HTL.out] at hU ⊢
      obtain ⟨qv, cv, rfl, -, -, -, -⟩ := hO.rd
      rw [HLL.out] at hO ⊢
      obtain ⟨ww, hww⟩ : ∃ ww, w2.alloc (.cells #[.int .i64 (j : Int), .bool ring, .slice qu tl cu] 26) = ww := ⟨_, rfl⟩
      have hE2 := (HE.out.next hb2).next (ext1 w2 (.cells #[.int .i64 (j : Int), .bool ring, .slice qu tl cu] 26))
      have hV2 : Out wr.heap.size (w2.alloc (.cells #[.int .i64 (j : Int), .bool ring, .slice qu tl cu] 26)) (.slice qv m cv) L := World.ownsRow.alloc hO _
      have hO2 := Out.below (HOg.out.below hb2) (ext1 w2 (.cells #[.int .i64 (j : Int), .bool ring, .slice qu tl cu] 26))
      rw [hww] at hE2 hV2 hO2
      have HE2 := Lib.hid hE2
      have HV2 := Lib.hid hV2
      have HO2 := Lib.hid hO2
      have HGB := Lib.hid (own_block HOg.out g rfl)
      have HNN : Hid (¬ (Value.slice qv m cv).ownBlock = some g) := by
        show ¬ _
        intro hc
        have h1 := own_block hO g hc
        have h2 := (World.ownsRow.lt HOg.out g rfl).2
        omega
      have HW := Lib.hid hww
      clear hb2 c0 c1 c2 PK HE HOg hO hU hE2 hV2 hO2 hww IS HT
      go_upto_region 11 with fail
      rw [HW.out]
      go_wp2_with fail
      go_loopw [10] (fun i wx => ∃ (t : Nat), t ≤ m ∧ i = .int .i64 (t : Int) ∧ Hid (RowE w j ring p m0 cap wx) ∧ Hid (Out wr.heap.size wx (.slice qv m cv) L) ∧ Hid (Out (w.heap.size + 1) wx (.slice (some ⟨g, 0, none⟩) j cO) (rgM j (catF j ring S l t)))) (fun i _ => m - (intOf i).toNat)
      case atStart => exact ⟨0, Nat.zero_le _, rfl, HE2, HV2, HO2⟩
      case round =>
        obtain ⟨t, ht, rfl, HE, HV, HO⟩ := hrel
        clear HE2 HV2 HO2 HW
        by_cases hlt2 : t < m
        · have ht1 : (t : Int) < (m : Int) := by omega
          have ht0 : (0 : Int) ≤ (t : Int) := by omega
          have htl : t < l.length := by rw [HM.out]; exact hlt2
          have htL : t < L.length := by rw [HLL.out]; exact hlt2
          obtain ⟨bv, ov, e, -, -, -, hcv⟩ := (HV.out.riK).int (by omega)
          subst e
          have h1 := hcv t htL
          rw [HPG.out t hlt2] at h1
          have hcl := fun q => car_lt (ring := ring) (k := 0) (S := S) (j := t) (q := q) HLS.out htl
          have hcs := fun y => cat_some (n := j) (ring := ring) (S := S) (l := l) (j := t) (y := y)
          have hcn := cat_none (n := j) (ring := ring) (S := S) (l := l) (j := t)
          obtain ⟨C, hC⟩ : ∃ C, carM j ring 0 S l t = C := ⟨_, rfl⟩
          rw [hC] at h1 hcl hcn
          rw [hC] at hcs
          cases C with
          | none =>
            have HT2 := Lib.hid (hcn rfl)
            simp only [optI] at h1
            have ho := HO.out
            rw [← HT2.out] at ho
            have HO2 := Lib.hid ho
            clear hcv hcl hcs hcn hC ho HO
            go_wp2_with fail
            go_roundw
            case rel => exact ⟨t + 1, by omega, by go_num, HE, HV, HO2⟩
            case measure => simp [intOf]; omega
          | some y =>
            obtain ⟨hyn, -⟩ := hcl y rfl
            have HT2 := Lib.hid (hcs y rfl)
            simp only [optI] at h1
            obtain ⟨hc3, hf3, ho3⟩ := out_setAt HO.out y hyn (t : Int)
            rw [← HT2.out] at ho3
            have HO4 := Lib.hid ho3
            have HV4 := Lib.hid (HV.out.other (a := ⟨g, y, none⟩) HNN.out (.int .i64 (t : Int)))
            have HE4 := Lib.hid (HE.out.next1 ((Below.refl (w.heap.size + 1) _).setCell (p := ⟨g, y, none⟩) HGB.out (.int .i64 (t : Int))))
            have hy0 : (0 : Int) ≤ (y : Int) := by omega
            have hy1 : (y : Int) < (j : Int) := by omega
            clear hcv hcl hcs hcn hC ho3 HO HV HE
            go_wp2_with fail
            go_roundw
            case rel => exact ⟨t + 1, by omega, by go_num, HE4, HV4, HO4⟩
            case measure => simp [intOf]; omega
        · have htm : t = m := by omega
          subst htm
          have ht1 : ¬ (t : Int) < (t : Int) := by omega
          have hfr := HFR.out
          have ho := HO.out
          rw [hfr] at ho
          have HO2 := Lib.hid ho
          clear ho HO hfr HFR
          go_wp2_with fail
          go_ret2
          exact ⟨_, rfl, HO2.out.mono (Nat.le_succ _), HE.out.bel⟩
end Go.Proofs.Ytgalopbpbhlcdaa
