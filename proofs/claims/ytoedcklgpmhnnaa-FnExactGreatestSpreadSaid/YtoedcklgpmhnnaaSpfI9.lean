/- Chapter 9, impl side: impl.FirstSpaced, impl.GreatestSpread. -/
import Derived.Test.YtoedcklgpmhnnaaSpmI9
namespace Go.Proofs.Ytoedcklgpmhnnaa
open Go.RowKit

theorem out_take9 {B : Nat} {w : World} {q : Option Addr} {n c k : Nat} {xs : List Int} (h : Out B w (.slice q n c) xs) (hk : k ≤ n) : Out B w (.slice q k c) (xs.take k) := by
  obtain ⟨hl, h⟩ := h
  have hl' : n = xs.length := by
    rcases h with ⟨e, h0⟩ | ⟨g, cap, cur, e, -⟩
    · simp only [Value.slice.injEq] at e
      omega
    · simp only [Value.slice.injEq] at e
      exact e.2.1
  have e1 : iv (xs.take k) = (iv xs).take k := by unfold iv; rw [List.map_take]
  have e2 : (xs.take k).length = k := by rw [List.length_take]; omega
  show World.ownsRow _ _ _ _ _ (xs.take k).length (iv (xs.take k))
  refine ⟨by rw [iv_length]; omega, ?_⟩
  rw [e1, e2]
  rcases h with ⟨e, h0⟩ | ⟨g, cap, cur, e, hB, hh, hn, hc, hs, ht⟩
  · simp only [Value.slice.injEq] at e
    obtain ⟨rfl, h1, rfl⟩ := e
    have hk0 : k = 0 := by omega
    subst hk0
    exact .inl ⟨rfl, rfl⟩
  · simp only [Value.slice.injEq] at e
    obtain ⟨rfl, h1, rfl⟩ := e
    refine .inr ⟨g, c, cur, rfl, hB, hh, by omega, hc, hs, ?_⟩
    rw [Nat.mul_one] at ht ⊢
    rw [← ht, List.take_take, Nat.min_eq_left (by omega)]
theorem fst_drop {n : Nat} {ring : Bool} {D k : Nat} {l : List Nat} {j : Nat} (h : j < l.length) : fstM n ring D k (l.drop j) = if k ≤ (grg n ring D (l.drop j)).length then (grg n ring D (l.drop j)).take k else fstM n ring D k (l.drop (j + 1)) := by
  rw [List.drop_eq_getElem_cons h]
  rfl
/-- the first spaced choice, or none -/
def fspR (n : Nat) (ring : Bool) (S : Nat → Bool) (D k : Nat) : List Nat := if k ≤ mxSp n ring D (opn n ring S D) then fstM n ring D k (opn n ring S D) else []

set_option maxHeartbeats 1000000 in
theorem firstSpacedI_bad (s : Int) (ring : Bool) (p : Option Addr) (cap : Nat) (xs : List Int) (k d : Int) (w : World) (lo hi : Nat) (hin : Ri lo hi w p xs) (hlen : xs.length ≤ 1048576) (hr : ((rowB s ring xs && decide (1 ≤ d)) && decide (0 ≤ k)) = false) :
    Calls Try.prog 19 #[rowV s ring p xs.length cap, .int .i64 k, .int .i64 d] w fun e w' => ∃ v0, e = .returned (.tuple #[v0, .bool false]) ∧ Out w.heap.size w' v0 [] ∧ Below w.heap.size w w' := by
  have hB := box_below w s ring p xs.length cap 28
  have I := canSpace_any s ring p cap xs d _ lo hi (hin.below hB hin.top) hlen
  obtain ⟨A, hA⟩ : ∃ A, (rowB s ring xs && decide (1 ≤ d)) = A := ⟨_, rfl⟩
  rw [hA] at I hr
  replace I := Lib.hid I
  obtain ⟨m0, hm0⟩ : ∃ m, xs.length = m := ⟨_, rfl⟩
  rw [hm0] at hB I ⊢
  have HB := Lib.hid hB
  clear hin hm0 hlen hB hA
  cases A with
  | false =>
    clear hr
    go_enter Try.func19, Try.ntmps19
    go_wp2_with fail
    refine I.out.mono ?_
    rintro e w2 ⟨rfl, hb2⟩
    have HB2 := Lib.hid (HB.out.trans (hb2.mono HB.out.size))
    have HBZ := Lib.hid (HB2.out.alloc HB2.out.size (.cells #[] 3))
    have HOZ := Lib.hid ((Out.nilLit w2).mono HB2.out.size)
    clear I HB hb2
    go_wp2_with fail
    go_ret2
    exact ⟨_, rfl, HOZ.out, HBZ.out⟩
  | true =>
    have hk : k < 0 := by simpa using hr
    clear hr
    go_enter Try.func19, Try.ntmps19
    go_wp2_with fail
    refine I.out.mono ?_
    rintro e w2 ⟨rfl, hb2⟩
    have HB2 := Lib.hid (HB.out.trans (hb2.mono HB.out.size))
    have HBZ := Lib.hid (HB2.out.alloc HB2.out.size (.cells #[] 3))
    have HOZ := Lib.hid ((Out.nilLit w2).mono HB2.out.size)
    clear I HB hb2
    go_wp2_with fail
    go_ret2
    exact ⟨_, rfl, HOZ.out, HBZ.out⟩

set_option maxRecDepth 4000 in
set_option maxHeartbeats 2000000 in
theorem firstSpacedI_any (n : Nat) (ring : Bool) (p : Option Addr) (cap : Nat) (S : Nat → Bool) (K D : Nat) (w : World) (lo hi : Nat) (hin : Ri lo hi w p (ints (tk n S))) (hr : rowB n ring (ints (tk n S)) = true) (hD : 1 ≤ D) :
    Calls Try.prog 19 #[rowV n ring p (ints (tk n S)).length cap, .int .i64 (K : Int), .int .i64 (D : Int)] w fun e w' => ∃ v0, e = .returned (.tuple #[v0, .bool (decide (K ≤ mxSp n ring D (opn n ring S D)))]) ∧ Out w.heap.size w' v0 (ints (fspR n ring S D K)) ∧ Below w.heap.size w w' := by
  obtain ⟨h2, hn, h3⟩ := row_parts9 hr
  have hlen := ints_tk_len n S
  have hX := OwnArr.made w 28 [Value.int .i64 n, Value.bool ring, Value.slice p (ints (tk n S)).length cap]
  have hB := box_below w n ring p (ints (tk n S)).length cap 28
  have I := canSpace_any n ring p cap (ints (tk n S)) D _ lo hi (hin.below hB hin.top) (by omega)
  rw [hr, decide_eq_true (by omega : (1 : Int) ≤ (D : Int))] at I
  replace I := Lib.hid I
  have SP := Lib.hid (fun (w' : World) (h' : Below w.heap.size w w') => spacingOf_any n ring p cap S D w' lo hi (hin.below h' hin.top) h2 hn h3)
  have hol : (opn n ring S D).length ≤ 24 := Nat.le_trans (tk_length_le n _) hn
  have holt : ∀ x ∈ opn n ring S D, x < n := opn_lt
  obtain ⟨l, hl⟩ : ∃ l, opn n ring S D = l := ⟨_, rfl⟩
  rw [hl] at SP hol holt ⊢
  have hfr : fspR n ring S D K = if K ≤ mxSp n ring D l then fstM n ring D K l else [] := by unfold fspR; rw [hl]
  rw [hfr]
  obtain ⟨R, hR0⟩ : ∃ R, (if K ≤ mxSp n ring D l then fstM n ring D K l else []) = R := ⟨_, rfl⟩
  obtain ⟨T, hT0⟩ : ∃ T, decide (K ≤ mxSp n ring D l) = T := ⟨_, rfl⟩
  have HR0 : Hid (((if K ≤ mxSp n ring D (l.drop 0) then fstM n ring D K (l.drop 0) else []) = R) ∧ decide (K ≤ mxSp n ring D (l.drop 0)) = T) := ⟨by rw [List.drop_zero]; exact hR0, by rw [List.drop_zero]; exact hT0⟩
  rw [hR0, hT0]
  have HLT := Lib.hid holt
  obtain ⟨m, hm⟩ : ∃ m, (ints (tk n S)).length = m := ⟨_, rfl⟩
  rw [hm] at hX hB I SP ⊢
  have HX := Lib.hid hX
  have HB := Lib.hid hB
  obtain ⟨c0, c1, c2, -⟩ := HX.out.three
  clear hin hm hlen hX hB hr hR0 hT0 hl holt h3 hfr
  go_enter Try.func19, Try.ntmps19
  go_wp2_with fail
  refine I.out.mono ?_
  rintro e w2 ⟨rfl, hb2⟩
  have HB2 := Lib.hid (HB.out.trans (hb2.mono HB.out.size))
  have HX2 := Lib.hid (HX.out.below hb2 HX.out.lt)
  clear I HB hb2 HX c0 c1 c2
  obtain ⟨c0, c1, c2, -⟩ := HX2.out.three
  go_wp2_with fail
  refine (SP.out _ HB2.out).mono ?_
  rintro e w3 ⟨v, rfl, hO, hb3⟩
  have HOF := Lib.hid hO
  obtain ⟨qv, kv, rfl, hk1, hk2, hR, -⟩ := hO.rd
  rw [ints_length] at hk1
  have HB3 := Lib.hid (HB2.out.trans (hb3.mono HB2.out.size))
  have hq := out_form9 HOF.out
  have hil := ints_length l
  rw [hil]
  obtain ⟨k, hk⟩ : ∃ k, l.length = k := ⟨_, rfl⟩
  rw [hk] at hk1 hol ⊢
  have HK := Lib.hid hk
  have HXS := Lib.hid (OwnArr.made w3 49 [.int .i64 n, .bool ring, .slice p m cap, .int .i64 D, .slice qv k kv])
  have HBS := Lib.hid (HB3.out.alloc HB3.out.size (.cells #[.int .i64 n, .bool ring, .slice p m cap, .int .i64 D, .slice qv k kv] 49))
  have ERL : Hid (∀ (j : Nat), j ≤ k → ∀ w', Below w3.heap.size w3 w' → Calls Try.prog 43 #[spcV n ring p m cap D qv k kv, .int .i64 (j : Int)] w' fun e w'' => ∃ v, e = .returned v ∧ Out w'.heap.size w'' v (ints (grg n ring D (l.drop j))) ∧ Below w'.heap.size w' w'') := by
    show ∀ _, _
    intro j hj w' h'
    exact earliest_any n ring p m cap D qv k kv j l w' _ _ (hR.below h' hR.top) HLT.out hk hol hk1 hk2 hj hn hD hq
  have HBZ : Hid (Below w3.heap.size w3 (w3.alloc (.cells #[.int .i64 n, .bool ring, .slice p m cap, .int .i64 D, .slice qv k kv] 49))) := by
    show Below _ _ _
    exact (Below.refl _ _).alloc (Nat.le_refl _) _
  have HMX : Hid (∀ j, j < k → mxSp n ring D (l.drop j) = max (grg n ring D (l.drop j)).length (mxSp n ring D (l.drop (j + 1)))) := fun j hj => mx_drop (by rw [hk]; exact hj)
  have HFD : Hid (∀ j, j < k → fstM n ring D K (l.drop j) = if K ≤ (grg n ring D (l.drop j)).length then (grg n ring D (l.drop j)).take K else fstM n ring D K (l.drop (j + 1))) := fun j hj => fst_drop (by rw [hk]; exact hj)
  have HFE : Hid (fstM n ring D K (l.drop k) = []) := by
    show _ = _
    rw [List.drop_of_length_le (by omega)]; rfl
  have HGE : Hid (grg n ring D (l.drop k) = []) := by
    show _ = _
    rw [List.drop_of_length_le (by omega)]; exact grg_nil _ _ _
  have HME : Hid (mxSp n ring D (l.drop k) = 0) := by
    show _ = _
    rw [List.drop_of_length_le (by omega)]; rfl
  have HBB : Hid (∀ w', Below w3.heap.size w3 w' → w3.heap.size ≤ w'.heap.size) := fun w' h => by have := h.size; omega
  have hwb : w.heap.size ≤ w3.heap.size := by have := HB3.out.size; omega
  have HW3 : Hid (∀ w', Below w3.heap.size w3 w' → Below w.heap.size w w') := fun w' h => HB3.out.trans (h.mono hwb)
  clear hb3 hO hR hk hil HOF HB2 HX2 c0 c1 c2 SP hq HB3 HBS
  obtain ⟨c0, c1, c2, c3, c4⟩ := HXS.out.five
  have hk1i : (k : Int) + 1 = ((k + 1 : Nat) : Int) := by omega
  obtain ⟨k1, hk1'⟩ : ∃ x, k + 1 = x := ⟨_, rfl⟩
  rw [hk1'] at hk1i
  have hwk1 : IntKind.i64.wrap (k1 : Int) = (k1 : Int) := IntWalk.i64_in _ (by omega)
  have HKE := Lib.hid hk1'
  have hk125 : k1 ≤ 25 := by omega
  clear hk1'
  go_wp2_with fail
  clear c0 c1 c2 c3 c4
  go_loopw [9, 10, 27] (fun _ _ i wr => ∃ (j : Nat), j ≤ k1 ∧ i = .int .i64 (j : Int) ∧ Hid (j ≤ k → ((if K ≤ mxSp n ring D (l.drop j) then fstM n ring D K (l.drop j) else []) = R) ∧ decide (K ≤ mxSp n ring D (l.drop j)) = T) ∧ Hid (j = k1 → R = [] ∧ T = false) ∧ Hid (OwnArr wr w3.heap.size 49 [.int .i64 n, .bool ring, .slice p m cap, .int .i64 D, .slice qv k kv]) ∧ Hid (Below w3.heap.size w3 wr)) (fun _ _ i _ => k1 - (intOf i).toNat)
  case atStart => exact ⟨0, Nat.zero_le _, rfl, Lib.hid (fun _ => HR0.out), Lib.hid (fun h => by have := HKE.out; omega), HXS, HBZ⟩
  case round =>
    obtain ⟨j, hj, rfl, HRL, HEN, HX, HB⟩ := hrel
    clear HR0 HXS HBZ
    obtain ⟨c0, c1, c2, c3, c4⟩ := HX.out.five
    by_cases hlt : j < k1
    · have hj1 : (j : Int) < (k1 : Int) := by omega
      have hjk : j ≤ k := by have := HKE.out; omega
      have E := ERL.out j hjk wr HB.out
      obtain ⟨hr1, hr2⟩ := HRL.out hjk
      have hcase : (K ≤ (grg n ring D (l.drop j)).length → (grg n ring D (l.drop j)).take K = R ∧ T = true) ∧ (¬ K ≤ (grg n ring D (l.drop j)).length → (j + 1 ≤ k → ((if K ≤ mxSp n ring D (l.drop (j + 1)) then fstM n ring D K (l.drop (j + 1)) else []) = R) ∧ decide (K ≤ mxSp n ring D (l.drop (j + 1))) = T) ∧ (j + 1 = k1 → R = [] ∧ T = false)) := by
        by_cases hjlt : j < k
        · rw [HMX.out j hjlt, HFD.out j hjlt] at hr1
          rw [HMX.out j hjlt] at hr2
          constructor
          · intro h
            rw [if_pos (by omega), if_pos h] at hr1
            rw [decide_eq_true (by omega)] at hr2
            exact ⟨hr1, hr2.symm⟩
          · intro h
            rw [if_neg h] at hr1
            have e : (K ≤ max (grg n ring D (l.drop j)).length (mxSp n ring D (l.drop (j + 1)))) ↔ K ≤ mxSp n ring D (l.drop (j + 1)) := by omega
            refine ⟨fun _ => ⟨?_, ?_⟩, fun h5 => by have := HKE.out; omega⟩
            · rw [← hr1]
              by_cases h6 : K ≤ mxSp n ring D (l.drop (j + 1))
              · rw [if_pos h6, if_pos (e.2 h6)]
              · rw [if_neg h6, if_neg (fun h7 => h6 (e.1 h7))]
            · rw [← hr2]
              exact decide_eq_decide.2 e.symm
        · have hje : j = k := by omega
          subst hje
          rw [HME.out, HFE.out] at hr1
          rw [HME.out] at hr2
          rw [HGE.out]
          constructor
          · intro h
            have h0 : K = 0 := by simpa using h
            subst h0
            rw [if_pos (Nat.le_refl _)] at hr1
            rw [decide_eq_true (Nat.le_refl _)] at hr2
            exact ⟨by rw [← hr1]; rfl, hr2.symm⟩
          · intro h
            have h0 : ¬ K ≤ 0 := by simpa using h
            rw [if_neg h0] at hr1
            rw [decide_eq_false h0] at hr2
            exact ⟨fun h5 => by omega, fun _ => ⟨hr1.symm, hr2.symm⟩⟩
      obtain ⟨gl, hgl⟩ : ∃ g, grg n ring D (l.drop j) = g := ⟨_, rfl⟩
      rw [hgl] at E hcase
      have hil := ints_length gl
      replace E := Lib.hid E
      have HCA := Lib.hid hcase
      have htk : Hid (ints (gl.take K) = (ints gl).take K) := by show ints _ = _; unfold ints; rw [List.map_take]
      clear hcase hgl HRL HEN hr1 hr2
      go_wp2_with fail
      refine E.out.mono ?_
      rintro e w4 ⟨v, rfl, hO, hb4⟩
      have HO := Lib.hid hO
      obtain ⟨q4, k4, rfl, hk41, hk42, -⟩ := hO.rd
      have HX4 := Lib.hid (HX.out.below hb4 HX.out.lt)
      have HB4 := Lib.hid (HB.out.trans (hb4.mono (HBB.out _ HB.out)))
      have hwr := HBB.out _ HB.out
      rw [hil] at HO hk41 ⊢
      obtain ⟨y, hy⟩ : ∃ y, gl.length = y := ⟨_, rfl⟩
      rw [hy] at HCA HO hk41 ⊢
      clear hO hb4 E c0 c1 c2 c3 c4 HX HB hil hy
      by_cases hay : K ≤ y
      · have hay1 : (K : Int) ≤ (y : Int) := by omega
        have hay2 : (K : Int) ≤ (k4 : Int) := by omega
        have hay3 : (y : Int) ≤ (k4 : Int) := by omega
        have hK0 : (0 : Int) ≤ (K : Int) := by omega
        obtain ⟨h5, h6⟩ := HCA.out.1 hay
        have ho := out_take9 HO.out hay
        rw [← htk.out, h5] at ho
        have HOF := Lib.hid (ho.mono (by omega : w.heap.size ≤ _))
        have HBF := Lib.hid (HW3.out _ HB4.out)
        have hfm := out_form9 HO.out
        clear HCA ho h5 htk
        subst h6
        rcases hfm with ⟨rfl, rfl⟩ | ⟨b4, off4, rfl⟩
        · go_wp2_with fail
          go_ret2
          exact ⟨_, rfl, HOF.out, HBF.out⟩
        · go_wp2_with fail
          go_ret2
          exact ⟨_, rfl, HOF.out, HBF.out⟩
      · have hay1 : ¬ (K : Int) ≤ (y : Int) := by omega
        obtain ⟨h5, h6⟩ := HCA.out.2 hay
        have HRL2 := Lib.hid h5
        have HEN2 := Lib.hid h6
        clear HCA h5 h6 HO
        go_wp2_with fail
        go_roundw
        case rel => exact ⟨j + 1, by omega, by go_num, HRL2, HEN2, HX4, HB4⟩
        case measure => simp [intOf]; omega
    · have hjk : j = k1 := by omega
      obtain ⟨h5, h6⟩ := HEN.out hjk
      have hj1 : ¬ (j : Int) < (k1 : Int) := by omega
      have HBF := Lib.hid ((HW3.out _ HB.out).alloc (HW3.out _ HB.out).size (.cells #[] 3))
      have HOF : Hid (Out w.heap.size (wr.alloc (.cells #[] 3)) (.slice (some ⟨wr.heap.size, 0, none⟩) 0 0) (ints [])) := (Out.nilLit wr).mono (HW3.out _ HB.out).size
      clear hjk HRL HEN
      subst h5 h6
      go_wp2_with fail
      go_ret2
      exact ⟨_, rfl, HOF.out, HBF.out⟩

set_option maxHeartbeats 1000000 in
theorem greatestI_bad (s : Int) (ring : Bool) (p : Option Addr) (cap : Nat) (xs : List Int) (k : Int) (w : World) (lo hi : Nat) (hin : Ri lo hi w p xs) (hlen : xs.length ≤ 1048576) (hr : (rowB s ring xs && decide (1 ≤ k)) = false) :
    Calls Try.prog 26 #[rowV s ring p xs.length cap, .int .i64 k] w fun e w' => e = .returned (.tuple #[.int .i64 0, .bool false]) ∧ Below w.heap.size w w' := by
  have hB := box_below w s ring p xs.length cap 28
  have I := isRow_any s ring p cap xs _ lo hi (hin.below hB hin.top) hlen
  obtain ⟨A, hA⟩ : ∃ A, rowB s ring xs = A := ⟨_, rfl⟩
  rw [hA] at I hr
  replace I := Lib.hid I
  obtain ⟨m0, hm0⟩ : ∃ m, xs.length = m := ⟨_, rfl⟩
  rw [hm0] at hB I ⊢
  have HB := Lib.hid hB
  clear hin hm0 hlen hB hA
  cases A with
  | false =>
    clear hr
    go_enter Try.func26, Try.ntmps26
    go_wp2_with fail
    refine I.out.mono ?_
    rintro e w2 ⟨rfl, hb2⟩
    have HB2 := Lib.hid (HB.out.trans (hb2.mono HB.out.size))
    clear I HB hb2
    go_wp2_with fail
    go_ret2
    exact ⟨rfl, HB2.out⟩
  | true =>
    have hk : k < 1 := by simpa using hr
    clear hr
    go_enter Try.func26, Try.ntmps26
    go_wp2_with fail
    refine I.out.mono ?_
    rintro e w2 ⟨rfl, hb2⟩
    have HB2 := Lib.hid (HB.out.trans (hb2.mono HB.out.size))
    clear I HB hb2
    go_wp2_with fail
    go_ret2
    exact ⟨rfl, HB2.out⟩

theorem gsp_hit {n : Nat} {ring : Bool} {S : Nat → Bool} {k d : Nat} (h1 : 1 ≤ d) (hd : d ≤ n) (hy : k ≤ mxSp n ring d (opn n ring S d)) (hno : ∀ j, d < j → j ≤ n → ¬ k ≤ mxSp n ring j (opn n ring S j)) : topM (fun d => decide (k ≤ mxSp n ring d (opn n ring S d))) n = d ∧ decide (k ≤ mxSp n ring 1 (opn n ring S 1)) = true :=
  ⟨top_is hd (fun _ => decide_eq_true hy) (fun j hj hj2 => decide_eq_false (hno j hj hj2)), decide_eq_true (Nat.le_trans hy (mxSp_mono (Nat.le_refl _) h1))⟩
theorem gsp_miss {n : Nat} {ring : Bool} {S : Nat → Bool} {k : Nat} (hn : 1 ≤ n) (hno : ∀ j, 0 < j → j ≤ n → ¬ k ≤ mxSp n ring j (opn n ring S j)) : topM (fun d => decide (k ≤ mxSp n ring d (opn n ring S d))) n = 0 ∧ decide (k ≤ mxSp n ring 1 (opn n ring S 1)) = false :=
  ⟨top_is (Nat.zero_le _) (fun h => by omega) (fun j hj hj2 => decide_eq_false (hno j hj hj2)), decide_eq_false (hno 1 (by omega) hn)⟩

set_option maxRecDepth 4000 in
set_option maxHeartbeats 2000000 in
theorem greatestI_any (n : Nat) (ring : Bool) (p : Option Addr) (cap : Nat) (S : Nat → Bool) (K : Nat) (w : World) (lo hi : Nat) (hin : Ri lo hi w p (ints (tk n S))) (hr : rowB n ring (ints (tk n S)) = true) (hK : 1 ≤ K) :
    Calls Try.prog 26 #[rowV n ring p (ints (tk n S)).length cap, .int .i64 (K : Int)] w fun e w' => e = .returned (.tuple #[.int .i64 ((topM (fun d => decide (K ≤ mxSp n ring d (opn n ring S d))) n : Nat) : Int), .bool (decide (K ≤ mxSp n ring 1 (opn n ring S 1)))]) ∧ Below w.heap.size w w' := by
  obtain ⟨h2, hn, -⟩ := row_parts9 hr
  have hlen := ints_tk_len n S
  have hX := OwnArr.made w 28 [Value.int .i64 n, Value.bool ring, Value.slice p (ints (tk n S)).length cap]
  have hB := box_below w n ring p (ints (tk n S)).length cap 28
  have I := isRow_any n ring p cap (ints (tk n S)) _ lo hi (hin.below hB hin.top) (by omega)
  rw [hr] at I
  replace I := Lib.hid I
  have FS := Lib.hid (fun (d : Nat) (hd : 1 ≤ d) (w' : World) (h' : Below w.heap.size w w') => firstSpacedI_any n ring p cap S K d w' lo hi (hin.below h' hin.top) hr hd)
  have HIT := Lib.hid (fun d h1 hd hy hno => gsp_hit (n := n) (ring := ring) (S := S) (k := K) (d := d) h1 hd hy hno)
  have MIS := Lib.hid (fun hno => gsp_miss (n := n) (ring := ring) (S := S) (k := K) (by omega) hno)
  obtain ⟨R, hR0⟩ : ∃ R, topM (fun d => decide (K ≤ mxSp n ring d (opn n ring S d))) n = R := ⟨_, rfl⟩
  obtain ⟨T, hT0⟩ : ∃ T, decide (K ≤ mxSp n ring 1 (opn n ring S 1)) = T := ⟨_, rfl⟩
  rw [hR0, hT0] at MIS ⊢
  simp only [hR0, hT0] at HIT
  obtain ⟨m, hm⟩ : ∃ m, (ints (tk n S)).length = m := ⟨_, rfl⟩
  rw [hm] at hX hB I FS ⊢
  have HX := Lib.hid hX
  have HB := Lib.hid hB
  have hki : ¬ (K : Int) < 1 := by omega
  obtain ⟨c0, c1, c2, -⟩ := HX.out.three
  clear hin hm hlen hX hB hr hR0 hT0
  go_enter Try.func26, Try.ntmps26
  go_wp2_with fail
  refine I.out.mono ?_
  rintro e w2 ⟨rfl, hb2⟩
  have HB2 := Lib.hid (HB.out.trans (hb2.mono HB.out.size))
  have HX2 := Lib.hid (HX.out.below hb2 HX.out.lt)
  clear I HB hb2 HX c0 c1 c2
  obtain ⟨c0, c1, c2, -⟩ := HX2.out.three
  go_wp2_with fail
  clear c0 c1 c2
  go_loopw [6, 7, 8] (fun d _ _ wr => ∃ (j : Nat), j ≤ n ∧ d = .int .i64 (j : Int) ∧ Hid (∀ i, j < i → i ≤ n → ¬ K ≤ mxSp n ring i (opn n ring S i)) ∧ Hid (OwnArr wr w.heap.size 28 [.int .i64 n, .bool ring, .slice p m cap]) ∧ Hid (Below w.heap.size w wr)) (fun d _ _ _ => (intOf d).toNat)
  case atStart => exact ⟨n, Nat.le_refl _, rfl, Lib.hid (fun i h1 h2 => absurd h1 (by omega)), HX2, HB2⟩
  case round =>
    obtain ⟨j, hj, rfl, HN, HX, HB⟩ := hrel
    clear HX2 HB2
    obtain ⟨c0, c1, c2, -⟩ := HX.out.three
    by_cases h0 : 1 ≤ j
    · have hj1 : (1 : Int) ≤ (j : Int) := by omega
      have hwj : IntKind.i64.wrap ((j : Int) - 1) = (j : Int) - 1 := IntWalk.i64_in _ (by omega)
      have F := FS.out j h0 wr HB.out
      have hit := HIT.out j h0 hj
      obtain ⟨b, hb⟩ : ∃ b, decide (K ≤ mxSp n ring j (opn n ring S j)) = b := ⟨_, rfl⟩
      rw [hb] at F
      have HBB := Lib.hid hb
      have HHT := Lib.hid hit
      replace F := Lib.hid F
      clear hb hit
      go_wp2_with fail
      refine F.out.mono ?_
      rintro e w4 ⟨v, rfl, -, hb4⟩
      have HX4 := Lib.hid (HX.out.below hb4 HX.out.lt)
      have HB4 := Lib.hid (HB.out.trans (hb4.mono HB.out.size))
      clear hb4 F c0 c1 c2 HX HB
      cases b with
      | true =>
        obtain ⟨h5, h6⟩ := HHT.out (of_decide_eq_true HBB.out) HN.out
        clear HHT HBB HN
        subst h6
        subst h5
        go_wp2_with fail
        go_ret2
        exact ⟨rfl, HB4.out⟩
      | false =>
        have HN2 : Hid (∀ i, j - 1 < i → i ≤ n → ¬ K ≤ mxSp n ring i (opn n ring S i)) := by
          show ∀ _, _
          intro i h1 h2
          by_cases e : i = j
          · subst e; exact of_decide_eq_false HBB.out
          · exact HN.out i (by omega) h2
        clear HHT HBB HN
        go_wp2_with fail
        go_roundw
        case rel => exact ⟨j - 1, by omega, by have : ((j - 1 : Nat) : Int) = (j : Int) - 1 := by omega
                                               rw [this], HN2, HX4, HB4⟩
        case measure => simp [intOf]; omega
    · have hj0 : j = 0 := by omega
      have hj1 : ¬ (1 : Int) ≤ (j : Int) := by omega
      obtain ⟨h5, h6⟩ := MIS.out (fun i h1 h2 => HN.out i (by omega) h2)
      clear hj0 HN
      subst h6
      subst h5
      go_wp2_with fail
      go_ret2
      exact ⟨rfl, HB.out⟩
end Go.Proofs.Ytoedcklgpmhnnaa
