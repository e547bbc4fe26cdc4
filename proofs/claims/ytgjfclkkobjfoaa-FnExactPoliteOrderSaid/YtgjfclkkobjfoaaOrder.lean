/- spec.PoliteOrder and impl.PoliteOrder, for every Row. -/
import Derived.Test.YtgjfclkkobjfoaaWel
import Derived.Test.YtgjfclkkobjfoaaWith
import Derived.Test.YtgjfclkkobjfoaaNext
namespace Go.Proofs.Ytgjfclkkobjfoaa
open Go.RowKit

theorem Rd.grown {lo hi : Nat} {w w' : World} {q : Option Addr} {vs : List Value} {row : Option Nat} (h : Rd lo hi w q vs) (hg : w.grownBy w' row) (hr : ∀ k, row = some k → k < lo ∨ hi ≤ k) : Rd lo hi w' q vs := by
  refine ⟨Nat.le_trans h.top hg.size, fun h0 => ?_⟩
  obtain ⟨b, off, e, h1, h2, hc⟩ := h.cells h0
  refine ⟨b, off, e, h1, h2, fun i hi' => ?_⟩
  have := hc i hi'
  rw [List.getElem?_eq_getElem hi'] at this ⊢
  exact hg.cell this (fun e => by have := hr b e.symm; omega)

set_option maxHeartbeats 800000 in
theorem orderS_bad (s : Int) (ring : Bool) (p : Option Addr) (cap : Nat) (xs : List Int) (w : World) (lo hi : Nat) (hin : Ri lo hi w p xs) (hlen : xs.length ≤ 1048576) (hr : rowB s ring xs = false) :
    Calls Try.prog 26 #[rowV s ring p xs.length cap] w fun e w' => ∃ v, e = .returned (.tuple #[v, .bool false]) ∧ Out w.heap.size w' v [] ∧ Below w.heap.size w w' := by
  obtain ⟨w0, hw0⟩ : ∃ w0, (w.alloc (.cells #[Value.int .i64 s, Value.bool ring, Value.slice p xs.length cap] 28)).alloc (.cells #[] 3) = w0 := ⟨_, rfl⟩
  have hB : Below w.heap.size w w0 := by rw [← hw0]; exact ((Below.refl w.heap.size w).alloc (Nat.le_refl _) _).alloc (by simp) _
  have hO : Out w.heap.size w0 (.slice (some ⟨w.heap.size + 1, 0, none⟩) 0 0) [] := by
    have h := Out.nilLit (w.alloc (.cells #[Value.int .i64 s, Value.bool ring, Value.slice p xs.length cap] 28))
    have hs : (w.alloc (.cells #[Value.int .i64 s, Value.bool ring, Value.slice p xs.length cap] 28)).heap.size = w.heap.size + 1 := by simp
    rw [hs, hw0] at h
    exact h.mono (Nat.le_succ _)
  have I := Lib.hid (l2Row_any s ring p cap xs w0 lo hi (hin.bel hB) hlen)
  rw [hr] at I
  have HB := Lib.hid hB
  have HO := Lib.hid hO
  have HW := Lib.hid hw0
  clear hB hO hw0 hin hr
  go_enter Try.func26, Try.ntmps26
  go_wp2_with fail
  rw [HW.out]
  refine I.out.mono ?_
  rintro e w1 ⟨rfl, hb1⟩
  have HO1 := Lib.hid (HO.out.below hb1)
  have HB1 := Lib.hid (HB.out.trans (hb1.mono HB.out.size))
  clear I HB HO hb1
  go_wp2_with fail
  go_ret2
  exact ⟨_, rfl, HO1.out, HB1.out⟩

set_option maxHeartbeats 800000 in
theorem orderI_bad (s : Int) (ring : Bool) (p : Option Addr) (cap : Nat) (xs : List Int) (w : World) (lo hi : Nat) (hin : Ri lo hi w p xs) (hlen : xs.length ≤ 1048576) (hr : rowB s ring xs = false) :
    Calls Try.prog 27 #[rowV s ring p xs.length cap] w fun e w' => ∃ v, e = .returned (.tuple #[v, .bool false]) ∧ Out w.heap.size w' v [] ∧ Below w.heap.size w w' := by
  have hb := box_below w s ring p xs.length cap 28
  have I := Lib.hid (isRow_any s ring p cap xs _ lo hi (hin.bel hb) hlen)
  rw [hr] at I
  have HB := Lib.hid hb
  clear hb hin hr
  go_enter Try.func27, Try.ntmps27
  go_wp2_with fail
  refine I.out.mono ?_
  rintro e w1 ⟨rfl, hb1⟩
  have HB1 := HB.out.trans (hb1.mono HB.out.size)
  clear I HB hb1
  go_wp2_with fail
  go_ret2
  exact ⟨_, rfl, (Out.nilLit w1).mono HB1.size, HB1.alloc HB1.size _⟩

set_option maxHeartbeats 1000000 in
theorem orderI_any (n : Nat) (ring : Bool) (p : Option Addr) (cap : Nat) (S : Nat → Bool) (w : World) (lo hi : Nat) (hin : Ri lo hi w p (ints (tk n S))) (h2 : 2 ≤ n) (hn : n ≤ 24) (h3 : ring = true → 3 ≤ n) :
    Calls Try.prog 27 #[rowV n ring p (ints (tk n S)).length cap] w fun e w' => ∃ v, e = .returned (.tuple #[v, .bool true]) ∧ Out w.heap.size w' v (ints (ordM n ring 0 24 S)) ∧ Below w.heap.size w w' := by
  have hlen := ints_tk_len n S
  have hb := box_below w n ring p (ints (tk n S)).length cap 28
  have I := Lib.hid (isRow_any n ring p cap (ints (tk n S)) _ lo hi (hin.bel hb) (by omega))
  rw [rowB_of h2 hn h3] at I
  have WE := Lib.hid (fun (w' : World) (h' : Below w.heap.size w w') => welcome_any n ring p cap S 24 0 w' lo hi (hin.below h' hin.top) h2 hn h3 (by omega) (by omega))
  obtain ⟨L, hL⟩ : ∃ L, ints (ordM n ring 0 24 S) = L := ⟨_, rfl⟩
  rw [hL] at WE ⊢
  obtain ⟨m, hm⟩ : ∃ m, (ints (tk n S)).length = m := ⟨_, rfl⟩
  rw [hm] at hb I WE ⊢
  have HX := Lib.hid (OwnArr.made w 28 [.int .i64 n, .bool ring, .slice p m cap])
  have HB := Lib.hid hb
  clear hb hin hlen h3 hL hm
  go_enter Try.func27, Try.ntmps27
  go_wp2_with fail
  refine I.out.mono ?_
  rintro e w1 ⟨rfl, hb1⟩
  have HX1 := Lib.hid (HX.out.below hb1 HX.out.lt)
  have HB1 := Lib.hid (HB.out.trans (hb1.mono HB.out.size))
  clear HX HB hb1 I
  obtain ⟨c0, c1, c2, -⟩ := HX1.out.three
  go_wp2_with fail
  refine (WE.out _ HB1.out).mono ?_
  rintro e w2 ⟨v, u, rfl, hO, hU, hb2⟩
  obtain ⟨qu, cu, rfl, -⟩ := hU.rd
  have HO := Lib.hid (hO.mono HB1.out.size)
  have HB2 := Lib.hid (HB1.out.trans (hb2.mono HB1.out.size))
  clear hO hU hb2 HX1 HB1 WE c0 c1 c2
  go_wp2_with fail
  go_ret2
  exact ⟨v, rfl, World.ownsRow.alloc HO.out _, HB2.out.alloc HB2.out.size _⟩

set_option maxRecDepth 4000 in
set_option maxHeartbeats 2000000 in
theorem orderS_any (n : Nat) (ring : Bool) (p : Option Addr) (cap : Nat) (S : Nat → Bool) (w : World) (lo hi : Nat) (hin : Ri lo hi w p (ints (tk n S))) (h2 : 2 ≤ n) (hn : n ≤ 24) (h3 : ring = true → 3 ≤ n) :
    Calls Try.prog 26 #[rowV n ring p (ints (tk n S)).length cap] w fun e w' => ∃ v, e = .returned (.tuple #[v, .bool true]) ∧ Out w.heap.size w' v (ints (ordM n ring 0 24 S)) ∧ Below w.heap.size w w' := by
  have hlen := ints_tk_len n S
  obtain ⟨hX0, hO0, hB0⟩ := loop_start w n ring p (ints (tk n S)).length cap
  have I := Lib.hid (l2Row_any n ring p cap (ints (tk n S)) _ lo hi (hin.below hB0 hin.top) (by omega))
  rw [rowB_of h2 hn h3] at I
  have HT0 := Lib.hid (ints_length (tk n S))
  obtain ⟨m0, hm⟩ : ∃ m, (ints (tk n S)).length = m := ⟨_, rfl⟩
  have HIN := Lib.hid hin
  rw [hm] at hX0 hO0 hB0 I HT0 ⊢
  have HM := Lib.hid hm
  have HX0 := Lib.hid hX0
  have HO0 := Lib.hid hO0
  have HB0 := Lib.hid hB0
  have htop := hin.top
  clear hin hlen hm hX0 hO0 hB0 h3
  go_enter Try.func26, Try.ntmps26
  go_wp2_with fail
  refine I.out.mono ?_
  rintro e w1 ⟨rfl, hb1⟩
  have HX1 := Lib.hid (HX0.out.below hb1 HX0.out.lt)
  have HO1 : Hid (Out (w.heap.size + 1) w1 (.slice (some ⟨w.heap.size + 1, 0, none⟩) 0 0) (ints [])) := HO0.out.below hb1
  have HB1 := Lib.hid (HB0.out.trans (hb1.mono HB0.out.size))
  have HR1 := Lib.hid (HIN.out.below HB1.out htop)
  have HV1 : Hid (∀ k, (Value.slice (some ⟨w.heap.size + 1, 0, none⟩) 0 0).ownBlock = some k → k < lo ∨ hi ≤ k) := by
    show ∀ _, _
    intro k hk
    simp [Value.ownBlock] at hk
    omega
  clear HX0 HO0 HB0 hb1 I HIN
  go_wp2_with fail
  go_loopw [4, 5] (fun v _ wr => ∃ (T : Nat → Bool) (D : List Nat) (rem : Nat) (q : Option Addr) (c m lo hi : Nat), rem ≤ 24 ∧ Hid (D.length + rem = 24) ∧ Hid (m = (tk n S).length + D.length) ∧ Hid (D ++ ordM n ring 0 rem T = ordM n ring 0 24 S) ∧ Hid ((ints (tk n T)).length = m) ∧ Hid (OwnArr wr w.heap.size 28 [.int .i64 n, .bool ring, .slice q m c]) ∧ Hid (Out (w.heap.size + 1) wr v (ints D)) ∧ Hid (Ri lo hi wr q (ints (tk n T))) ∧ Hid (∀ k, v.ownBlock = some k → k < lo ∨ hi ≤ k) ∧ Hid (Below w.heap.size w wr)) (fun v _ _ => 24 - lenV v)
  case atStart => exact ⟨S, [], 24, p, cap, m0, lo, hi, Nat.le_refl _, Lib.hid rfl, Lib.hid HT0.out, Lib.hid rfl, HM, HX1, HO1, HR1, HV1, HB1⟩
  case round =>
    obtain ⟨T, D, rem, q, c, m, lo, hi, hrem, HDR, HML, HOA, HM2, HX, HO, HR, HV, HB⟩ := hrel
    clear HX1 HO1 HR1 HV1 HB1 htop
    obtain ⟨qv, cv, rfl, -, -, -, -⟩ := HO.out.rd
    have hD := ints_length D
    obtain ⟨d, hd⟩ : ∃ d, (ints D).length = d := ⟨_, rfl⟩
    rw [hd] at HO HV hD ⊢
    have HDL := Lib.hid hD
    obtain ⟨c0, c1, c2, -⟩ := HX.out.three
    clear hd hD
    by_cases hlt : m < n
    · have hk1 : (m : Int) < (n : Int) := by omega
      have hml : ¬ (tk n T).length = n := by have := HM2.out; rw [ints_length] at this; omega
      have PA := Lib.hid (politeS_any n ring q c T wr lo hi HR.out h2 hn)
      rw [HM2.out] at PA
      have hPn := polS_free (ring := ring) hml
      obtain ⟨P, hP⟩ : ∃ P, polS n ring T = P := ⟨_, rfl⟩
      rw [hP] at PA hPn
      have hst : ∀ r, ordM n ring 0 (r + 1) T = headM n ring 0 T :: ordM n ring 0 r (setS T (headM n ring 0 T)) := fun r => (ordM_step (by rw [pol_same, hP]; omega) r).1
      have hxl := headM_lt (n := n) (ring := ring) (least := 0) (S := T) (by rw [pol_same, hP]; omega)
      have hx0 : (ints P)[0]?.getD 0 = ((headM n ring 0 T : Nat) : Int) := by
        rw [ints_get hPn, ← hP, ← pol_same]; rfl
      obtain ⟨x, hx⟩ : ∃ x, headM n ring 0 T = x := ⟨_, rfl⟩
      rw [hx] at hxl hx0
      obtain ⟨r, rfl⟩ : ∃ r, rem = r + 1 := ⟨rem - 1, by have := HDR.out; have := HML.out; omega⟩
      have hOA := HOA.out
      rw [hst r, hx] at hOA
      have HOA2 := Lib.hid hOA
      have HXL := Lib.hid hxl
      have HX0 := Lib.hid hx0
      have hpl := ints_length P
      obtain ⟨k, hk⟩ : ∃ k, (ints P).length = k := ⟨_, rfl⟩
      rw [hk] at hpl
      have hkp : 0 < k := by omega
      have HK := Lib.hid hk
      clear hst hxl hx0 hx hP hOA hml hPn hpl hk HOA
      go_wp2_with fail
      refine PA.out.mono ?_
      rintro e w2 ⟨pv, rfl, hPo, hb2⟩
      obtain ⟨qp, cp, rfl, -, -, hPr, -⟩ := hPo.rd
      rw [HK.out]
      obtain ⟨b, off, rfl, -, -, -, hc⟩ := hPr.int (by rw [HK.out]; omega)
      have h0 := hc 0 (by rw [HK.out]; omega)
      rw [HX0.out, Nat.add_zero] at h0
      have HX2 := Lib.hid (HX.out.below hb2 HX.out.lt)
      have HO2 := Lib.hid (HO.out.below hb2)
      have HR2 := Lib.hid (HR.out.bel hb2)
      have HB2 := Lib.hid (HB.out.trans (hb2.mono HB.out.size))
      have hblk := Lib.hid (own_block HO2.out)
      have hs2 := HX2.out.lt
      have hne1 := Lib.hid (own_ne HO2.out HX2.out)
      have hk0 : (0 : Int) < (k : Int) := by omega
      clear hPo hPr hc hb2 HX HO HR HB PA c0 c1 c2 HX0
      go_wp2_with (at_builtin; refine wpList_app rfl _ _ rfl (w.heap.size + 1) _ (ints D) rfl (World.ownsRow.alloc HO2.out (.cells #[.int .i64 (x : Int)] 3)) _ 1 1 0 (w2.heap.size + 1) [(x : Int)] rfl (lit_one (OwnArr.made w2 _ [_]) _ (Nat.lt_succ_self _) (by simp)) rfl (by rw [ints_length, ← HDL.out]; have := HDR.out; have := HDL.out; omega) (by simp; omega) ?_; intro v3 w3 hO3 hg3 hn3; have hG3 : Below (w.heap.size + 1) w2 w3 := ((Below.refl (w.heap.size + 1) w2).alloc (by omega) _).grown hg3 (by simp; omega) hblk.out; have HX3 := Lib.hid (HX2.out.below hG3 (Nat.lt_succ_self _)); obtain ⟨c0, c1, c2, -⟩ := HX3.out.three)
      have HB3 := Lib.hid (HB2.out.trans (hG3.mono (Nat.le_succ _)))
      have HR3 : Hid (Ri lo hi w3 q (ints (tk n T))) := by
        show Rd _ _ _ _ _
        exact Rd.grown (HR2.out.bel ((Below.refl _ w2).alloc (Nat.le_refl _) _)) hg3 HV.out
      obtain ⟨qv3, cv3, rfl, -, -, -, -⟩ := hO3.rd
      have hl3 : (ints D ++ [(x : Int)]).length = d + 1 := by rw [List.length_append, ints_length, ← HDL.out]; rfl
      rw [hl3] at hO3 ⊢
      have HO3 := Lib.hid hO3
      have WA := Lib.hid (with_any n ring q c (ints (tk n T)) x w3 lo hi HR3.out (by have := ints_tk_len n T; omega) (by
        rw [mem_ints_tk]
        rintro ⟨j, h1, _, h3⟩
        have : j = x := by omega
        rw [this, HXL.out.2] at h3; cases h3))
      rw [put_setS HXL.out.1 HXL.out.2, HM2.out] at WA
      have hts := tk_setS HXL.out.1 HXL.out.2
      have HM4 : Hid ((ints (tk n (setS T x))).length = m + 1) := by
        show _ = _
        have := HM2.out
        rw [ints_length] at this ⊢; omega
      clear hG3 hg3 hn3 hO3 h0 HX2 HO2 HR2 HB2 hne1 hblk HR3 hts HV hl3
      refine WA.out.mono ?_
      rintro e w4 ⟨u, rfl, hT, hb4⟩
      have HX4 := Lib.hid (HX3.out.below hb4 HX3.out.lt)
      have HO4 := Lib.hid (HO3.out.below hb4)
      have HB4 := Lib.hid (HB3.out.trans (hb4.mono HB3.out.size))
      obtain ⟨q4, c4, rfl, -⟩ := hT.rd
      rw [HM4.out] at hT ⊢
      have HT := Lib.hid hT
      obtain ⟨f1, f2, f3⟩ := fin_box (.int .i64 n) (.bool ring) (.slice q4 (m + 1) c4) HX4.out rfl (Nat.le_refl w.heap.size) (HO4.out.mono (Nat.le_succ _)) HB4.out
      have HX5 := Lib.hid f1
      have HB5 := Lib.hid f3
      have HO5 := Lib.hid (HO4.out.boxed HX4.out (.int .i64 n) (.bool ring) (.slice q4 (m + 1) c4))
      have HT5 := Lib.hid (HT.out.boxed HX4.out (.int .i64 n) (.bool ring) (.slice q4 (m + 1) c4))
      have HR5 := Lib.hid HT5.out.ri.1
      have HV5 : Hid (∀ k hi, (Value.slice qv3 (d + 1) cv3).ownBlock = some k → k < w3.heap.size ∨ hi ≤ k) := by
        show ∀ _, _
        intro j hi hj
        exact .inl (World.ownsRow.lt HO3.out j hj).2
      have hDX : ints D ++ [(x : Int)] = ints (D ++ [x]) := by rw [ints_append]; rfl
      rw [hDX] at HO5
      obtain ⟨c0, c1, c2, y0, y1, y2⟩ := HX4.out.three
      have HDX5 : Hid ((D ++ [x]).length + r = 24) := by
        show _ = _
        have := HDR.out
        rw [List.length_append]; simp; omega
      have HML5 : Hid (m + 1 = (tk n S).length + (D ++ [x]).length) := by
        show _ = _
        have := HML.out
        rw [List.length_append]; simp; omega
      have HOA5 : Hid ((D ++ [x]) ++ ordM n ring 0 r (setS T x) = ordM n ring 0 24 S) := by
        show _ = _
        have := HOA2.out
        rw [List.append_assoc]; exact this
      have hd24 : d < 24 := by have := HDR.out; have := HDL.out; omega
      clear f1 f2 f3 hT hb4 HX3 HO4 HB4 HB3 WA HO3 HT HT5 hDX
      go_wp2_with fail
      go_roundw
      case rel => exact ⟨setS T x, D ++ [x], r, q4, c4, m + 1, _, _, by omega, HDX5, HML5, HOA5, HM4, HX5, HO5, HR5, Lib.hid (fun k hk => HV5.out k _ hk), HB5⟩
      case measure => simp [lenV]; omega
    · have hml : (tk n T).length = n := by
        have := HM2.out
        rw [ints_length] at this
        have := tk_length_le n T
        omega
      have hst := (ordM_stop (n := n) (ring := ring) (least := 0) (S := T) (by rw [pol_same, polS_full hml]; rfl) rem).1
      have hOA := HOA.out
      rw [hst, List.append_nil] at hOA
      have hO' := HO.out
      rw [hOA] at hO'
      have HOF := Lib.hid (hO'.mono (Nat.le_succ _))
      have hk1 : ¬ (m : Int) < (n : Int) := by omega
      clear hml hst hOA hO' HO HOA
      go_wp2_with fail
      go_ret2
      exact ⟨_, rfl, HOF.out, HB.out⟩

theorem politeOrder_both (s : Int) (ring : Bool) (xs : List Int) : ∃ (L : List Int) (B : Bool), L.length ≤ 24 ∧
    (∀ (p : Option Addr) (cap : Nat) (w : World) (lo hi : Nat), Ri lo hi w p xs → xs.length ≤ 1048576 → Calls Try.prog 26 #[rowV s ring p xs.length cap] w fun e w' => ∃ v, e = .returned (.tuple #[v, .bool B]) ∧ Out w.heap.size w' v L ∧ Below w.heap.size w w') ∧
    (∀ (p : Option Addr) (cap : Nat) (w : World) (lo hi : Nat), Ri lo hi w p xs → xs.length ≤ 1048576 → Calls Try.prog 27 #[rowV s ring p xs.length cap] w fun e w' => ∃ v, e = .returned (.tuple #[v, .bool B]) ∧ Out w.heap.size w' v L ∧ Below w.heap.size w w') := by
  cases h : rowB s ring xs with
  | true =>
    obtain ⟨n, S, rfl, rfl, h2, hn, h3⟩ := rowB_is h
    exact ⟨ints (ordM n ring 0 24 S), true, by rw [ints_length]; exact ordM_len n ring 0 24 S, fun p cap w lo hi hin _ => orderS_any n ring p cap S w lo hi hin h2 hn h3, fun p cap w lo hi hin _ => orderI_any n ring p cap S w lo hi hin h2 hn h3⟩
  | false =>
    exact ⟨[], false, by simp, fun p cap w lo hi hin hl => orderS_bad s ring p cap xs w lo hi hin hl h, fun p cap w lo hi hin hl => orderI_bad s ring p cap xs w lo hi hin hl h⟩
end Go.Proofs.Ytgjfclkkobjfoaa
