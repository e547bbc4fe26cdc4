/- Chapter 6, impl side: impl.CarsAtSeats; both sides. -/
import Derived.Test.YtgalopbpbhlcdaaPkB6
import Derived.Test.YtgalopbpbhlcdaaCat6
import Derived.Test.YtgalopbpbhlcdaaRepI
import Derived.Test.YtgalopbpbhlcdaaMarks
namespace Go.Proofs.Ytgalopbpbhlcdaa
open Go.RowKit

theorem iv_set (xs : List Int) (k : Nat) (x : Int) : (iv xs).set k (.int .i64 x) = iv (xs.set k x) := by unfold iv; rw [List.map_set]
theorem rg_cell {n x : Nat} {F : Nat → Int} (h : x < n) : (iv (rgM n F))[x]? = some (.int .i64 (F x)) := by
  rw [iv_get (by rw [rg_len]; exact h)]
  unfold rgM
  rw [List.getElem?_map, List.getElem?_range h]; rfl
theorem rg_congr {n : Nat} {F G : Nat → Int} (h : ∀ j, j < n → F j = G j) : rgM n F = rgM n G := by
  unfold rgM
  apply List.map_congr_left
  intro j hj
  exact h j (List.mem_range.1 hj)
theorem rg_rep (n : Nat) (x : Int) : List.replicate n (Value.int .i64 x) = iv (rgM n fun _ => x) := by
  apply List.ext_getElem?
  intro i
  by_cases hi : i < n
  · rw [rg_cell hi]; simp [hi]
  · rw [List.getElem?_eq_none (by simp; omega), List.getElem?_eq_none (by rw [iv_length, rg_len]; omega)]
theorem own_rgset {w : World} {g n : Nat} {F : Nat → Int} (h : OwnArr w g 3 (iv (rgM n F))) (y : Nat) (v : Int) : OwnArr (w.setCell ⟨g, y, none⟩ (.int .i64 v)) g 3 (iv (rgM n fun p => if p = y then v else F p)) := by
  have := h.set y (.int .i64 v)
  rw [iv_set, rg_set] at this
  exact this
theorem out_rg {B g n : Nat} {w : World} {F : Nat → Int} (h : OwnArr w g 3 (iv (rgM n F))) (hB : B ≤ g) (hn : n ≤ 1000) : Out B w (.slice (some ⟨g, 0, none⟩) n n) (rgM n F) := by
  have hl := rg_len n F
  refine ⟨by rw [iv_length, Nat.mul_one], .inr ⟨g, n, (iv (rgM n F)).toArray, by rw [hl], hB, h, by omega, by unfold maxLen; omega, by simp [iv_length, hl], ?_⟩⟩
  simp only [List.toList_toArray]
  exact List.take_of_length_le (by rw [iv_length]; omega)

set_option maxRecDepth 4000 in
set_option maxHeartbeats 1600000 in
theorem catI_no (s : Int) (ring : Bool) (p : Option Addr) (m0 cap : Nat) (q : Option Addr) (m c : Nat) (w : World) (s' : Int) (ring' : Bool) (L T : List Int)
    (h : ∀ w', Below w.heap.size w w' → Calls Try.prog 13 #[rowV s ring p m0 cap, .slice q m c] w' (MadePkS w' s' ring' L T false)) :
    Calls Try.prog 29 #[rowV s ring p m0 cap, .slice q m c] w fun e w' => ∃ v, e = .returned (.tuple #[v, .bool false]) ∧ Out w.heap.size w' v [] ∧ Below w.heap.size w w' := by
  have HE := Lib.hid (RowE.start w s ring p m0 cap)
  have PK := h
  unfold MadePkS at PK
  replace PK := Lib.hid PK
  clear h
  obtain ⟨c0, c1, c2, -⟩ := HE.out.row.three
  go_enter Try.func29, Try.ntmps29
  go_wp2_with fail
  refine (PK.out _ HE.out.bel).mono ?_
  rintro e w2 ⟨v, u, rfl, hO, hU, -, hb2⟩
  obtain ⟨qu, cu, rfl, -⟩ := hU.rd
  obtain ⟨tl, htl⟩ : ∃ tl, T.length = tl := ⟨_, rfl⟩
  obtain ⟨qv, cv, rfl, -, -, -, -⟩ := hO.rd
  obtain ⟨ll, hll⟩ : ∃ ll, L.length = ll := ⟨_, rfl⟩
  rw [htl, hll]
  obtain ⟨ww, hww⟩ : ∃ ww, w2.alloc (.cells #[.int .i64 s', .bool ring', .slice qu tl cu] 26) = ww := ⟨_, rfl⟩
  have hE2 := (HE.out.next hb2).next (ext1 w2 (.cells #[.int .i64 s', .bool ring', .slice qu tl cu] 26))
  rw [hww] at hE2
  have HB := Lib.hid (hE2.bel.alloc hE2.bel.size E0)
  have HO := Lib.hid ((Out.nilLit ww).mono hE2.bel.size)
  have HW := Lib.hid hww
  clear hb2 c0 c1 c2 PK HE hO hU htl hll hww hE2
  go_upto_region 2 with fail
  rw [HW.out]
  go_wp2_with fail
  go_ret2
  exact ⟨_, rfl, HO.out, HB.out⟩

set_option maxRecDepth 4000 in
set_option maxHeartbeats 4000000 in
theorem catI_any (n : Nat) (ring : Bool) (p : Option Addr) (cap : Nat) (S : Nat → Bool) (q : Option Addr) (c : Nat) (l : List Nat) (w : World) (lo hi lo2 hi2 : Nat) (hin : Ri lo hi w p (ints (tk n S))) (h2 : 2 ≤ n) (hn : n ≤ 24) (hin2 : Ri lo2 hi2 w q (ints l)) (hl : ∀ x ∈ l, x < n) (hll : l.length ≤ 12) (hc : carsB n ring (ints (tk n S)) (ints l) = true) :
    Calls Try.prog 29 #[rowV n ring p (ints (tk n S)).length cap, .slice q (ints l).length c] w fun e w' => ∃ v, e = .returned (.tuple #[v, .bool true]) ∧ Out w.heap.size w' v (rgM n (catF n ring S l l.length)) ∧ Below w.heap.size w w' := by
  have hE := RowE.start w n ring p (ints (tk n S)).length cap
  have PK := fun (w' : World) (h' : Below w.heap.size w w') => parkCarsI_any n ring p cap S q c l w' lo hi lo2 hi2 (hin.below h' hin.top) hn (hin2.below h' hin2.top) hl hll hc
  unfold MadePkS at PK
  have HI := Lib.hid (fun (w' : World) (h' : Below w.heap.size w w') => hin.below h' hin.top)
  have HLL := Lib.hid (pk_len n ring 0 S l l.length)
  have HPG : Hid (∀ j, j < l.length → (pkM n ring 0 S l l.length)[j]?.getD 0 = optI (carM n ring 0 S l j)) := by show ∀ _, _; intro j hj; exact pk_get hj
  have HCL := Lib.hid (fun j (hjl : j < l.length) q => car_lt (ring := ring) (k := 0) (S := S) (j := j) (q := q) hl hjl)
  have HTM := Lib.hid (fun (x : Nat) (h : x ∈ tk n S) => mem_tk.1 h)
  have HTS : Hid (∀ x, x < n → (decide (x ∈ tk n S)) = S x) := by
    show ∀ _, _
    intro x hx
    cases h : S x with
    | true => exact decide_eq_true (mem_tk.2 ⟨hx, h⟩)
    | false => exact decide_eq_false (fun hm => by rw [(mem_tk.1 hm).2] at h; cases h)
  obtain ⟨L, hL⟩ : ∃ L, pkM n ring 0 S l l.length = L := ⟨_, rfl⟩
  obtain ⟨T, hT⟩ : ∃ T, ints (tk n (stM n ring 0 S l l.length)) = T := ⟨_, rfl⟩
  rw [hL, hT] at PK
  rw [hL] at HLL HPG
  obtain ⟨tl, htl⟩ : ∃ tl, T.length = tl := ⟨_, rfl⟩
  have HTL := Lib.hid htl
  rw [ints_length] at hE PK ⊢
  rw [ints_length] at PK ⊢
  obtain ⟨m0, hm0⟩ : ∃ m, (tk n S).length = m := ⟨_, rfl⟩
  have hm24 := tk_length_le n S
  rw [hm0] at hE PK hm24 ⊢
  have HM0 := Lib.hid hm0
  obtain ⟨m, hml⟩ : ∃ m, l.length = m := ⟨_, rfl⟩
  rw [hml] at HLL hll HPG HCL PK ⊢
  have HE := Lib.hid hE
  replace PK := Lib.hid PK
  clear hin hin2 hE hm0 hml hL hT hc hl htl
  obtain ⟨c0, c1, c2, -⟩ := HE.out.row.three
  go_enter Try.func29, Try.ntmps29
  go_wp2_with fail
  refine (PK.out _ HE.out.bel).mono ?_
  rintro e w2 ⟨v, u, rfl, hO, hU, -, hb2⟩
  obtain ⟨qu, cu, rfl, -⟩ := hU.rd
  rw [HTL.out] at hU ⊢
  obtain ⟨qv, cv, rfl, -, -, hR, -⟩ := hO.rd
  rw [HLL.out]
  obtain ⟨w3, hww⟩ : ∃ ww, w2.alloc (.cells #[.int .i64 (n : Int), .bool ring, .slice qu tl cu] 26) = ww := ⟨_, rfl⟩
  have hE3 := (HE.out.next hb2).next (ext1 w2 (.cells #[.int .i64 (n : Int), .bool ring, .slice qu tl cu] 26))
  have hR3 := hR.bel (ext1 w2 (.cells #[.int .i64 (n : Int), .bool ring, .slice qu tl cu] 26))
  have hs3 : w2.heap.size ≤ w3.heap.size := by rw [← hww]; simp
  rw [hww] at hE3 hR3
  have HR3 := Lib.hid (fun (w' : World) (h' : Below w3.heap.size w3 w') => hR3.below h' hs3)
  have HE3 := Lib.hid hE3
  have HW := Lib.hid hww
  obtain ⟨d0, d1, d2, -⟩ := (hE3.next (ext1 w3 (.cells #[.int .i64 (-2)] 3))).row.three
  clear hb2 c0 c1 c2 PK HE hO hU hE3 hR3 hR hww hs3
  have RP := Lib.hid (repeat_any n w3.heap.size (-2) (w3.alloc (.cells #[.int .i64 (-2)] 3)) (OwnArr.made w3 3 [.int .i64 (-2)]) (by omega) hn)
  go_upto_region 2 with fail
  rw [HW.out]
  go_wp2_with fail
  refine RP.out.mono ?_
  rintro e w4 ⟨rfl, hO4, hb4⟩
  obtain ⟨g, hg⟩ : ∃ g, (w3.alloc (.cells #[.int .i64 (-2)] 3)).heap.size = g := ⟨_, rfl⟩
  have hg3 : w3.heap.size ≤ g := by rw [← hg]; simp
  rw [hg] at hO4 hb4 ⊢
  have HB4 := Lib.hid ((ext1 w3 (.cells #[.int .i64 (-2)] 3)).trans (hb4.mono hg3))
  rw [rg_rep, rg_congr (G := fun p => if p ∈ (tk n S).take 0 then -1 else -2) (fun j _ => by simp)] at hO4
  have HO4 := Lib.hid hO4
  clear hO4 hb4 hg RP HW d0 d1 d2
  obtain ⟨c0, c1, c2, -⟩ := (HE3.out.next HB4.out).row.three
  go_wp2_with fail
  clear c0 c1 c2
  go_loopw [31, 11] (fun i _ wr => ∃ (t : Nat), t ≤ m0 ∧ i = .int .i64 (t : Int) ∧ Hid (OwnArr wr g 3 (iv (rgM n fun p => if p ∈ (tk n S).take t then -1 else -2))) ∧ Hid (Below w3.heap.size w3 wr)) (fun i _ _ => m0 - (intOf i).toNat)
  case atStart => exact ⟨0, Nat.zero_le _, rfl, HO4, HB4⟩
  case round =>
    obtain ⟨t, ht, rfl, HO, HB⟩ := hrel
    clear HO4 HB4
    by_cases hlt : t < m0
    · have ht1 : (t : Int) < (m0 : Int) := by omega
      have htl2 : t < (tk n S).length := by rw [HM0.out]; exact hlt
      obtain ⟨b, off, rfl, -, -, hbw, hc⟩ := (HI.out wr (HE3.out.bel.trans (HB.out.mono HE3.out.bel.size))).int (by rw [ints_length]; omega)
      have h0 := hc t (by rw [ints_length]; exact htl2)
      rw [ints_get htl2] at h0
      have hxn := (HTM.out _ (nat_mem htl2)).1
      have hst := take_mem_succ htl2
      obtain ⟨x, hx⟩ : ∃ x, (tk n S)[t]?.getD 0 = x := ⟨_, rfl⟩
      rw [hx] at h0 hxn hst
      have hold := HO.out.cell x
      rw [rg_cell hxn] at hold
      obtain ⟨ov, hov⟩ : ∃ ov : Int, (if x ∈ (tk n S).take t then (-1 : Int) else -2) = ov := ⟨_, rfl⟩
      rw [hov] at hold
      have hfree := HO.out.free x
      have hset := own_rgset HO.out x (-1)
      rw [rg_congr (G := fun p => if p ∈ (tk n S).take (t + 1) then -1 else -2) (fun p _ => by
        have h := hst p
        by_cases e : p = x
        · rw [if_pos e] at h ⊢
          rw [if_pos (of_decide_eq_true h)]
        · rw [if_neg e] at h ⊢
          by_cases e2 : p ∈ (tk n S).take t
          · rw [if_pos e2, if_pos (of_decide_eq_true (by rw [h]; exact decide_eq_true e2))]
          · rw [if_neg e2, if_neg (of_decide_eq_false (by rw [h]; exact decide_eq_false e2))])] at hset
      have HO5 := Lib.hid hset
      have HB5 := Lib.hid (HB.out.setCell (p := ⟨g, x, none⟩) hg3 (.int .i64 (-1)))
      have hx1 : (x : Int) < (n : Int) := by omega
      clear hset hst hx hov hc hbw HO HB
      go_wp2_with fail
      go_roundw
      case rel => exact ⟨t + 1, by omega, by go_num, HO5, HB5⟩
      case measure => simp [intOf]; omega
    · have htm : t = m0 := by omega
      have ht1 : ¬ (t : Int) < (m0 : Int) := by omega
      have HO5 : Hid (OwnArr wr g 3 (iv (rgM n (catF n ring S l 0)))) := by
        show OwnArr _ _ _ _
        rw [rg_congr (G := fun p => if p ∈ (tk n S).take t then -1 else -2) (fun p hp => by
          have h := HTS.out p hp
          rw [htm, List.take_of_length_le (by rw [HM0.out]; exact Nat.le_refl _)]
          show (if S p = true then (-1 : Int) else -2) = _
          rw [← h]
          simp)]
        exact HO.out
      have HB5 := HB
      clear HO HB htm
      go_wp2_with fail
      go_loopw [41, 12, 13] (fun i _ _ wr => ∃ (j : Nat), j ≤ m ∧ i = .int .i64 (j : Int) ∧ Hid (OwnArr wr g 3 (iv (rgM n (catF n ring S l j)))) ∧ Hid (Below w3.heap.size w3 wr)) (fun i _ _ _ => m - (intOf i).toNat)
      case atStart => exact ⟨0, Nat.zero_le _, rfl, HO5, HB5⟩
      case round =>
        obtain ⟨j, hj, rfl, HO, HB⟩ := hrel
        clear HO5 HB5
        by_cases hlt : j < m
        · have hj1 : (j : Int) < (m : Int) := by omega
          have hjL : j < L.length := by rw [HLL.out]; exact hlt
          obtain ⟨bv, ov, e, -, -, -, hcv⟩ := (HR3.out wr HB.out).int (by omega)
          subst e
          have h1 := hcv j hjL
          rw [HPG.out j hlt] at h1
          have hcl := HCL.out j hlt
          have hcs := fun y => cat_some (n := n) (ring := ring) (S := S) (l := l) (j := j) (y := y)
          have hcn := cat_none (n := n) (ring := ring) (S := S) (l := l) (j := j)
          obtain ⟨C, hC⟩ : ∃ C, carM n ring 0 S l j = C := ⟨_, rfl⟩
          rw [hC] at h1 hcl hcn
          rw [hC] at hcs
          cases C with
          | none =>
            simp only [optI] at h1
            have hO := HO.out
            rw [← hcn rfl] at hO
            have HO6 := Lib.hid hO
            clear hO hcn hcs hcl hC hcv HO
            go_wp2_with fail
            go_roundw
            case rel => exact ⟨j + 1, by omega, by go_num, HO6, HB⟩
            case measure => simp [intOf]; omega
          | some y =>
            obtain ⟨hyn, -⟩ := hcl y rfl
            simp only [optI] at h1
            have hold := HO.out.cell y
            rw [rg_cell hyn] at hold
            obtain ⟨ov2, hov⟩ : ∃ ov2 : Int, catF n ring S l j y = ov2 := ⟨_, rfl⟩
            rw [hov] at hold
            have hfree := HO.out.free y
            have hset := HO.out.set y (.int .i64 (j : Int))
            rw [iv_set, ← hcs y rfl] at hset
            have HO6 := Lib.hid hset
            have HB6 := Lib.hid (HB.out.setCell (p := ⟨g, y, none⟩) hg3 (.int .i64 (j : Int)))
            have hy0 : ¬ (y : Int) = -1 := by omega
            have hyb : ((y : Int) == -1) = false := by simp
            have hyb2 : ((y : Int) != -1) = true := by simp
            have hy1 : (y : Int) < (n : Int) := by omega
            clear hset hov hcn hcs hcl hC hcv HO HB
            go_wp2_with fail
            go_roundw
            case rel => exact ⟨j + 1, by omega, by go_num, HO6, HB6⟩
            case measure => simp [intOf]; omega
        · have hjm : j = m := by omega
          subst hjm
          have hj1 : ¬ (j : Int) < (j : Int) := by omega
          have HF := Lib.hid (out_rg (B := w.heap.size) HO.out (by have := HE3.out.bel.size; omega) (by omega))
          have HBF := Lib.hid (HE3.out.bel.trans (HB.out.mono HE3.out.bel.size))
          clear HO HB
          go_wp2_with fail
          go_ret2
          exact ⟨_, rfl, HF.out, HBF.out⟩
theorem carsAtSeats_both (s0 : Int) (r0 : Bool) (xs0 : List Int) (xs1 : List Int) : ∃ (L0 : List Int) (y1 : Bool), L0.length ≤ 1000 ∧ (∀ (q0 : Option Addr) (c0 : Nat) (q1 : Option Addr) (c1 : Nat) (w : World) (lo0 hi0 : Nat) (lo1 hi1 : Nat), Ri lo0 hi0 w q0 xs0 → xs0.length ≤ 1048576 → xs0.length ≤ c0 → c0 ≤ maxLen → Ri lo1 hi1 w q1 xs1 → xs1.length ≤ 1048576 → xs1.length ≤ c1 → c1 ≤ maxLen → Calls Try.prog 28 #[rowV s0 r0 q0 xs0.length c0, .slice q1 xs1.length c1] w fun e w' => ∃ v0, e = .returned (.tuple #[v0, .bool y1]) ∧ Out w.heap.size w' v0 L0 ∧ Below w.heap.size w w') ∧ (∀ (q0 : Option Addr) (c0 : Nat) (q1 : Option Addr) (c1 : Nat) (w : World) (lo0 hi0 : Nat) (lo1 hi1 : Nat), Ri lo0 hi0 w q0 xs0 → xs0.length ≤ 1048576 → xs0.length ≤ c0 → c0 ≤ maxLen → Ri lo1 hi1 w q1 xs1 → xs1.length ≤ 1048576 → xs1.length ≤ c1 → c1 ≤ maxLen → Calls Try.prog 29 #[rowV s0 r0 q0 xs0.length c0, .slice q1 xs1.length c1] w fun e w' => ∃ v0, e = .returned (.tuple #[v0, .bool y1]) ∧ Out w.heap.size w' v0 L0 ∧ Below w.heap.size w w') := by
  cases h : carsB s0 r0 xs0 xs1 with
  | false => exact ⟨[], false, by simp, fun q0 c0 q1 c1 w lo hi lo2 hi2 h1 h2 _ _ h3 h4 _ _ => catS_bad s0 r0 q0 c0 xs0 q1 c1 xs1 w lo hi lo2 hi2 h1 h2 h3 h4 h, fun q0 c0 q1 c1 w lo hi lo2 hi2 h1 h2 _ _ h3 h4 _ _ => catI_no s0 r0 q0 _ c0 q1 _ c1 w 0 false [] [] (fun w' h' => parkCarsI_bad s0 r0 q0 c0 xs0 q1 c1 xs1 w' lo hi lo2 hi2 (h1.below h' h1.top) h2 (h3.below h' h3.top) h4 h)⟩
  | true =>
    obtain ⟨n, S, l, rfl, rfl, rfl, h2, hn, h3, hl, hll⟩ := carsB_is h
    exact ⟨_, _, by rw [rg_len]; omega, fun q0 c0 q1 c1 w lo hi lo2 hi2 h1 _ _ _ h3' _ _ _ => catS_any n r0 q0 c0 S q1 c1 l w lo hi lo2 hi2 h1 h2 hn h3' hl hll h, fun q0 c0 q1 c1 w lo hi lo2 hi2 h1 _ _ _ h3' _ _ _ => catI_any n r0 q0 c0 S q1 c1 l w lo hi lo2 hi2 h1 h2 hn h3' hl hll h⟩
end Go.Proofs.Ytgalopbpbhlcdaa
