/- Chapter 9, spec side: spec.l9Ask, spec.l9May, spec.IsSpaced. -/
import Derived.Test.YtoedcklgpmhnnaaSpcM9
import Derived.Test.YtoedcklgpmhnnaaNearest
import Derived.Test.YtoedcklgpmhnnaaIsRow
import Derived.Test.YtoedcklgpmhnnaaHasS
import Derived.Test.YtoedcklgpmhnnaaFarL
import Derived.Test.YtoedcklgpmhnnaaOut
import Derived.StillTailTactics
import Derived.Deep.RegionHeld3
namespace Go.Proofs.Ytoedcklgpmhnnaa
open Go.RowKit

theorem far_ge {n : Nat} {ring : Bool} {l : List Nat} {a D : Nat} (hl : ∀ x ∈ l, x < n) (ha : a < n) (h0 : 0 < l.length) : decide (D ≤ farM n ring l a) = l.all fun t => decide (D ≤ gapM n ring a t) := by
  have e := farL_least (gapM n ring a) n l (fun q hq => gap_le ha (hl q hq)) (by omega)
  have hle := farL_le (gapM n ring a) l n
  rw [Bool.eq_iff_iff, decide_eq_true_eq, List.all_eq_true]
  constructor
  · intro h t ht
    have := hle.2 t ht
    exact decide_eq_true (Nat.le_trans h this)
  · intro h
    have hm : leastOf (gapM n ring a) (l[0]?.getD 0) l ∈ l := by
      rcases leastOf_mem (gapM n ring a) l (l[0]?.getD 0) with e | e
      · rw [e]; exact nat_mem h0
      · exact e
    have := h _ hm
    unfold farM
    rw [e]
    simpa using this

set_option maxRecDepth 4000 in
set_option maxHeartbeats 800000 in
theorem far2S_any (n : Nat) (ring : Bool) (p : Option Addr) (cap : Nat) (l : List Nat) (a : Nat) (w : World) (lo hi : Nat) (hin : Ri lo hi w p (ints l)) (hl : ∀ x ∈ l, x < n) (hll : l.length ≤ 24) (hn : n ≤ 24) (ha : a < n) (h0 : 0 < l.length) :
    Calls Try.prog 60 #[rowV n ring p l.length cap, .int .i64 a] w fun e w' => e = .returned (.int .i64 (farM n ring l a : Nat)) ∧ Below w.heap.size w w' := by
  have NS := fun (w' : World) (h' : Below w.heap.size w w') (m : Nat) => nearestS_any n ring p m cap p cap l a w' lo hi (hin.below h' hin.top) hl hll hn ha
  have hres : (nearP (gapM n ring a) l).2 = ((farM n ring l a : Nat) : Int) := by
    unfold nearP
    rw [if_neg (by omega)]
    show ((gapM n ring a (leastOf (gapM n ring a) (l[0]?.getD 0) l) : Nat) : Int) = _
    rw [← farL_least (gapM n ring a) n l (fun q hq => gap_le ha (hl q hq)) (by omega)]; rfl
  obtain ⟨R1, hR1⟩ : ∃ R1, (nearP (gapM n ring a) l).1 = R1 := ⟨_, rfl⟩
  rw [hR1, hres] at NS
  obtain ⟨m, hm⟩ : ∃ m, l.length = m := ⟨_, rfl⟩
  rw [hm] at NS ⊢
  have HB := Lib.hid (box_below w n ring p m cap 28)
  replace NS := Lib.hid NS
  clear hin hl hm hres hR1
  go_enter Try.func60, Try.ntmps60
  go_wp2_with fail
  refine (NS.out _ HB.out m).mono ?_
  rintro e w2 ⟨rfl, hb2⟩
  go_wp2_with fail
  go_ret
  exact ⟨rfl, HB.out.trans (hb2.mono HB.out.size)⟩

theorem l9Ask_any (s : Int) (ring : Bool) (p : Option Addr) (cap : Nat) (xs : List Int) (d : Int) (w : World) (lo hi : Nat) (hin : Ri lo hi w p xs) (hlen : xs.length ≤ 1048576) :
    Calls Try.prog 30 #[rowV s ring p xs.length cap, .int .i64 d] w fun e w' => e = .returned (.bool (rowB s ring xs && decide (1 ≤ d))) ∧ Below w.heap.size w w' := by
  have hB := box_below w s ring p xs.length cap 28
  have I := Lib.hid (l2Row_any s ring p cap xs _ lo hi (hin.below hB hin.top) hlen)
  obtain ⟨RB, hRB⟩ : ∃ RB, rowB s ring xs = RB := ⟨_, rfl⟩
  rw [hRB] at I ⊢
  obtain ⟨m0, hm0⟩ : ∃ m, xs.length = m := ⟨_, rfl⟩
  rw [hm0] at hB I ⊢
  have HB := Lib.hid hB
  clear hin hm0 hlen hRB hB
  cases RB with
  | false =>
    go_enter Try.func30, Try.ntmps30
    go_wp2_with fail
    refine I.out.mono ?_
    rintro e w2 ⟨rfl, hb2⟩
    have HB2 := Lib.hid (HB.out.trans (hb2.mono HB.out.size))
    clear hb2 I
    go_wp2_with fail
    go_ret
    exact ⟨rfl, HB2.out⟩
  | true =>
    go_enter Try.func30, Try.ntmps30
    go_wp2_with fail
    refine I.out.mono ?_
    rintro e w2 ⟨rfl, hb2⟩
    have HB2 := Lib.hid (HB.out.trans (hb2.mono HB.out.size))
    clear hb2 I
    go_wp2_with fail
    go_ret
    exact ⟨ret_bool (by simp), HB2.out⟩

/-- a seat may be chosen beside some others -/
def mayM (n : Nat) (ring : Bool) (S : Nat → Bool) (D : Nat) (cs : List Nat) (a : Nat) : Bool := opM n ring S D a && cs.all fun c => decide (D ≤ gapM n ring a c)

set_option maxRecDepth 4000 in
set_option maxHeartbeats 2000000 in
theorem l9May_any (n : Nat) (ring : Bool) (p : Option Addr) (cap : Nat) (S : Nat → Bool) (q : Option Addr) (qc : Nat) (cs : List Nat) (a D : Nat) (w : World) (lo hi lo2 hi2 : Nat)
    (hin : Ri lo hi w p (ints (tk n S))) (hn : n ≤ 24) (hin2 : Ri lo2 hi2 w q (ints cs)) (hcs : ∀ c ∈ cs, c < n) (hcl : cs.length ≤ 1048576) (ha : a < n) :
    Calls Try.prog 32 #[rowV n ring p (ints (tk n S)).length cap, .slice q cs.length qc, .int .i64 a, .int .i64 (D : Int)] w fun e w' => e = .returned (.bool (mayM n ring S D cs a)) ∧ Below w.heap.size w w' := by
  have hlen := ints_tk_len n S
  have HX0 := Lib.hid (OwnArr.made w 28 [.int .i64 n, .bool ring, .slice p (ints (tk n S)).length cap])
  have HB0 := Lib.hid (box_below w n ring p (ints (tk n S)).length cap 28)
  have IS := fun (w' : World) (h' : Below w.heap.size w w') => l2Is_any n ring p cap (ints (tk n S)) a w' lo hi (hin.below h' hin.top) (by omega)
  rw [has_tk ha] at IS
  have FR := fun (h0 : 0 < (tk n S).length) (w' : World) (h' : Below w.heap.size w w') => far2S_any n ring p cap (tk n S) a w' lo hi (hin.below h' hin.top) (fun x hx => (mem_tk.1 hx).1) (Nat.le_trans (tk_length_le n S) hn) hn ha h0
  have HFA := Lib.hid (fun (h0 : 0 < (tk n S).length) => far_ge (n := n) (ring := ring) (l := tk n S) (a := a) (D := D) (fun x hx => (mem_tk.1 hx).1) ha h0)
  have HI2 := Lib.hid (fun (w' : World) (h' : Below w.heap.size w w') => hin2.below h' hin2.top)
  have HC := Lib.hid hcs
  have G := Lib.hid (fun (c : Nat) (hc : c < n) (m : Nat) w' => gapS_any n ring p m cap a c w' hn ha hc)
  have hll := ints_length (tk n S)
  have HMY : Hid (mayM n ring S D cs a = ((!S a && (tk n S).all fun t => decide (D ≤ gapM n ring a t)) && cs.all fun c => decide (D ≤ gapM n ring a c))) := rfl
  obtain ⟨R, hR⟩ : ∃ R, mayM n ring S D cs a = R := ⟨_, rfl⟩
  rw [hR] at HMY ⊢
  obtain ⟨l, hl⟩ : ∃ l, tk n S = l := ⟨_, rfl⟩
  rw [hl] at FR HFA HMY hll IS HX0 HB0 ⊢
  rw [hll] at IS HX0 HB0 ⊢
  obtain ⟨m, hm⟩ : ∃ m, l.length = m := ⟨_, rfl⟩
  rw [hm] at FR HFA IS HX0 HB0 ⊢
  have HM := Lib.hid hm
  obtain ⟨k0, hk0⟩ : ∃ k, cs.length = k := ⟨_, rfl⟩
  rw [hk0] at hcl ⊢
  have HK := Lib.hid hk0
  obtain ⟨t, ht⟩ : ∃ t, S a = t := ⟨_, rfl⟩
  rw [ht] at IS HMY
  replace IS := Lib.hid IS
  replace FR := Lib.hid FR
  clear hin hin2 hcs hll hl hm hk0 ht hlen hR
  obtain ⟨c0, c1, c2, -⟩ := HX0.out.three
  cases t with
  | true =>
    have hr : R = false := by rw [HMY.out]; rfl
    subst hr
    clear HMY
    go_enter Try.func32, Try.ntmps32
    go_wp2_with fail
    refine (IS.out _ HB0.out).mono ?_
    rintro e w2 ⟨rfl, hb2⟩
    have HB2 := Lib.hid (HB0.out.trans (hb2.mono HB0.out.size))
    clear hb2 IS c0 c1 c2
    go_wp2_with fail
    go_ret
    exact ⟨rfl, HB2.out⟩
  | false =>
    have key : ∀ (T : Bool), T = (l.all fun t => decide (D ≤ gapM n ring a t)) → R = (T && cs.all fun c => decide (D ≤ gapM n ring a c)) := by
      intro T hT
      rw [HMY.out, ← hT]; rfl
    have HKEY := Lib.hid key
    clear key HMY
    by_cases h0 : 0 < m
    · have h0i : (0 : Int) < (m : Int) := by omega
      have hfa := HFA.out h0
      obtain ⟨f, hf⟩ : ∃ f, farM n ring l a = f := ⟨_, rfl⟩
      have FR2 := FR.out h0
      rw [hf] at hfa FR2
      replace FR2 := Lib.hid FR2
      have hk := HKEY.out _ hfa
      clear HKEY HFA FR hf
      by_cases hfd : (f : Int) < (D : Int)
      · have hr : R = false := by rw [hk, decide_eq_false (by omega : ¬ D ≤ f)]; rfl
        subst hr
        clear hk hfa
        go_enter Try.func32, Try.ntmps32
        go_wp2_with fail
        refine (IS.out _ HB0.out).mono ?_
        rintro e w2 ⟨rfl, hb2⟩
        have HB2 := Lib.hid (HB0.out.trans (hb2.mono HB0.out.size))
        have HX2 := Lib.hid (HX0.out.below hb2 HX0.out.lt)
        clear hb2 IS c0 c1 c2
        obtain ⟨c0, c1, c2, -⟩ := HX2.out.three
        go_wp2_with fail
        refine (FR2.out _ HB2.out).mono ?_
        rintro e w3 ⟨rfl, hb3⟩
        have HB3 := Lib.hid (HB2.out.trans (hb3.mono HB2.out.size))
        clear hb3 FR2 c0 c1 c2
        go_wp2_with fail
        go_ret
        exact ⟨rfl, HB3.out⟩
      · have hr : R = cs.all fun c => decide (D ≤ gapM n ring a c) := by rw [hk, decide_eq_true (by omega : D ≤ f), Bool.true_and]
        have HR := Lib.hid hr
        have hfd3 : ¬ f < D := by omega
        clear hk hfa hr
        go_enter Try.func32, Try.ntmps32
        go_wp2_with fail
        refine (IS.out _ HB0.out).mono ?_
        rintro e w2 ⟨rfl, hb2⟩
        have HB2 := Lib.hid (HB0.out.trans (hb2.mono HB0.out.size))
        have HX2 := Lib.hid (HX0.out.below hb2 HX0.out.lt)
        clear hb2 IS c0 c1 c2
        obtain ⟨c0, c1, c2, -⟩ := HX2.out.three
        go_wp2_with fail
        refine (FR2.out _ HB2.out).mono ?_
        rintro e w3 ⟨rfl, hb3⟩
        have HB3 := Lib.hid (HB2.out.trans (hb3.mono HB2.out.size))
        have HX3 := Lib.hid (HX2.out.below hb3 HX2.out.lt)
        clear hb3 FR2 c0 c1 c2 HX2 HB2 HX0 HB0
        go_wp2_with fail
        go_loopw [9] (fun i wr => ∃ (j : Nat), j ≤ k0 ∧ i = .int .i64 (j : Int) ∧ Hid ((cs.take j).all (fun c => decide (D ≤ gapM n ring a c)) = true) ∧ Hid (OwnArr wr w.heap.size 28 [.int .i64 n, .bool ring, .slice p m cap]) ∧ Hid (Below w.heap.size w wr)) (fun i _ => k0 - (intOf i).toNat)
        case atStart => exact ⟨0, Nat.zero_le _, rfl, Lib.hid rfl, HX3, HB3⟩
        case round =>
          obtain ⟨j, hj, rfl, HS, HX, HB⟩ := hrel
          clear HX3 HB3
          obtain ⟨c0, c1, c2, -⟩ := HX.out.three
          by_cases hlt : j < k0
          · have hj1 : (j : Int) < (k0 : Int) := by omega
            have hj0 : (0 : Int) ≤ (j : Int) := by omega
            have hjl : j < cs.length := by rw [HK.out]; exact hlt
            obtain ⟨b, off, rfl, -, -, hbw, hc⟩ := (HI2.out wr HB.out).int (by rw [ints_length]; omega)
            have h0 := hc j (by rw [ints_length]; exact hjl)
            rw [ints_get hjl] at h0
            have hxn := HC.out _ (nat_mem hjl)
            have HNO : Hid ((decide (D ≤ gapM n ring a (cs[j]?.getD 0))) = false → cs.all (fun c => decide (D ≤ gapM n ring a c)) = false) := by
              show _ → _
              intro h
              rw [List.all_eq_false]
              exact ⟨_, nat_mem hjl, by rw [h]; simp⟩
            have HST : Hid ((cs.take (j + 1)).all (fun c => decide (D ≤ gapM n ring a c)) = decide (D ≤ gapM n ring a (cs[j]?.getD 0))) := by
              show _ = _
              rw [List.take_succ_eq_append_getElem hjl, List.all_append, HS.out, List.getElem?_eq_getElem hjl]
              simp
            obtain ⟨x, hx⟩ : ∃ x, cs[j]?.getD 0 = x := ⟨_, rfl⟩
            rw [hx] at h0 hxn HNO HST
            have G2 := G.out x hxn m wr.drew
            obtain ⟨g, hg⟩ : ∃ g, gapM n ring a x = g := ⟨_, rfl⟩
            rw [hg] at G2 HNO HST
            replace G2 := Lib.hid G2
            have HXD : Hid (OwnArr wr.drew w.heap.size 28 [.int .i64 n, .bool ring, .slice p m cap]) := HX.out
            have hbr : b < wr.heap.size := Nat.lt_of_lt_of_le hbw (Nat.le_refl _)
            have HCE : Hid (∀ w4, Below wr.drew.heap.size wr.drew w4 → w4.cell? ⟨b, off + j, none⟩ = some (.int .i64 (x : Int))) := fun w4 h4 => (h4.cell (p := ⟨b, off + j, none⟩) hbr).trans h0
            clear hc hbw hx hg hbr
            by_cases hgd : (g : Int) < (D : Int)
            · have hr2 : R = false := HR.out.trans (HNO.out (decide_eq_false (by omega)))
              subst hr2
              clear HNO HST HS HR
              go_wp2_with fail
              go_region_held3 (fun w' => w'.cell? ⟨w.heap.size, 0, none⟩ = some (.int .i64 n) ∧ w'.cell? ⟨w.heap.size, 1, none⟩ = some (.bool ring) ∧ w'.cell? ⟨w.heap.size, 2, none⟩ = some (.slice p m cap) ∧ w'.cell? ⟨b, off + j, none⟩ = some (.int .i64 (x : Int))) ((first | exact ⟨c0, c1, c2, h0⟩ | exact ⟨d0, d1, d2, x3⟩ | go_keep)) ((go_at_call 61; refine G2.out.mono ?_; rintro e w4 ⟨rfl, hb4⟩; have HX5 := Lib.hid (HXD.out.below hb4 HXD.out.lt); have x3 := HCE.out _ hb4; obtain ⟨d0, d1, d2, -⟩ := HX5.out.three))
              have HB4 := Lib.hid (HB.out.trans ((((Below.refl _ wr).drew).trans hb4).mono HB.out.size))
              clear hb4 G2 c0 c1 c2 h0 HX HB d0 d1 d2 x3 HXD HCE
              go_wp2_with fail
              go_ret
              exact ⟨rfl, HB4.out⟩
            · have HS2 : Hid ((cs.take (j + 1)).all (fun c => decide (D ≤ gapM n ring a c)) = true) := HST.out.trans (decide_eq_true (by omega))
              clear HNO HST HS
              go_wp2_with fail
              go_region_held3 (fun w' => w'.cell? ⟨w.heap.size, 0, none⟩ = some (.int .i64 n) ∧ w'.cell? ⟨w.heap.size, 1, none⟩ = some (.bool ring) ∧ w'.cell? ⟨w.heap.size, 2, none⟩ = some (.slice p m cap) ∧ w'.cell? ⟨b, off + j, none⟩ = some (.int .i64 (x : Int))) ((first | exact ⟨c0, c1, c2, h0⟩ | exact ⟨d0, d1, d2, x3⟩ | go_keep)) ((go_at_call 61; refine G2.out.mono ?_; rintro e w4 ⟨rfl, hb4⟩; have HX5 := Lib.hid (HXD.out.below hb4 HXD.out.lt); have x3 := HCE.out _ hb4; obtain ⟨d0, d1, d2, -⟩ := HX5.out.three))
              have hb3 : Below wr.heap.size wr w4 := ((Below.refl _ wr).drew).trans hb4
              have HB4 := Lib.hid (HB.out.trans (hb3.mono HB.out.size))
              have HX4 := Lib.hid (HX.out.below hb3 HX.out.lt)
              clear hb4 hb3 G2 c0 c1 c2 h0 HX HB d0 d1 d2 x3 HXD HCE
              go_wp2_with fail
              go_roundw
              case rel => exact ⟨j + 1, by omega, by go_num, HS2, HX4, HB4⟩
              case measure => simp [intOf]; omega
          · have hjk : j = k0 := by omega
            subst hjk
            have hs := HS.out
            rw [List.take_of_length_le (Nat.le_of_eq HK.out)] at hs
            have hr2 : R = true := HR.out.trans hs
            subst hr2
            clear HS hs HR
            go_wp2_with fail
            go_ret
            exact ⟨rfl, HB.out⟩
    · have hz : m = 0 := by omega
      have h0i : ¬ (0 : Int) < (m : Int) := by omega
      have hl0 : l = [] := List.length_eq_zero_iff.1 (HM.out.trans hz)
      have hk := HKEY.out true (by rw [hl0]; rfl)
      have hr : R = cs.all fun c => decide (D ≤ gapM n ring a c) := by rw [hk, Bool.true_and]
      have HR := Lib.hid hr
      clear hk hr hl0 HKEY HFA FR hz
      go_enter Try.func32, Try.ntmps32
      go_wp2_with fail
      refine (IS.out _ HB0.out).mono ?_
      rintro e w2 ⟨rfl, hb2⟩
      have HB3 := Lib.hid (HB0.out.trans (hb2.mono HB0.out.size))
      have HX3 := Lib.hid (HX0.out.below hb2 HX0.out.lt)
      clear hb2 IS c0 c1 c2 HX0 HB0
      obtain ⟨c0, c1, c2, -⟩ := HX3.out.three
      go_wp2_with fail
      clear c0 c1 c2
      go_loopw [9] (fun i wr => ∃ (j : Nat), j ≤ k0 ∧ i = .int .i64 (j : Int) ∧ Hid ((cs.take j).all (fun c => decide (D ≤ gapM n ring a c)) = true) ∧ Hid (OwnArr wr w.heap.size 28 [.int .i64 n, .bool ring, .slice p m cap]) ∧ Hid (Below w.heap.size w wr)) (fun i _ => k0 - (intOf i).toNat)
      case atStart => exact ⟨0, Nat.zero_le _, rfl, Lib.hid rfl, HX3, HB3⟩
      case round =>
        obtain ⟨j, hj, rfl, HS, HX, HB⟩ := hrel
        clear HX3 HB3
        obtain ⟨c0, c1, c2, -⟩ := HX.out.three
        by_cases hlt : j < k0
        · have hj1 : (j : Int) < (k0 : Int) := by omega
          have hj0 : (0 : Int) ≤ (j : Int) := by omega
          have hjl : j < cs.length := by rw [HK.out]; exact hlt
          obtain ⟨b, off, rfl, -, -, hbw, hc⟩ := (HI2.out wr HB.out).int (by rw [ints_length]; omega)
          have h0 := hc j (by rw [ints_length]; exact hjl)
          rw [ints_get hjl] at h0
          have hxn := HC.out _ (nat_mem hjl)
          have HNO : Hid ((decide (D ≤ gapM n ring a (cs[j]?.getD 0))) = false → cs.all (fun c => decide (D ≤ gapM n ring a c)) = false) := by
            show _ → _
            intro h
            rw [List.all_eq_false]
            exact ⟨_, nat_mem hjl, by rw [h]; simp⟩
          have HST : Hid ((cs.take (j + 1)).all (fun c => decide (D ≤ gapM n ring a c)) = decide (D ≤ gapM n ring a (cs[j]?.getD 0))) := by
            show _ = _
            rw [List.take_succ_eq_append_getElem hjl, List.all_append, HS.out, List.getElem?_eq_getElem hjl]
            simp
          obtain ⟨x, hx⟩ : ∃ x, cs[j]?.getD 0 = x := ⟨_, rfl⟩
          rw [hx] at h0 hxn HNO HST
          have G2 := G.out x hxn m wr.drew
          obtain ⟨g, hg⟩ : ∃ g, gapM n ring a x = g := ⟨_, rfl⟩
          rw [hg] at G2 HNO HST
          replace G2 := Lib.hid G2
          have HXD : Hid (OwnArr wr.drew w.heap.size 28 [.int .i64 n, .bool ring, .slice p m cap]) := HX.out
          have hbr : b < wr.heap.size := Nat.lt_of_lt_of_le hbw (Nat.le_refl _)
          have HCE : Hid (∀ w4, Below wr.drew.heap.size wr.drew w4 → w4.cell? ⟨b, off + j, none⟩ = some (.int .i64 (x : Int))) := fun w4 h4 => (h4.cell (p := ⟨b, off + j, none⟩) hbr).trans h0
          clear hc hbw hx hg hbr
          by_cases hgd : (g : Int) < (D : Int)
          · have hr2 : R = false := HR.out.trans (HNO.out (decide_eq_false (by omega)))
            subst hr2
            clear HNO HST HS HR
            go_wp2_with fail
            go_region_held3 (fun w' => w'.cell? ⟨w.heap.size, 0, none⟩ = some (.int .i64 n) ∧ w'.cell? ⟨w.heap.size, 1, none⟩ = some (.bool ring) ∧ w'.cell? ⟨w.heap.size, 2, none⟩ = some (.slice p m cap) ∧ w'.cell? ⟨b, off + j, none⟩ = some (.int .i64 (x : Int))) ((first | exact ⟨c0, c1, c2, h0⟩ | exact ⟨d0, d1, d2, x3⟩ | go_keep)) ((go_at_call 61; refine G2.out.mono ?_; rintro e w4 ⟨rfl, hb4⟩; have HX5 := Lib.hid (HXD.out.below hb4 HXD.out.lt); have x3 := HCE.out _ hb4; obtain ⟨d0, d1, d2, -⟩ := HX5.out.three))
            have HB4 := Lib.hid (HB.out.trans ((((Below.refl _ wr).drew).trans hb4).mono HB.out.size))
            clear hb4 G2 c0 c1 c2 h0 HX HB d0 d1 d2 x3 HXD HCE
            go_wp2_with fail
            go_ret
            exact ⟨rfl, HB4.out⟩
          · have HS2 : Hid ((cs.take (j + 1)).all (fun c => decide (D ≤ gapM n ring a c)) = true) := HST.out.trans (decide_eq_true (by omega))
            clear HNO HST HS
            go_wp2_with fail
            go_region_held3 (fun w' => w'.cell? ⟨w.heap.size, 0, none⟩ = some (.int .i64 n) ∧ w'.cell? ⟨w.heap.size, 1, none⟩ = some (.bool ring) ∧ w'.cell? ⟨w.heap.size, 2, none⟩ = some (.slice p m cap) ∧ w'.cell? ⟨b, off + j, none⟩ = some (.int .i64 (x : Int))) ((first | exact ⟨c0, c1, c2, h0⟩ | exact ⟨d0, d1, d2, x3⟩ | go_keep)) ((go_at_call 61; refine G2.out.mono ?_; rintro e w4 ⟨rfl, hb4⟩; have HX5 := Lib.hid (HXD.out.below hb4 HXD.out.lt); have x3 := HCE.out _ hb4; obtain ⟨d0, d1, d2, -⟩ := HX5.out.three))
            have hb3 : Below wr.heap.size wr w4 := ((Below.refl _ wr).drew).trans hb4
            have HB4 := Lib.hid (HB.out.trans (hb3.mono HB.out.size))
            have HX4 := Lib.hid (HX.out.below hb3 HX.out.lt)
            clear hb4 hb3 G2 c0 c1 c2 h0 HX HB d0 d1 d2 x3 HXD HCE
            go_wp2_with fail
            go_roundw
            case rel => exact ⟨j + 1, by omega, by go_num, HS2, HX4, HB4⟩
            case measure => simp [intOf]; omega
        · have hjk : j = k0 := by omega
          subst hjk
          have hs := HS.out
          rw [List.take_of_length_le (Nat.le_of_eq HK.out)] at hs
          have hr2 : R = true := HR.out.trans hs
          subst hr2
          clear HS hs HR
          go_wp2_with fail
          go_ret
          exact ⟨rfl, HB.out⟩
end Go.Proofs.Ytoedcklgpmhnnaa
