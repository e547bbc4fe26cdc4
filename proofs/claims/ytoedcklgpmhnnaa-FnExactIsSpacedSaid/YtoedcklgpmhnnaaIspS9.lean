/- Chapter 9, spec side: spec.IsSpaced. -/
import Derived.Test.YtoedcklgpmhnnaaSpcS9
namespace Go.Proofs.Ytoedcklgpmhnnaa
open Go.RowKit

/-- the first i seats of a list make a spaced choice, one after the other -/
def chUp (n : Nat) (ring : Bool) (S : Nat → Bool) (D : Nat) (l : List Nat) (i : Nat) : Bool := (List.range i).all fun j => mayM n ring S D (l.take j) (l[j]?.getD 0)
theorem chUp_succ (n : Nat) (ring : Bool) (S : Nat → Bool) (D : Nat) (l : List Nat) (i : Nat) : chUp n ring S D l (i + 1) = (chUp n ring S D l i && mayM n ring S D (l.take i) (l[i]?.getD 0)) := by
  unfold chUp
  rw [List.range_succ, List.all_append]
  simp
theorem chUp_false {n : Nat} {ring : Bool} {S : Nat → Bool} {D : Nat} {l : List Nat} {i j : Nat} (hj : j < i) (h : mayM n ring S D (l.take j) (l[j]?.getD 0) = false) : chUp n ring S D l i = false := by
  unfold chUp
  rw [List.all_eq_false]
  exact ⟨j, by simpa using hj, by rw [h]; simp⟩
/-- what IsSpaced tells -/
def spcI (n : Nat) (ring : Bool) (S : Nat → Bool) (D : Nat) (ss : List Int) : Bool := rising (-1) n ss && chUp n ring S D (ss.map Int.toNat) ss.length
theorem ints_nat9 (l : List Nat) : (ints l).map Int.toNat = l := by
  unfold ints
  rw [List.map_map]
  conv => rhs; rw [← List.map_id l]
  apply List.map_congr_left
  intro x _
  simp

set_option maxHeartbeats 1000000 in
theorem isSpacedS_bad (s : Int) (ring : Bool) (p : Option Addr) (cap : Nat) (xs : List Int) (q : Option Addr) (c m2 : Nat) (d : Int) (w : World) (lo hi : Nat) (hin : Ri lo hi w p xs) (hlen : xs.length ≤ 1048576) (hr : (rowB s ring xs && decide (1 ≤ d)) = false) :
    Calls Try.prog 10 #[rowV s ring p xs.length cap, .slice q m2 c, .int .i64 d] w fun e w' => e = .returned (.tuple #[.bool false, .bool false]) ∧ Below w.heap.size w w' := by
  have hB := box_below w s ring p xs.length cap 28
  have I := l9Ask_any s ring p cap xs d _ lo hi (hin.below hB hin.top) hlen
  rw [hr] at I
  replace I := Lib.hid I
  obtain ⟨m0, hm0⟩ : ∃ m, xs.length = m := ⟨_, rfl⟩
  rw [hm0] at hB I ⊢
  have HB := Lib.hid hB
  clear hin hm0 hlen hB hr
  go_enter Try.func10, Try.ntmps10
  go_wp2_with fail
  refine I.out.mono ?_
  rintro e w2 ⟨rfl, hb2⟩
  have HB2 := Lib.hid (HB.out.trans (hb2.mono HB.out.size))
  clear I HB hb2
  go_wp2_with fail
  go_ret2
  exact ⟨rfl, HB2.out⟩

set_option maxRecDepth 4000 in
set_option maxHeartbeats 2000000 in
theorem isSpacedS_any (n : Nat) (ring : Bool) (p : Option Addr) (cap : Nat) (S : Nat → Bool) (q : Option Addr) (c : Nat) (ss : List Int) (D : Nat) (w : World) (lo hi lo2 hi2 : Nat) (hin : Ri lo hi w p (ints (tk n S))) (hin2 : Ri lo2 hi2 w q ss) (hlen2 : ss.length ≤ 1048576) (hcc : ss.length ≤ c) (hcm : c ≤ maxLen) (hr : rowB n ring (ints (tk n S)) = true) (hD : 1 ≤ D) :
    Calls Try.prog 10 #[rowV n ring p (ints (tk n S)).length cap, .slice q ss.length c, .int .i64 (D : Int)] w fun e w' => e = .returned (.tuple #[.bool (spcI n ring S D ss), .bool true]) ∧ Below w.heap.size w w' := by
  have hn : n ≤ 24 := by
    obtain ⟨n', S', e, -, h0, h, -⟩ := rowB_is hr
    have : n = n' := by omega
    omega
  have hlen := ints_tk_len n S
  have hX := OwnArr.made w 28 [.int .i64 n, .bool ring, .slice p (ints (tk n S)).length cap]
  have hB := box_below w n ring p (ints (tk n S)).length cap 28
  have I := l9Ask_any n ring p cap (ints (tk n S)) D _ lo hi (hin.below hB hin.top) (by omega)
  rw [hr, decide_eq_true (by omega : (1 : Int) ≤ (D : Int))] at I
  replace I := Lib.hid I
  have RS := fun (w' : World) (h' : Below w.heap.size w w') => rising_spec n q c ss w' lo2 hi2 (hin2.below h' hin2.top) hlen2
  have HI2 := Lib.hid (fun (w' : World) (h' : Below w.heap.size w w') => hin2.below h' hin2.top)
  cases hrs : rising (-1) n ss with
  | false =>
    have e : spcI n ring S D ss = false := by unfold spcI; rw [hrs]; rfl
    rw [e]
    rw [hrs] at RS
    replace RS := Lib.hid RS
    obtain ⟨m0, hm0⟩ : ∃ m, (ints (tk n S)).length = m := ⟨_, rfl⟩
    rw [hm0] at hX hB I ⊢
    obtain ⟨m2, hm2⟩ : ∃ m, ss.length = m := ⟨_, rfl⟩
    rw [hm2] at RS ⊢
    have HX := Lib.hid hX
    have HB := Lib.hid hB
    obtain ⟨c0, c1, c2, -⟩ := HX.out.three
    clear hin hin2 hm0 hm2 hlen hX hB hr hrs e
    go_enter Try.func10, Try.ntmps10
    go_wp2_with fail
    refine I.out.mono ?_
    rintro e w2 ⟨rfl, hb2⟩
    have HB2 := Lib.hid (HB.out.trans (hb2.mono HB.out.size))
    have HX2 := Lib.hid (HX.out.below hb2 HX.out.lt)
    clear I HB hb2 c0 c1 c2
    obtain ⟨c0, c1, c2, -⟩ := HX2.out.three
    go_wp2_with fail
    refine (RS.out _ HB2.out).mono ?_
    rintro e w3 ⟨rfl, hb3⟩
    have HB3 := Lib.hid (HB2.out.trans (hb3.mono HB2.out.size))
    clear hb3 c0 c1 c2
    go_wp2_with fail
    go_ret2
    exact ⟨rfl, HB3.out⟩
  | true =>
    have e := rising_is hrs
    obtain ⟨T, hT⟩ : ∃ T, (fun k : Nat => decide ((k : Int) ∈ ss)) = T := ⟨_, rfl⟩
    rw [hT] at e
    subst e
    rw [hrs] at RS
    have e2 : spcI n ring S D (ints (tk n T)) = chUp n ring S D (tk n T) (tk n T).length := by
      unfold spcI
      rw [hrs, Bool.true_and, ints_nat9, ints_length]
    rw [e2]
    have htl : (tk n T).length ≤ n := tk_length_le n T
    have MY := Lib.hid (fun (i : Nat) (hi' : i < (tk n T).length) (c' : Nat) (w' : World) (h' : Below w.heap.size w w') => by
      have h := l9May_any n ring p cap S q c' ((tk n T).take i) ((tk n T)[i]?.getD 0) D w' lo hi lo2 hi2 (hin.below h' hin.top) hn (by
        have := (hin2.below h' hin2.top).pfx i
        rw [iv_take] at this
        have e : (ints (tk n T)).take i = ints ((tk n T).take i) := by unfold ints; rw [List.map_take]
        rwa [e] at this) (fun x hx => (mem_tk.1 (List.mem_of_mem_take hx)).1) (by rw [List.length_take]; omega) (mem_tk.1 (nat_mem hi')).1
      have hlen : ((tk n T).take i).length = i := by rw [List.length_take]; omega
      rw [hlen] at h
      exact h)
    have HST := Lib.hid (chUp_succ n ring S D (tk n T))
    have HNO := Lib.hid (fun (i : Nat) (hi' : i < (tk n T).length) h => chUp_false (n := n) (ring := ring) (S := S) (D := D) (l := tk n T) hi' h)
    replace RS := Lib.hid RS
    have hll := ints_length (tk n T)
    obtain ⟨l, hl⟩ : ∃ l, tk n T = l := ⟨_, rfl⟩
    rw [hl] at MY HST HNO hll HI2 htl RS hcc ⊢
    rw [hll] at RS hcc ⊢
    obtain ⟨k0, hk0⟩ : ∃ k, l.length = k := ⟨_, rfl⟩
    rw [hk0] at MY HNO htl RS hcc ⊢
    have HK := Lib.hid hk0
    obtain ⟨R, hR⟩ : ∃ R, chUp n ring S D l k0 = R := ⟨_, rfl⟩
    rw [hR] at HNO ⊢
    have HR := Lib.hid hR
    obtain ⟨m0, hm0⟩ : ∃ m, (ints (tk n S)).length = m := ⟨_, rfl⟩
    rw [hm0] at hX hB I MY ⊢
    have HX := Lib.hid hX
    have HB := Lib.hid hB
    obtain ⟨c0, c1, c2, -⟩ := HX.out.three
    clear hin hin2 hm0 hlen hX hB hr hrs e2 hll hl hk0 hR hT hlen2
    go_enter Try.func10, Try.ntmps10
    go_wp2_with fail
    refine I.out.mono ?_
    rintro e w2 ⟨rfl, hb2⟩
    have HB2 := Lib.hid (HB.out.trans (hb2.mono HB.out.size))
    have HX2 := Lib.hid (HX.out.below hb2 HX.out.lt)
    clear I HB hb2 c0 c1 c2 HX
    obtain ⟨c0, c1, c2, -⟩ := HX2.out.three
    go_wp2_with fail
    refine (RS.out _ HB2.out).mono ?_
    rintro e w3 ⟨rfl, hb3⟩
    have HB3 := Lib.hid (HB2.out.trans (hb3.mono HB2.out.size))
    have HX3 := Lib.hid (HX2.out.below hb3 HX2.out.lt)
    clear hb3 c0 c1 c2 HB2 HX2 RS
    go_wp2_with fail
    go_loopw [8] (fun i wr => ∃ (j : Nat), j ≤ k0 ∧ i = .int .i64 (j : Int) ∧ Hid (chUp n ring S D l j = true) ∧ Hid (OwnArr wr w.heap.size 28 [.int .i64 n, .bool ring, .slice p m0 cap]) ∧ Hid (Below w.heap.size w wr)) (fun i _ => k0 - (intOf i).toNat)
    case atStart => exact ⟨0, Nat.zero_le _, rfl, Lib.hid rfl, HX3, HB3⟩
    case round =>
      obtain ⟨j, hj, rfl, HS, HX, HB⟩ := hrel
      clear HX3 HB3
      obtain ⟨c0, c1, c2, -⟩ := HX.out.three
      by_cases hlt : j < k0
      · have hj1 : (j : Int) < (k0 : Int) := by omega
        have hj0 : (0 : Int) ≤ (j : Int) := by omega
        have hjc : (j : Int) ≤ (c : Int) := by omega
        have hjl : j < l.length := by rw [HK.out]; exact hlt
        obtain ⟨b, off, rfl, -, -, hbw, hc⟩ := (HI2.out wr HB.out).int (by rw [ints_length]; omega)
        have h0 := hc j (by rw [ints_length]; exact hjl)
        rw [ints_get hjl] at h0
        have hst := HST.out j
        rw [HS.out, Bool.true_and] at hst
        have hno := HNO.out j hlt
        have M2 := MY.out j hlt c wr.drew HB.out.drew
        obtain ⟨x, hx⟩ : ∃ x, l[j]?.getD 0 = x := ⟨_, rfl⟩
        rw [hx] at h0 hst hno M2
        obtain ⟨B, hBv⟩ : ∃ B, mayM n ring S D (l.take j) x = B := ⟨_, rfl⟩
        rw [hBv] at hst hno M2
        replace M2 := Lib.hid M2
        replace hst := Lib.hid hst
        replace hno := Lib.hid hno
        clear hc hbw hx hBv
        go_wp2_with fail
        go_still_tail 9, (by kernel_rfl)
        change wpList _ _ _ _ _ wr.drew
        go_wp2_with fail
        refine M2.out.mono ?_
        rintro e w4 ⟨rfl, hb4⟩
        have hb3 : Below wr.heap.size wr w4 := ((Below.refl _ wr).drew).trans hb4
        have HX4 := Lib.hid (HX.out.below hb3 HX.out.lt)
        have HB4 := Lib.hid (HB.out.trans (hb3.mono HB.out.size))
        clear hb4 hb3 M2 c0 c1 c2 h0 HX HB
        cases B with
        | false =>
          have hr := hno.out rfl
          subst hr
          go_wp2_with fail
          go_ret2
          exact ⟨rfl, HB4.out⟩
        | true =>
          clear HS hno
          go_wp2_with fail
          go_roundw
          case rel => exact ⟨j + 1, by omega, by go_num, hst, HX4, HB4⟩
          case measure => simp [intOf]; omega
      · have hjk : j = k0 := by omega
        subst hjk
        have hr : R = true := HR.out.symm.trans HS.out
        subst hr
        go_wp2_with fail
        go_ret2
        exact ⟨rfl, HB.out⟩
end Go.Proofs.Ytoedcklgpmhnnaa
