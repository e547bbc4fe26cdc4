/- Chapter 9, spec side: spec.l9Groups, spec.l9Fits, spec.l9Placing, spec.IsPlacing. -/
import Derived.Test.YtogdiahojbonaaaPlcM9
import Derived.Test.YtogdiahojbonaaaOut
import Derived.Test.YtogdiahojbonaaaIsRow
import Derived.StillTailTactics
import Derived.BigQuiet
namespace Go.Proofs.Ytogdiahojbonaaa
open Go.RowKit

theorem least9_any (a b : Int) (w : World) : Calls Try.prog 32 #[.int .i64 a, .int .i64 b] w fun e w' => e = .returned (.int .i64 (if a < b then a else b)) ∧ w = w' := by
  by_cases h : a < b
  · have e : (if a < b then a else b) = a := if_pos h
    rw [e]
    clear e
    go_enter Try.func32, Try.ntmps32
    go_wp2
    go_ret
    exact ⟨rfl, rfl⟩
  · have e : (if a < b then a else b) = b := if_neg h
    rw [e]
    clear e
    go_enter Try.func32, Try.ntmps32
    go_wp2
    go_ret
    exact ⟨rfl, rfl⟩

set_option maxRecDepth 4000 in
set_option maxHeartbeats 1600000 in
theorem l9Groups_any (s : Int) (ring : Bool) (p : Option Addr) (cap : Nat) (xs : List Int) (q : Option Addr) (c : Nat) (gs : List Int) (d : Int) (w : World) (lo hi lo2 hi2 : Nat) (hin : Ri lo hi w p xs) (hlen : xs.length ≤ 1048576) (hin2 : Ri lo2 hi2 w q gs) (hlen2 : gs.length ≤ 1048576) :
    Calls Try.prog 40 #[rowV s ring p xs.length cap, .slice q gs.length c, .int .i64 d] w fun e w' => e = .returned (.bool (pvB s ring xs gs d)) ∧ Below w.heap.size w w' := by
  have HX0 := Lib.hid (OwnArr.made w 28 [.int .i64 s, .bool ring, .slice p xs.length cap])
  have HB0 := Lib.hid (box_below w s ring p xs.length cap 28)
  have RW := Lib.hid (fun (w' : World) (h' : Below w.heap.size w w') => l2Row_any s ring p cap xs w' lo hi (hin.below h' hin.top) hlen)
  have HI2 := Lib.hid (fun (w' : World) (h' : Below w.heap.size w w') => hin2.below h' hin2.top)
  have HNO : Hid (∀ j, j < gs.length → gs[j]?.getD 0 < 1 → pvB s ring xs gs d = false) := by
    show ∀ _, _
    intro j hj h
    cases hC : pvB s ring xs gs d with
    | false => rfl
    | true =>
      have := (pvB_is hC).1 _ (List.getElem_mem hj)
      rw [List.getElem?_eq_getElem hj] at h
      simp only [Option.getD_some] at h
      omega
  have HYE : Hid ((∀ i, i < gs.length → 1 ≤ gs[i]?.getD 0) → pvB s ring xs gs d = (rowB s ring xs && (!ring && ((decide ((1 : Int) ≤ (gs.length : Int)) && decide ((gs.length : Int) ≤ 5)) && decide (0 ≤ d))))) := by
    show _ → _
    intro h
    unfold pvB
    have : gs.all (fun g => decide (1 ≤ g)) = true := by
      rw [List.all_eq_true]
      intro x hx
      obtain ⟨i, hi', rfl⟩ := List.getElem_of_mem hx
      have := h i hi'
      rw [List.getElem?_eq_getElem hi'] at this
      simp only [Option.getD_some] at this
      exact decide_eq_true (by omega)
    rw [this, Bool.true_and]
  obtain ⟨R, hR⟩ : ∃ R, pvB s ring xs gs d = R := ⟨_, rfl⟩
  rw [hR] at HNO HYE ⊢
  obtain ⟨RB, hRB⟩ : ∃ RB, rowB s ring xs = RB := ⟨_, rfl⟩
  rw [hRB] at RW HYE
  obtain ⟨m0, hm0⟩ : ∃ m, xs.length = m := ⟨_, rfl⟩
  rw [hm0] at HX0 HB0 RW ⊢
  obtain ⟨m, hm⟩ : ∃ m, gs.length = m := ⟨_, rfl⟩
  rw [hm] at HNO HYE hlen2 ⊢
  have HM := Lib.hid hm
  clear hin hin2 hR hm0 hm hlen hRB
  go_enter Try.func40, Try.ntmps40
  go_wp2_with fail
  go_loopw [7] (fun i wr => ∃ (j : Nat), j ≤ m ∧ i = .int .i64 (j : Int) ∧ Hid (∀ i, i < j → 1 ≤ gs[i]?.getD 0) ∧ Hid (OwnArr wr w.heap.size 28 [.int .i64 s, .bool ring, .slice p m0 cap]) ∧ Hid (Below w.heap.size w wr)) (fun i _ => m - (intOf i).toNat)
  case atStart => exact ⟨0, Nat.zero_le _, rfl, Lib.hid (fun i h => absurd h (Nat.not_lt_zero _)), HX0, HB0⟩
  case round =>
    obtain ⟨j, hj, rfl, HS, HX, HB⟩ := hrel
    clear HX0 HB0
    obtain ⟨c0, c1, c2, -⟩ := HX.out.three
    by_cases hlt : j < m
    · have hj1 : (j : Int) < (m : Int) := by omega
      have hj0 : (0 : Int) ≤ (j : Int) := by omega
      have hjl : j < gs.length := by rw [HM.out]; exact hlt
      obtain ⟨b, off, rfl, -, -, hbw, hc⟩ := (HI2.out wr HB.out).int (by omega)
      have h0 := hc j hjl
      have hno := HNO.out j hlt
      obtain ⟨x, hx⟩ : ∃ x, gs[j]?.getD 0 = x := ⟨_, rfl⟩
      have HSX := Lib.hid hx
      rw [hx] at h0 hno
      replace hno := Lib.hid hno
      clear hc hbw hx
      by_cases hx1 : x < 1
      · have hr := hno.out hx1
        subst hr
        go_wp2_with fail
        go_ret
        exact ⟨rfl, HB.out⟩
      · have HS2 : Hid (∀ i, i < j + 1 → 1 ≤ gs[i]?.getD 0) := by
          show ∀ _, _
          intro i hi'
          by_cases e : i = j
          · subst e; rw [HSX.out]; omega
          · exact HS.out i (by omega)
        clear HS hno HSX
        go_wp2_with fail
        go_roundw
        case rel => exact ⟨j + 1, by omega, by go_num, HS2, HX, HB⟩
        case measure => simp [intOf]; omega
    · have hjm : j = m := by omega
      subst hjm
      have hye := HYE.out (fun i hi => HS.out i hi)
      have R0 := Lib.hid (RW.out wr HB.out)
      have HL := fun w' => l1In_any (j : Int) 1 5 w'
      obtain ⟨LB, hLB⟩ : ∃ LB, (decide ((1 : Int) ≤ (j : Int)) && decide ((j : Int) ≤ 5)) = LB := ⟨_, rfl⟩
      rw [hLB] at hye HL
      replace HL := Lib.hid HL
      replace hye := Lib.hid hye
      clear hLB HNO HYE HS HM
      cases RB with
      | false =>
        have hr : R = false := by rw [hye.out]; rfl
        subst hr
        clear hye
        go_wp2_with fail
        refine R0.out.mono ?_
        rintro e w2 ⟨rfl, hb2⟩
        have HB2 := Lib.hid (HB.out.trans (hb2.mono HB.out.size))
        clear hb2 R0 c0 c1 c2
        go_wp2_with fail
        go_ret
        exact ⟨rfl, HB2.out⟩
      | true =>
        cases ring with
        | true =>
          have hr : R = false := by rw [hye.out]; rfl
          subst hr
          clear hye
          go_wp2_with fail
          refine R0.out.mono ?_
          rintro e w2 ⟨rfl, hb2⟩
          have HB2 := Lib.hid (HB.out.trans (hb2.mono HB.out.size))
          have HX2 := Lib.hid (HX.out.below hb2 HX.out.lt)
          clear hb2 R0 c0 c1 c2
          obtain ⟨c0, c1, c2, -⟩ := HX2.out.three
          go_wp2_with fail
          go_ret
          exact ⟨rfl, HB2.out⟩
        | false =>
          cases LB with
          | false =>
            have hr : R = false := by rw [hye.out]; rfl
            subst hr
            clear hye
            go_wp2_with fail
            refine R0.out.mono ?_
            rintro e w2 ⟨rfl, hb2⟩
            have HB2 := Lib.hid (HB.out.trans (hb2.mono HB.out.size))
            have HX2 := Lib.hid (HX.out.below hb2 HX.out.lt)
            clear hb2 R0 c0 c1 c2
            obtain ⟨c0, c1, c2, -⟩ := HX2.out.three
            go_wp2_with fail
            refine (HL.out _).mono ?_
            rintro e w3 ⟨rfl, rfl⟩
            go_wp2_with fail
            go_ret
            exact ⟨rfl, HB2.out⟩
          | true =>
            have hr : R = decide (0 ≤ d) := by rw [hye.out]; rfl
            replace hr := Lib.hid hr
            clear hye
            go_wp2_with fail
            refine R0.out.mono ?_
            rintro e w2 ⟨rfl, hb2⟩
            have HB2 := Lib.hid (HB.out.trans (hb2.mono HB.out.size))
            have HX2 := Lib.hid (HX.out.below hb2 HX.out.lt)
            clear hb2 R0 c0 c1 c2
            obtain ⟨c0, c1, c2, -⟩ := HX2.out.three
            go_wp2_with fail
            refine (HL.out _).mono ?_
            rintro e w3 ⟨rfl, rfl⟩
            go_wp2_with fail
            go_ret
            exact ⟨ret_bool hr.out.symm, HB2.out⟩

set_option maxRecDepth 4000 in
set_option maxHeartbeats 2000000 in
theorem fitsS_any (n : Nat) (p : Option Addr) (cap : Nat) (S : Nat → Bool) (qg : Option Addr) (cg : Nat) (gs : List Int) (d : Int) (qp : Option Addr) (cp : Nat) (pl : List Int) (x : Int) (w : World) (lo hi lo2 hi2 lo3 hi3 : Nat)
    (hin : Ri lo hi w p (ints (tk n S))) (hn : n ≤ 24) (hing : Ri lo2 hi2 w qg gs) (hgl : gs.length ≤ 5) (hinp : Ri lo3 hi3 w qp pl) (hpl : pl.length < gs.length) (hd : 0 ≤ d) (hg1 : ∀ g ∈ gs, 1 ≤ g)
    (hv : ∀ j, j < pl.length → 0 ≤ pl[j]?.getD 0 ∧ pl[j]?.getD 0 + gs[j]?.getD 0 ≤ (n : Int) ∧ 1 ≤ gs[j]?.getD 0) :
    Calls Try.prog 54 #[rowV n false p (ints (tk n S)).length cap, .slice qg gs.length cg, .int .i64 d, .slice qp pl.length cp, .int .i64 x] w fun e w' => e = .returned (.bool (fitG n (seatedM S gs pl pl.length) d (gs[pl.length]?.getD 0) x)) ∧ Below w.heap.size w w' := by
  have HX0 := Lib.hid (OwnArr.made w 28 [.int .i64 n, .bool false, .slice p (ints (tk n S)).length cap])
  have HB0 := Lib.hid (box_below w n false p (ints (tk n S)).length cap 28)
  have HI1 := Lib.hid (fun (w' : World) (h' : Below w.heap.size w w') => hin.below h' hin.top)
  have HI2 := Lib.hid (fun (w' : World) (h' : Below w.heap.size w w') => hing.below h' hing.top)
  have HI3 := Lib.hid (fun (w' : World) (h' : Below w.heap.size w w') => hinp.below h' hinp.top)
  have HV := Lib.hid hv
  obtain ⟨z, hz⟩ : ∃ z, gs[pl.length]?.getD 0 = z := ⟨_, rfl⟩
  have hz1 : 1 ≤ z := by
    rw [← hz, List.getElem?_eq_getElem hpl]
    exact hg1 _ (List.getElem_mem hpl)
  obtain ⟨D, hD⟩ : ∃ D, (if d < (n : Int) then d else (n : Int)) = D := ⟨_, rfl⟩
  have hD0 : 0 ≤ D ∧ D ≤ (n : Int) := by
    rw [← hD]
    by_cases h : d < (n : Int)
    · rw [if_pos h]; omega
    · rw [if_neg h]; omega
  have HS := Lib.hid (fun (h0 : 0 ≤ x) (h1 : z ≤ (n : Int) - x) => fit_split (S := S) (gs := gs) (ps := pl) (i := pl.length) hd hD.symm h0 h1 hz1 hv)
  have HNO : Hid (¬ (0 ≤ x ∧ x ≤ (n : Int) - z) → fitG n (seatedM S gs pl pl.length) d z x = false) := by
    show _ → _
    intro h
    cases hC : fitG n (seatedM S gs pl pl.length) d z x with
    | false => rfl
    | true =>
      have := fitG_true.1 hC
      omega
  rw [hz]
  obtain ⟨R, hR⟩ : ∃ R, fitG n (seatedM S gs pl pl.length) d z x = R := ⟨_, rfl⟩
  rw [hR] at HNO HS ⊢
  have LS := least9_any d n
  rw [hD] at LS
  replace LS := Lib.hid LS
  have HTL := Lib.hid (fun t (ht : t ∈ tk n S) => (mem_tk.1 ht).1)
  have HTN := Lib.hid (tk_length_le n S)
  have HLG : (ints (tk n S)).length = (tk n S).length := ints_length _
  obtain ⟨l, hl⟩ : ∃ l, tk n S = l := ⟨_, rfl⟩
  rw [hl] at HS HTL HTN HLG HX0 HB0 HI1 ⊢
  rw [HLG] at HX0 HB0 ⊢
  obtain ⟨m, hm⟩ : ∃ m, l.length = m := ⟨_, rfl⟩
  rw [hm] at HX0 HB0 HTN ⊢
  obtain ⟨k0, hk0⟩ : ∃ k, pl.length = k := ⟨_, rfl⟩
  rw [hk0] at HS HV hpl hz ⊢
  obtain ⟨g0, hg0⟩ : ∃ k, gs.length = k := ⟨_, rfl⟩
  rw [hg0] at hpl hgl ⊢
  have hm24 : m ≤ 24 := by have := HTN.out; omega
  have HM := Lib.hid hm
  have HK := Lib.hid hk0
  have HG := Lib.hid hg0
  have HZ := Lib.hid hz
  clear hin hing hinp hv hR hl hm hk0 hg0 hg1 HLG HTN hz hD
  have hk0i : (k0 : Int) < (g0 : Int) := by omega
  have hk00 : (0 : Int) ≤ (k0 : Int) := by omega
  obtain ⟨bg, og, rfl, -, -, hbg, hcg⟩ := (HI2.out w (Below.refl _ _)).int (by have := HG.out; omega)
  have hgz := hcg k0 (by have := HG.out; omega)
  rw [HZ.out] at hgz
  have HGC : Hid (∀ (w' : World), Below w.heap.size w w' → ∀ j, j < g0 → w'.cell? ⟨bg, og + j, none⟩ = some (.int .i64 (gs[j]?.getD 0))) := by
    show ∀ _, _
    intro w' hb' j hj
    exact (hb'.cell (p := ⟨bg, og + j, none⟩) hbg).trans (hcg j (by have := HG.out; omega))
  clear hcg
  have hgz0 := (HB0.out.cell (p := ⟨bg, og + k0, none⟩) hbg).trans hgz
  obtain ⟨c0, c1, c2, -⟩ := HX0.out.three
  by_cases hzn : z > (n : Int)
  · have hr := HNO.out (by omega)
    subst hr
    clear HNO HS
    go_enter Try.func54, Try.ntmps54
    go_wp2_with fail
    go_ret
    exact ⟨rfl, HB0.out⟩
  · have hzn' : z ≤ (n : Int) := by omega
    have LI := fun w' => l1In_any x 0 ((n : Int) - z) w'
    by_cases hx : 0 ≤ x ∧ x ≤ (n : Int) - z
    · obtain ⟨hx0, hx1⟩ := hx
      rw [decide_eq_true hx0, decide_eq_true hx1] at LI
      replace LI := Lib.hid LI
      have hs := HS.out hx0 (by omega)
      replace hs := Lib.hid hs
      clear HS HNO
      have LN := Lib.hid (fun (t : Int) w' => l1In_any t (x - D) (x + z - 1 + D) w')
      have HN : Hid (∀ t : Int, (decide (x - D ≤ t) && decide (t ≤ x + z - 1 + D)) = ntB D x z t) := fun _ => rfl
      have HTNO : Hid (∀ j, j < m → ntB D x z ((l[j]?.getD 0 : Nat) : Int) = true → R = false) := by
        show ∀ _, _
        intro j hj h
        rw [hs.out]
        have : l.all (fun t => !ntB D x z (t : Int)) = false := by
          rw [List.all_eq_false]
          exact ⟨_, nat_mem (l := l) (k := j) (by have := HM.out; omega), by rw [h]; simp⟩
        rw [this]; rfl
      have HONO : Hid (∀ j, j < k0 → ovB D x z (pl[j]?.getD 0) (gs[j]?.getD 0) = true → R = false) := by
        show ∀ _, _
        intro j hj h
        rw [hs.out]
        have : ((List.range k0).all fun j => !ovB D x z (pl[j]?.getD 0) (gs[j]?.getD 0)) = false := by
          rw [List.all_eq_false]
          exact ⟨j, by simpa using hj, by rw [h]; simp⟩
        rw [this, Bool.and_false]
      have HYE : Hid ((∀ j, j < m → ntB D x z ((l[j]?.getD 0 : Nat) : Int) = false) → (∀ j, j < k0 → ovB D x z (pl[j]?.getD 0) (gs[j]?.getD 0) = false) → R = true) := by
        show _ → _ → _
        intro h1 h2
        rw [hs.out, Bool.and_eq_true, List.all_eq_true, List.all_eq_true]
        refine ⟨fun t ht => ?_, fun j hj => ?_⟩
        · obtain ⟨i, hi', rfl⟩ := List.getElem_of_mem ht
          have := h1 i (by have := HM.out; omega)
          rw [List.getElem?_eq_getElem hi'] at this
          rw [show ((l[i] : Nat) : Int) = (((some l[i]).getD 0 : Nat) : Int) from rfl, this]; rfl
        · rw [h2 j (by simpa using hj)]; rfl
      clear hs
      obtain ⟨X, rfl⟩ : ∃ X : Nat, x = X := ⟨x.toNat, by omega⟩
      obtain ⟨Z, rfl⟩ : ∃ Z : Nat, z = Z := ⟨z.toNat, by omega⟩
      obtain ⟨E, rfl⟩ : ∃ E : Nat, D = E := ⟨D.toNat, by omega⟩
      have hXn : X ≤ 24 := by omega
      have hZn : Z ≤ 24 := by omega
      have hEn : E ≤ 24 := by omega
      have hZ1 : 1 ≤ Z := by omega
      clear hz1 hD0 hx0 hx1
      go_enter Try.func54, Try.ntmps54
      go_wp2_with fail
      refine (LI.out _).mono ?_
      rintro e w1 ⟨rfl, rfl⟩
      go_wp2_with fail
      refine (LS.out _).mono ?_
      rintro e w1 ⟨rfl, rfl⟩
      clear LI LS hgz hgz0
      go_wp2_with fail
      clear c0 c1 c2
      go_loopw [12] (fun i wr => ∃ (j : Nat), j ≤ m ∧ i = .int .i64 (j : Int) ∧ Hid (∀ i, i < j → ntB E X Z ((l[i]?.getD 0 : Nat) : Int) = false) ∧ Hid (OwnArr wr w.heap.size 28 [.int .i64 n, .bool false, .slice p m cap]) ∧ Hid (Below w.heap.size w wr)) (fun i _ => m - (intOf i).toNat)
      case atStart => exact ⟨0, Nat.zero_le _, rfl, Lib.hid (fun i h => absurd h (Nat.not_lt_zero _)), HX0, HB0⟩
      case round =>
        obtain ⟨j, hj, rfl, HF, HX, HB⟩ := hrel
        clear HX0 HB0
        obtain ⟨c0, c1, c2, -⟩ := HX.out.three
        by_cases hlt : j < m
        · have hj1 : (j : Int) < (m : Int) := by omega
          have hj0 : (0 : Int) ≤ (j : Int) := by omega
          have hjl : j < l.length := by rw [HM.out]; exact hlt
          obtain ⟨b, off, rfl, -, -, hbw, hc⟩ := (HI1.out wr HB.out).int (by rw [ints_length]; omega)
          have h0 := hc j (by rw [ints_length]; exact hjl)
          rw [ints_get hjl] at h0
          have hno := HTNO.out j hlt
          have htn := HTL.out _ (nat_mem hjl)
          obtain ⟨t, ht⟩ : ∃ t, l[j]?.getD 0 = t := ⟨_, rfl⟩
          have HT := Lib.hid ht
          rw [ht] at h0 hno htn
          have L2 := LN.out (t : Int)
          rw [HN.out] at L2
          obtain ⟨B, hB⟩ : ∃ B, ntB E X Z (t : Int) = B := ⟨_, rfl⟩
          have HBV := Lib.hid hB
          rw [hB] at hno L2
          replace hno := Lib.hid hno
          replace L2 := Lib.hid L2
          clear hc hbw ht hB
          cases B with
          | true =>
            have hr := hno.out rfl
            subst hr
            go_wp2_with fail
            refine (L2.out _).mono ?_
            rintro e w1 ⟨rfl, rfl⟩
            go_wp2_with fail
            go_ret
            exact ⟨rfl, HB.out⟩
          | false =>
            have HF2 : Hid (∀ i, i < j + 1 → ntB E X Z ((l[i]?.getD 0 : Nat) : Int) = false) := by
              show ∀ _, _
              intro i hi'
              by_cases e : i = j
              · subst e; rw [HT.out, HBV.out]
              · exact HF.out i (by omega)
            clear HF hno HT HBV
            go_wp2_with fail
            refine (L2.out _).mono ?_
            rintro e w1 ⟨rfl, rfl⟩
            go_wp2_with fail
            go_roundw
            case rel => exact ⟨j + 1, by omega, by go_num, HF2, HX, HB⟩
            case measure => simp [intOf]; omega
        · have hjm : j = m := by omega
          subst hjm
          have HF1 := Lib.hid (fun h2 => HYE.out (fun i hi => HF.out i hi) h2)
          clear HYE HTNO HF HTL HI1 HN LN
          go_wp2_with fail
          clear c0 c1 c2
          go_loopw [13] (fun i wr => ∃ (j : Nat), j ≤ k0 ∧ i = .int .i64 (j : Int) ∧ Hid (∀ i, i < j → ovB E X Z (pl[i]?.getD 0) (gs[i]?.getD 0) = false) ∧ Hid (Below w.heap.size w wr)) (fun i _ => k0 - (intOf i).toNat)
          case atStart => exact ⟨0, Nat.zero_le _, rfl, Lib.hid (fun i h => absurd h (Nat.not_lt_zero _)), HB⟩
          case round =>
            obtain ⟨j2, hj2, rfl, HF, HB'⟩ := hrel
            by_cases hlt2 : j2 < k0
            · have hj1 : (j2 : Int) < (k0 : Int) := by omega
              have hj3 : (j2 : Int) < (g0 : Int) := by omega
              have hj0 : (0 : Int) ≤ (j2 : Int) := by omega
              obtain ⟨b, off, rfl, -, -, hbw, hc⟩ := (HI3.out wr HB'.out).int (by have := HK.out; omega)
              have h0 := hc j2 (by have := HK.out; omega)
              have h1 := HGC.out wr HB'.out j2 (by omega)
              have hv2 := HV.out j2 hlt2
              have hno := HONO.out j2 hlt2
              obtain ⟨a, ha⟩ : ∃ a, pl[j2]?.getD 0 = a := ⟨_, rfl⟩
              obtain ⟨g, hg⟩ : ∃ g, gs[j2]?.getD 0 = g := ⟨_, rfl⟩
              have HA := Lib.hid ha
              have HG2 := Lib.hid hg
              rw [ha] at h0 hno hv2
              rw [hg] at h1 hno hv2
              obtain ⟨v1, v2, v3⟩ := hv2
              obtain ⟨a, rfl⟩ : ∃ A : Nat, a = A := ⟨a.toNat, by omega⟩
              obtain ⟨g, rfl⟩ : ∃ G : Nat, g = G := ⟨g.toNat, by omega⟩
              have va : a ≤ 24 := by omega
              have vg : g ≤ 24 := by omega
              have vg1 : 1 ≤ g := by omega
              have w1 : IntKind.i64.wrap ((X : Int) + Z) = (X : Int) + Z := IntWalk.i64_in _ (by omega)
              have w2 : IntKind.i64.wrap ((X : Int) + Z - 1) = (X : Int) + Z - 1 := IntWalk.i64_in _ (by omega)
              have w3 : IntKind.i64.wrap ((X : Int) + Z - 1 + E) = (X : Int) + Z - 1 + E := IntWalk.i64_in _ (by omega)
              have w4 : IntKind.i64.wrap ((a : Int) + g) = (a : Int) + g := IntWalk.i64_in _ (by omega)
              have w5 : IntKind.i64.wrap ((a : Int) + g - 1) = (a : Int) + g - 1 := IntWalk.i64_in _ (by omega)
              have w6 : IntKind.i64.wrap ((a : Int) + g - 1 + E) = (a : Int) + g - 1 + E := IntWalk.i64_in _ (by omega)
              clear hc hbw ha hg v1 v2 v3
              by_cases ho1 : (a : Int) ≤ (X : Int) + Z - 1 + E
              · by_cases ho2 : (X : Int) ≤ (a : Int) + g - 1 + E
                · have hr := hno (by unfold ovB; simp [ho1, ho2])
                  subst hr
                  clear hno HF
                  go_wp2_with fail
                  go_quiet (fail)
                  go_wp2_with fail
                  go_ret
                  exact ⟨rfl, bel_drewN HB'.out _⟩
                · have HF2 : Hid (∀ i, i < j2 + 1 → ovB E X Z (pl[i]?.getD 0) (gs[i]?.getD 0) = false) := by
                    show ∀ _, _
                    intro i hi'
                    by_cases e : i = j2
                    · subst e; rw [HA.out, HG2.out]; unfold ovB; simp [ho2]
                    · exact HF.out i (by omega)
                  clear HF hno HA HG2
                  go_wp2_with fail
                  go_quiet (fail)
                  go_wp2_with fail
                  go_roundw
                  case rel => exact ⟨j2 + 1, by omega, by go_num, HF2, bel_drewN HB'.out _⟩
                  case measure => simp [intOf]; omega
              · have HF2 : Hid (∀ i, i < j2 + 1 → ovB E X Z (pl[i]?.getD 0) (gs[i]?.getD 0) = false) := by
                  show ∀ _, _
                  intro i hi'
                  by_cases e : i = j2
                  · subst e; rw [HA.out, HG2.out]; unfold ovB; simp [ho1]
                  · exact HF.out i (by omega)
                have ho3 : decide ((a : Int) ≤ (X : Int) + Z - 1 + E) = false := decide_eq_false ho1
                clear HF hno HA HG2
                go_wp2_with fail
                go_quiet (fail)
                go_wp2_with fail
                go_roundw
                case rel => exact ⟨j2 + 1, by omega, by go_num, HF2, bel_drewN HB'.out _⟩
                case measure => simp [intOf]; omega
            · have hjk : j2 = k0 := by omega
              subst hjk
              have hr := HF1.out (fun i hi => HF.out i hi)
              subst hr
              go_wp2_with fail
              go_ret
              exact ⟨rfl, HB'.out⟩
    · have hr := HNO.out hx
      subst hr
      have hf : (decide (0 ≤ x) && decide (x ≤ (n : Int) - z)) = false := by
        rw [Bool.and_eq_false_iff, decide_eq_false_iff_not, decide_eq_false_iff_not]
        omega
      rw [hf] at LI
      replace LI := Lib.hid LI
      clear HNO HS hf
      go_enter Try.func54, Try.ntmps54
      go_wp2_with fail
      refine (LI.out _).mono ?_
      rintro e w1 ⟨rfl, rfl⟩
      go_wp2_with fail
      go_ret
      exact ⟨rfl, HB0.out⟩

/-- what a placing has behind its first groups -/
theorem plc_valid {n : Nat} {S : Nat → Bool} {d : Int} {gs ps : List Int} {i : Nat} (h : plcUp n S d gs ps i = true) (hi : i ≤ gs.length) (hg1 : ∀ g ∈ gs, 1 ≤ g) : ∀ j, j < i → 0 ≤ ps[j]?.getD 0 ∧ ps[j]?.getD 0 + gs[j]?.getD 0 ≤ (n : Int) ∧ 1 ≤ gs[j]?.getD 0 := by
  intro j hj
  have := fitG_true.1 (plcUp_is h hj)
  refine ⟨this.1, by omega, ?_⟩
  rw [List.getElem?_eq_getElem (by omega)]
  exact hg1 _ (List.getElem_mem _)

set_option maxRecDepth 4000 in
set_option maxHeartbeats 2000000 in
theorem placingS_any (n : Nat) (p : Option Addr) (cap : Nat) (S : Nat → Bool) (qg : Option Addr) (cg : Nat) (gs : List Int) (d : Int) (qp : Option Addr) (cp : Nat) (ps : List Int) (w : World) (lo hi lo2 hi2 lo3 hi3 : Nat)
    (hin : Ri lo hi w p (ints (tk n S))) (hn : n ≤ 24) (hing : Ri lo2 hi2 w qg gs) (hgl : gs.length ≤ 5) (hinp : Ri lo3 hi3 w qp ps) (hpl : ps.length ≤ 1048576) (hpc : ps.length ≤ cp) (hpm : cp ≤ maxLen) (hd : 0 ≤ d) (hg1 : ∀ g ∈ gs, 1 ≤ g) :
    Calls Try.prog 41 #[rowV n false p (ints (tk n S)).length cap, .slice qg gs.length cg, .int .i64 d, .slice qp ps.length cp] w fun e w' => e = .returned (.bool (plgB n S d gs ps)) ∧ Below w.heap.size w w' := by
  have HX0 := Lib.hid (OwnArr.made w 28 [.int .i64 n, .bool false, .slice p (ints (tk n S)).length cap])
  have HB0 := Lib.hid (box_below w n false p (ints (tk n S)).length cap 28)
  have HI3 := Lib.hid (fun (w' : World) (h' : Below w.heap.size w w') => hinp.below h' hinp.top)
  have hlen := ints_tk_len n S
  unfold plgB
  by_cases hne : ps.length = gs.length
  · rw [decide_eq_true hne, Bool.true_and]
    have FT := Lib.hid (fun (i : Nat) (hi' : i < gs.length) (hu : plcUp n S d gs ps i = true) (c' : Nat) (x : Int) (w' : World) (h' : Below w.heap.size w w') => by
      have h := fitsS_any n p cap S qg cg gs d qp c' (ps.take i) x w' lo hi lo2 hi2 lo3 hi3 (hin.below h' hin.top) hn (hing.below h' hing.top) hgl (by
        have := (hinp.below h' hinp.top).pfx i
        rwa [iv_take] at this) (by rw [List.length_take]; omega) hd hg1 (fun j hj => by
          rw [List.length_take] at hj
          rw [List.getElem?_take_of_lt (by omega)]
          exact plc_valid hu (by omega) hg1 j (by omega))
      have hlen : (ps.take i).length = i := by rw [List.length_take]; omega
      rw [hlen] at h
      rw [fitG_congr (T := seatedM S gs ps i) (fun q _ => seatedM_take q)] at h
      exact h)
    have HST := Lib.hid (plcUp_succ n S d gs ps)
    have HNO := Lib.hid (fun (i : Nat) (hi' : i < gs.length) h => plcUp_false (n := n) (S := S) (d := d) (gs := gs) (ps := ps) hi' h)
    have HPS := Lib.hid (rfl : ps = ps)
    obtain ⟨k0, hk0⟩ : ∃ k, ps.length = k := ⟨_, rfl⟩
    have hg0 : gs.length = k0 := by omega
    rw [hg0] at FT HNO hgl
    rw [hk0] at hpl hpc
    have HK := Lib.hid hk0
    rw [hk0, hg0]
    obtain ⟨R, hR⟩ : ∃ R, plcUp n S d gs ps k0 = R := ⟨_, rfl⟩
    rw [hR] at HNO ⊢
    have HR := Lib.hid hR
    obtain ⟨m, hm⟩ : ∃ m, (ints (tk n S)).length = m := ⟨_, rfl⟩
    rw [hm] at HX0 HB0 FT ⊢
    clear hin hing hinp hm hk0 hg0 hR hne hlen
    go_enter Try.func41, Try.ntmps41
    go_wp2_with fail
    go_loopw [9] (fun i wr => ∃ (j : Nat), j ≤ k0 ∧ i = .int .i64 (j : Int) ∧ Hid (plcUp n S d gs ps j = true) ∧ Hid (OwnArr wr w.heap.size 28 [.int .i64 n, .bool false, .slice p m cap]) ∧ Hid (Below w.heap.size w wr)) (fun i _ => k0 - (intOf i).toNat)
    case atStart => exact ⟨0, Nat.zero_le _, rfl, Lib.hid rfl, HX0, HB0⟩
    case round =>
      obtain ⟨j, hj, rfl, HS, HX, HB⟩ := hrel
      clear HX0 HB0
      obtain ⟨c0, c1, c2, -⟩ := HX.out.three
      by_cases hlt : j < k0
      · have hj1 : (j : Int) < (k0 : Int) := by omega
        have hj0 : (0 : Int) ≤ (j : Int) := by omega
        have hjc : (j : Int) ≤ (cp : Int) := by omega
        obtain ⟨b, off, rfl, -, -, hbw, hc⟩ := (HI3.out wr HB.out).int (by have := HK.out; omega)
        have h0 := hc j (by have := HK.out; omega)
        have hst := HST.out j
        rw [HS.out, Bool.true_and] at hst
        have hno := HNO.out j hlt
        have FT2 := FT.out j hlt HS.out cp (ps[j]?.getD 0) wr.drew HB.out.drew
        obtain ⟨x, hx⟩ : ∃ x, ps[j]?.getD 0 = x := ⟨_, rfl⟩
        rw [hx] at h0 hst hno FT2
        obtain ⟨B, hBv⟩ : ∃ B, fitG n (seatedM S gs ps j) d (gs[j]?.getD 0) x = B := ⟨_, rfl⟩
        rw [hBv] at hst hno FT2
        replace FT2 := Lib.hid FT2
        replace hst := Lib.hid hst
        replace hno := Lib.hid hno
        clear hc hbw hx hBv
        go_wp2_with fail
        go_still_tail 10, (by kernel_rfl)
        change wpList _ _ _ _ _ wr.drew
        go_wp2_with fail
        refine FT2.out.mono ?_
        rintro e w2 ⟨rfl, hb2⟩
        have hb3 : Below wr.heap.size wr w2 := ((Below.refl _ wr).drew).trans hb2
        have HX2 := Lib.hid (HX.out.below hb3 HX.out.lt)
        have HB2 := Lib.hid (HB.out.trans (hb3.mono HB.out.size))
        clear hb2 hb3 FT2 c0 c1 c2 h0 HX HB
        cases B with
        | false =>
          have hr := hno.out rfl
          subst hr
          go_wp2_with fail
          go_ret
          exact ⟨rfl, HB2.out⟩
        | true =>
          clear HS hno
          go_wp2_with fail
          go_roundw
          case rel => exact ⟨j + 1, by omega, by go_num, hst, HX2, HB2⟩
          case measure => simp [intOf]; omega
      · have hjm : j = k0 := by omega
        subst hjm
        have hr : R = true := HR.out.symm.trans HS.out
        subst hr
        go_wp2_with fail
        go_ret
        exact ⟨rfl, HB.out⟩
  · rw [decide_eq_false hne, Bool.false_and]
    have hne' : ¬ (ps.length : Int) = (gs.length : Int) := by omega
    clear hin hing hinp
    go_enter Try.func41, Try.ntmps41
    go_wp2_with fail
    go_ret
    exact ⟨rfl, HB0.out⟩

set_option maxRecDepth 4000 in
set_option maxHeartbeats 1000000 in
theorem isPlacingS_bad (s : Int) (ring : Bool) (p : Option Addr) (cap : Nat) (xs : List Int) (qg : Option Addr) (cg : Nat) (gs : List Int) (d : Int) (qp : Option Addr) (cp : Nat) (ps : List Int) (w : World) (lo hi lo2 hi2 : Nat)
    (hin : Ri lo hi w p xs) (hlen : xs.length ≤ 1048576) (hing : Ri lo2 hi2 w qg gs) (hleng : gs.length ≤ 1048576) (hr : pvB s ring xs gs d = false) :
    Calls Try.prog 21 #[rowV s ring p xs.length cap, .slice qg gs.length cg, .int .i64 d, .slice qp ps.length cp] w fun e w' => e = .returned (.tuple #[.bool false, .bool false]) ∧ Below w.heap.size w w' := by
  have hX := OwnArr.made w 28 [.int .i64 s, .bool ring, .slice p xs.length cap]
  have hB := box_below w s ring p xs.length cap 28
  have I := l9Groups_any s ring p cap xs qg cg gs d _ lo hi lo2 hi2 (hin.below hB hin.top) hlen (hing.below hB hing.top) hleng
  rw [hr] at I
  replace I := Lib.hid I
  obtain ⟨m0, hm0⟩ : ∃ m, xs.length = m := ⟨_, rfl⟩
  rw [hm0] at hX hB I ⊢
  obtain ⟨m1, hm1⟩ : ∃ m, gs.length = m := ⟨_, rfl⟩
  rw [hm1] at I ⊢
  obtain ⟨c0, c1, c2, -⟩ := hX.three
  have HB := Lib.hid hB
  clear hin hm0 hlen hX hB hing hleng hr hm1
  go_enter Try.func21, Try.ntmps21
  go_wp2_with fail
  refine I.out.mono ?_
  rintro e w2 ⟨rfl, hb2⟩
  have HB2 := Lib.hid (HB.out.trans (hb2.mono HB.out.size))
  clear I HB hb2 c0 c1 c2
  go_wp2_with fail
  go_ret2
  exact ⟨rfl, HB2.out⟩

set_option maxRecDepth 4000 in
set_option maxHeartbeats 1000000 in
theorem isPlacingS_any (n : Nat) (p : Option Addr) (cap : Nat) (S : Nat → Bool) (qg : Option Addr) (cg : Nat) (gs : List Int) (d : Int) (qp : Option Addr) (cp : Nat) (ps : List Int) (w : World) (lo hi lo2 hi2 lo3 hi3 : Nat)
    (hin : Ri lo hi w p (ints (tk n S))) (hing : Ri lo2 hi2 w qg gs) (hinp : Ri lo3 hi3 w qp ps) (hpl : ps.length ≤ 1048576) (hpc : ps.length ≤ cp) (hpm : cp ≤ maxLen) (hr : pvB n false (ints (tk n S)) gs d = true) :
    Calls Try.prog 21 #[rowV n false p (ints (tk n S)).length cap, .slice qg gs.length cg, .int .i64 d, .slice qp ps.length cp] w fun e w' => e = .returned (.tuple #[.bool (plgB n S d gs ps), .bool true]) ∧ Below w.heap.size w w' := by
  obtain ⟨g1, g2, -, g4, g5, g6⟩ := pvB_is hr
  have hn24 : n ≤ 24 := by
    obtain ⟨n', S', e, -, -, h, -⟩ := rowB_is g2
    have : n = n' := by omega
    omega
  have hlen := ints_tk_len n S
  have hX := OwnArr.made w 28 [.int .i64 n, .bool false, .slice p (ints (tk n S)).length cap]
  have hB := box_below w n false p (ints (tk n S)).length cap 28
  have I := l9Groups_any n false p cap (ints (tk n S)) qg cg gs d _ lo hi lo2 hi2 (hin.below hB hin.top) (by omega) (hing.below hB hing.top) (by omega)
  rw [hr] at I
  replace I := Lib.hid I
  have PL := Lib.hid (fun (w' : World) (h' : Below w.heap.size w w') => placingS_any n p cap S qg cg gs d qp cp ps w' lo hi lo2 hi2 lo3 hi3 (hin.below h' hin.top) hn24 (hing.below h' hing.top) g5 (hinp.below h' hinp.top) hpl hpc hpm g6 g1)
  obtain ⟨R, hR⟩ : ∃ R, plgB n S d gs ps = R := ⟨_, rfl⟩
  rw [hR] at PL ⊢
  obtain ⟨m0, hm0⟩ : ∃ m, (ints (tk n S)).length = m := ⟨_, rfl⟩
  rw [hm0] at hX hB I PL ⊢
  obtain ⟨m1, hm1⟩ : ∃ m, gs.length = m := ⟨_, rfl⟩
  rw [hm1] at I PL ⊢
  obtain ⟨m2, hm2⟩ : ∃ m, ps.length = m := ⟨_, rfl⟩
  rw [hm2] at PL ⊢
  obtain ⟨c0, c1, c2, -⟩ := hX.three
  have HX := Lib.hid hX
  have HB := Lib.hid hB
  clear hin hm0 hlen hX hB hing hr hm1 hm2 hinp hpl hpc hpm g1 g2 g4 g5 g6 hR
  go_enter Try.func21, Try.ntmps21
  go_wp2_with fail
  refine I.out.mono ?_
  rintro e w2 ⟨rfl, hb2⟩
  have HB2 := Lib.hid (HB.out.trans (hb2.mono HB.out.size))
  have HX2 := Lib.hid (HX.out.below hb2 HX.out.lt)
  clear I HB hb2 c0 c1 c2
  obtain ⟨c0, c1, c2, -⟩ := HX2.out.three
  have PL2 := Lib.hid (PL.out _ HB2.out)
  go_wp2_with fail
  refine PL2.out.mono ?_
  rintro e w3 ⟨rfl, hb3⟩
  have HB3 := Lib.hid (HB2.out.trans (hb3.mono HB2.out.size))
  clear HB2 hb3 c0 c1 c2
  go_wp2_with fail
  go_ret2
  exact ⟨rfl, HB3.out⟩
end Go.Proofs.Ytogdiahojbonaaa
