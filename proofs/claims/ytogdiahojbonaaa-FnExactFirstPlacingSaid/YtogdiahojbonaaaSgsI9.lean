/- Chapter 9, impl side: impl.seatGroups, impl.IsPlacing, impl.PlaceRow. -/
import Derived.Test.YtogdiahojbonaaaSgI9
import Derived.Test.YtogdiahojbonaaaRoomI9
import Derived.Test.YtogdiahojbonaaaGrpS9
import Derived.Test.YtogdiahojbonaaaMade
namespace Go.Proofs.Ytogdiahojbonaaa
open Go.RowKit

theorem seated_next {n : Nat} {S : Nat → Bool} {gs ps : List Int} {k Z X : Nat} (hX : ps[k]?.getD 0 = (X : Int)) (hZ : gs[k]?.getD 0 = (Z : Int)) : tk n (upTo (seatedM S gs ps k) X (X + Z)) = tk n (seatedM S gs ps (k + 1)) := by
  apply tk_congr
  intro q _
  rw [seatedM_succ]
  unfold upTo grpAt
  rw [hX, hZ]
  have e1 : decide (X ≤ q) = decide ((X : Int) ≤ (q : Int)) := decide_eq_decide.2 (by omega)
  have e2 : decide (q < X + Z) = decide ((q : Int) < (X : Int) + (Z : Int)) := decide_eq_decide.2 (by omega)
  rw [e1, e2]

/-- a Row stored over the Row that came in -/
theorem Beg.turn {w : World} {n : Int} {ring : Bool} {p : Option Addr} {m cap : Nat} {wb : World} (h : Beg w n ring p m cap wb) (n' : Int) (ring' : Bool) (p' : Option Addr) (m' cap' : Nat) :
    Beg w n' ring' p' m' cap' (((wb.setCell ⟨w.heap.size, 0, none⟩ (.int .i64 n')).setCell ⟨w.heap.size, 1, none⟩ (.bool ring')).setCell ⟨w.heap.size, 2, none⟩ (.slice p' m' cap')) :=
  ⟨((h.row.set 0 _).set 1 _).set 2 _, ((h.res.other (a := ⟨w.heap.size, 0, none⟩) (by show w.heap.size + 1 ≠ w.heap.size; omega) _).other (a := ⟨w.heap.size, 1, none⟩) (by show w.heap.size + 1 ≠ w.heap.size; omega) _).other (a := ⟨w.heap.size, 2, none⟩) (by show w.heap.size + 1 ≠ w.heap.size; omega) _,
   ((h.bel.setCell (Nat.le_refl _) _).setCell (Nat.le_refl _) _).setCell (Nat.le_refl _) _⟩

set_option maxRecDepth 4000 in
set_option maxHeartbeats 4000000 in
theorem seatGroups_any (n : Nat) (p : Option Addr) (cap : Nat) (S : Nat → Bool) (qg : Option Addr) (cg : Nat) (gs : List Int) (d : Int) (qp : Option Addr) (cp : Nat) (ps : List Int) (w : World) (lo hi lo2 hi2 lo3 hi3 : Nat)
    (hin : Ri lo hi w p (ints (tk n S))) (h2 : 2 ≤ n) (hn : n ≤ 24) (hing : Ri lo2 hi2 w qg gs) (hg0 : 1 ≤ gs.length) (hgl : gs.length ≤ 5) (hinp : Ri lo3 hi3 w qp ps) (hg1 : ∀ g ∈ gs, 1 ≤ g) (hp64 : ∀ x ∈ ps, -9223372036854775808 ≤ x ∧ x ≤ 9223372036854775807) :
    Calls Try.prog 43 #[rowV n false p (ints (tk n S)).length cap, .slice qg gs.length cg, .int .i64 d, .slice qp ps.length cp] w
      (if plgB n S d gs ps then MadeRow w n false (ints (tk n (seatedM S gs ps gs.length))) true else MadeRow w 0 false [] false) := by
  have HE0 := Lib.hid (Beg.start w n false p (ints (tk n S)).length cap)
  have HR0 : Hid (∃ lo hi, Ri lo hi ((w.alloc (.cells #[.int .i64 n, .bool false, .slice p (ints (tk n S)).length cap] 28)).alloc (.cells #[.int .i64 0, .bool false, .slice none 0 0] 28)) p (ints (tk n S))) := ⟨lo, hi, hin.below HE0.out.bel hin.top⟩
  have HI2 := Lib.hid (fun (w' : World) (h' : Below w.heap.size w w') => hing.below h' hing.top)
  have HI3 := Lib.hid (fun (w' : World) (h' : Below w.heap.size w w') => hinp.below h' hinp.top)
  have HRM := Lib.hid (fun (T : Nat → Bool) (p' : Option Addr) (c' : Nat) (z x : Int) (w' : World) (lo hi : Nat) (h : Ri lo hi w' p' (ints (tk n T))) (hz : 1 ≤ z) (hx : -9223372036854775808 ≤ x ∧ x ≤ 9223372036854775807) => hasRoom_any n p' c' T z d x w' lo hi h hn hz hx)
  have HSG := Lib.hid (fun (T : Nat → Bool) (p' : Option Addr) (c' : Nat) (Z X : Nat) (w' : World) (lo hi : Nat) (h : Ri lo hi w' p' (ints (tk n T))) (hZ : 1 ≤ Z) (hXZ : X + Z ≤ n) => seatGroup_any n p' c' T Z X w' lo hi h h2 hn hZ hXZ)
  have HG1 : Hid (∀ k, k < gs.length → 1 ≤ gs[k]?.getD 0) := by
    show ∀ _, _
    intro k hk
    rw [List.getElem?_eq_getElem hk]
    exact hg1 _ (List.getElem_mem hk)
  have HP6 : Hid (∀ k, k < ps.length → -9223372036854775808 ≤ ps[k]?.getD 0 ∧ ps[k]?.getD 0 ≤ 9223372036854775807) := by
    show ∀ _, _
    intro k hk
    rw [List.getElem?_eq_getElem hk]
    exact hp64 _ (List.getElem_mem hk)
  have HNX := Lib.hid (fun k Z X hX hZ => seated_next (n := n) (S := S) (gs := gs) (ps := ps) (k := k) (Z := Z) (X := X) hX hZ)
  have HST := Lib.hid (plcUp_succ n S d gs ps)
  by_cases hne : ps.length = gs.length
  · have hD : plgB n S d gs ps = plcUp n S d gs ps gs.length := by
      unfold plgB
      rw [decide_eq_true hne, Bool.true_and]
    rw [hD]
    have HNO := Lib.hid (fun (i : Nat) (hi' : i < gs.length) h => plcUp_false (n := n) (S := S) (d := d) (gs := gs) (ps := ps) hi' h)
    obtain ⟨R, hR⟩ : ∃ R, plcUp n S d gs ps gs.length = R := ⟨_, rfl⟩
    rw [hR] at HNO ⊢
    obtain ⟨g0, hg⟩ : ∃ k, gs.length = k := ⟨_, rfl⟩
    have hk0 : ps.length = g0 := by omega
    rw [hg] at HG1 HNO hR hg0 hgl ⊢
    rw [hk0] at HP6 ⊢
    have HR := Lib.hid hR
    have HG := Lib.hid hg
    have HK := Lib.hid hk0
    obtain ⟨m, hm⟩ : ∃ m, (ints (tk n S)).length = m := ⟨_, rfl⟩
    have HM := Lib.hid hm
    have HS0 : Hid (seatedM S gs ps 0 = S) := seatedM_zero S gs ps
    rw [hm] at HE0 HR0 ⊢
    clear hin hing hinp hg1 hp64 hne hD hR hg hk0 hm
    have HQT := Lib.hid (if_pos (rfl : true = true) : (if true = true then MadeRow w n false (ints (tk n (seatedM S gs ps g0))) true else MadeRow w 0 false [] false) = MadeRow w n false (ints (tk n (seatedM S gs ps g0))) true)
    have HQF := Lib.hid (if_neg (by decide : ¬ false = true) : (if false = true then MadeRow w n false (ints (tk n (seatedM S gs ps g0))) true else MadeRow w 0 false [] false) = MadeRow w 0 false [] false)
    obtain ⟨QT, hQT⟩ : ∃ Q, Q = fun b : Bool => (if b = true then MadeRow w n false (ints (tk n (seatedM S gs ps g0))) true else MadeRow w 0 false [] false) := ⟨_, rfl⟩
    have eQ : (if R = true then MadeRow w n false (ints (tk n (seatedM S gs ps g0))) true else MadeRow w 0 false [] false) = QT R := by rw [hQT]
    rw [eQ]
    have HQ1 : Hid (QT true = MadeRow w n false (ints (tk n (seatedM S gs ps g0))) true) := by show _ = _; rw [hQT]; exact HQT.out
    have HQ2 : Hid (QT false = MadeRow w 0 false [] false) := by show _ = _; rw [hQT]; exact HQF.out
    clear hQT eQ HQT HQF
    go_enter Try.func43, Try.ntmps43
    go_wp2_with fail
    go_loopw [10, 11, 20] (fun _ _ i wr => ∃ (k : Nat) (pk : Option Addr) (mk ck : Nat), k ≤ g0 ∧ i = .int .i64 (k : Int) ∧ Hid (plcUp n S d gs ps k = true) ∧ Hid ((ints (tk n (seatedM S gs ps k))).length = mk) ∧ Hid (Beg w n false pk mk ck wr) ∧ Hid (∃ lo hi, Ri lo hi wr pk (ints (tk n (seatedM S gs ps k)))) ∧ Hid (0 < k → Out w.heap.size wr (.slice pk mk ck) (ints (tk n (seatedM S gs ps k))))) (fun _ _ i _ => g0 - (intOf i).toNat)
    case atStart => exact ⟨0, p, m, cap, Nat.zero_le _, rfl, Lib.hid rfl, by show _ = _; rw [HS0.out]; exact HM.out, HE0, by show ∃ _ _, _; rw [HS0.out]; exact HR0.out, Lib.hid (fun h => absurd h (Nat.lt_irrefl _))⟩
    case round =>
      obtain ⟨k, pk, mk, ck, hk, rfl, HU, HMK, HE, HRI, HO⟩ := hrel
      clear HE0 HR0 HS0 HM
      obtain ⟨c0, c1, c2, -⟩ := HE.out.row.three
      by_cases hlt : k < g0
      · have hk1 : (k : Int) < (g0 : Int) := by omega
        have hk00 : (0 : Int) ≤ (k : Int) := by omega
        obtain ⟨bg, og, rfl, -, -, -, hcg⟩ := (HI2.out wr HE.out.bel).int (by have := HG.out; omega)
        have hg := hcg k (by have := HG.out; omega)
        obtain ⟨bp, op, rfl, -, -, hbp, hcp⟩ := (HI3.out wr HE.out.bel).int (by have := HK.out; omega)
        have hp := hcp k (by have := HK.out; omega)
        have hz1 := HG1.out k hlt
        have hx6 := HP6.out k hlt
        have hst := HST.out k
        rw [HU.out, Bool.true_and] at hst
        have hno := HNO.out k hlt
        have HNK := HNX.out k
        obtain ⟨z, hz⟩ : ∃ z, gs[k]?.getD 0 = z := ⟨_, rfl⟩
        obtain ⟨x, hx⟩ : ∃ x, ps[k]?.getD 0 = x := ⟨_, rfl⟩
        rw [hz] at hg hz1 hst hno HNK
        rw [hx] at hp hx6 hst hno HNK
        obtain ⟨l1, l2, hri⟩ := HRI.out
        have HR1 := HRM.out (seatedM S gs ps k) pk ck z x wr.drew l1 l2 (hri.bel ((Below.refl _ wr).drew)) hz1 hx6
        have HSG1 := fun (Z X : Nat) (w' : World) (h' : Below wr.heap.size wr w') => HSG.out (seatedM S gs ps k) pk ck Z X w' l1 l2 (hri.bel h')
        have HV := Lib.hid (fun h => fitG_true (n := n) (S := seatedM S gs ps k) (d := d) (size := z) (p := x) |>.1 h)
        obtain ⟨B, hB⟩ : ∃ B, fitG n (seatedM S gs ps k) d z x = B := ⟨_, rfl⟩
        rw [hB] at hst hno HR1 HV
        rw [HMK.out] at HR1 HSG1
        replace HR1 := Lib.hid HR1
        replace HSG1 := Lib.hid HSG1
        replace hst := Lib.hid hst
        replace hno := Lib.hid hno
        replace HNK := Lib.hid HNK
        clear hcg hcp hz hx hB hri HRI HMK
        go_wp2_with fail
        go_still_tail 7, (by kernel_rfl)
        change wpList _ _ _ _ _ wr.drew
        go_wp2_with fail
        refine HR1.out.mono ?_
        rintro e w2 ⟨rfl, hb2⟩
        have hb3 : Below wr.heap.size wr w2 := ((Below.refl _ wr).drew).trans hb2
        have HE2 := Lib.hid (HE.out.next hb3)
        have HB3 := Lib.hid hb3
        clear hb2 HR1 c0 c1 c2
        cases B with
        | false =>
          have hr := hno.out rfl
          subst hr
          obtain ⟨z0, z1, z2, y0, y1, y2⟩ := HE2.out.res.three
          clear HB3 hb3 HE HO HNK HSG1 HV hst HU
          go_wp2_with fail
          refine ret_row2 Try.results43 rfl rfl (HE2.out.out _ _ _).1 rfl ?_
          rw [HQ2.out]
          exact ⟨_, rfl, Out.none _ _, (HE2.out.out _ _ _).2⟩
        | true =>
          obtain ⟨v1, v2, -⟩ := HV.out rfl
          obtain ⟨X, rfl⟩ : ∃ X : Nat, x = X := ⟨x.toNat, by omega⟩
          obtain ⟨Z, rfl⟩ : ∃ Z : Nat, z = Z := ⟨z.toNat, by omega⟩
          have hp2 := (hb3.cell (p := ⟨bp, op + k, none⟩) (by have := HE.out.bel.size; show bp < _; omega)).trans hp
          have HSG2 := HSG1.out Z X w2.drew hb3.drew (by omega) (by omega)
          rw [HNK.out Z X rfl rfl] at HSG2
          replace HSG2 := Lib.hid HSG2
          obtain ⟨c0, c1, c2, f0, f1, f2⟩ := HE2.out.row.three
          clear HSG1 HNK HV hno HE hp hg HB3 hb3 HO
          go_wp2_with fail
          go_still_tail 6, (by kernel_rfl)
          change wpList _ _ _ _ _ w2.drew
          go_wp2_with fail
          refine HSG2.out.mono ?_
          rintro e w3 ⟨v, rfl, hO3, hb4⟩
          obtain ⟨qv, kv, rfl, -, -, hR3, -⟩ := hO3.rd
          have HE3 := HE2.out.next (((Below.refl _ w2).drew).trans hb4)
          obtain ⟨d0, d1, d2, f3, f4, f5⟩ := HE3.row.three
          have HE4 := Lib.hid (HE3.turn n false qv (ints (tk n (seatedM S gs ps (k + 1)))).length kv)
          have HO4 := Lib.hid ((hO3.mono (show w.heap.size ≤ w2.drew.heap.size from HE2.out.bel.size)).boxed HE3.row (.int .i64 (n : Int)) (.bool false) (.slice qv (ints (tk n (seatedM S gs ps (k + 1)))).length kv))
          have HRI4 : Hid (∃ lo hi, Ri lo hi (((w3.setCell ⟨w.heap.size, 0, none⟩ (.int .i64 (n : Int))).setCell ⟨w.heap.size, 1, none⟩ (.bool false)).setCell ⟨w.heap.size, 2, none⟩ (.slice qv (ints (tk n (seatedM S gs ps (k + 1)))).length kv)) qv (ints (tk n (seatedM S gs ps (k + 1))))) := by
            obtain ⟨qv', kv', e, -, -, hR, -⟩ := HO4.out.rd
            simp only [Value.slice.injEq, true_and] at e
            obtain ⟨rfl, -⟩ := e
            exact ⟨_, _, hR⟩
          obtain ⟨mm, hmm⟩ : ∃ mm, (ints (tk n (seatedM S gs ps (k + 1)))).length = mm := ⟨_, rfl⟩
          rw [hmm] at HE4 HO4 HRI4 ⊢
          have HMM := Lib.hid hmm
          clear hO3 hb4 hR3 HE3 HE2 HSG2 c0 c1 c2 f0 f1 f2 hmm
          go_wp2_with fail
          go_roundw
          case rel => exact ⟨k + 1, qv, mm, kv, by omega, by go_num, hst, HMM, HE4, HRI4, Lib.hid (fun _ => HO4.out)⟩
          case measure => simp [intOf]; omega
      · have hkg : k = g0 := by omega
        subst hkg
        have hr : R = true := HR.out.symm.trans HU.out
        subst hr
        have HO2 := Lib.hid (HO.out (by omega))
        obtain ⟨z0, z1, z2, y0, y1, y2⟩ := HE.out.res.three
        have HOB := Lib.hid (HO2.out.boxed HE.out.res (.int .i64 (n : Int)) (.bool false) (.slice pk mk ck))
        clear HO HRI HMK HU
        go_wp2_with fail
        refine ret_row2 Try.results43 rfl rfl (HE.out.out _ _ _).1 rfl ?_
        rw [HQ1.out]
        exact ⟨_, rfl, HOB.out, (HE.out.out _ _ _).2⟩
  · have hD : plgB n S d gs ps = false := by
      unfold plgB
      rw [decide_eq_false hne, Bool.false_and]
    rw [hD, if_neg (by decide)]
    have hne' : ¬ (ps.length : Int) = (gs.length : Int) := by omega
    obtain ⟨z0, z1, z2, y0, y1, y2⟩ := HE0.out.res.three
    unfold MadeRow
    clear hin hing hinp hD
    go_enter Try.func43, Try.ntmps43
    go_wp2_with fail
    exact ret_row2 Try.results43 rfl rfl HE0.out.res rfl ⟨_, rfl, Out.none _ _, HE0.out.bel⟩

/-- what seatGroups gives, as a value -/
theorem madeIf (w : World) (n : Int) (L : List Int) (R : Bool) : (if R then MadeRow w n false L true else MadeRow w 0 false [] false) = MadeRow w (if R then n else 0) false (if R then L else []) R := by
  cases R <;> rfl

set_option maxRecDepth 4000 in
set_option maxHeartbeats 1000000 in
theorem isPlacingI_bad (s : Int) (ring : Bool) (p : Option Addr) (cap : Nat) (xs : List Int) (qg : Option Addr) (cg : Nat) (gs : List Int) (d : Int) (qp : Option Addr) (cp : Nat) (ps : List Int) (w : World) (lo hi lo2 hi2 : Nat)
    (hin : Ri lo hi w p xs) (hlen : xs.length ≤ 1048576) (hing : Ri lo2 hi2 w qg gs) (hleng : gs.length ≤ 1048576) (hr : pvB s ring xs gs d = false) :
    Calls Try.prog 22 #[rowV s ring p xs.length cap, .slice qg gs.length cg, .int .i64 d, .slice qp ps.length cp] w fun e w' => e = .returned (.tuple #[.bool false, .bool false]) ∧ Below w.heap.size w w' := by
  have hX := OwnArr.made w 28 [.int .i64 s, .bool ring, .slice p xs.length cap]
  have hB := box_below w s ring p xs.length cap 28
  have I := canPlace_any s ring p cap xs qg cg gs d _ lo hi lo2 hi2 (hin.below hB hin.top) hlen (hing.below hB hing.top) hleng
  rw [hr] at I
  replace I := Lib.hid I
  obtain ⟨m0, hm0⟩ : ∃ m, xs.length = m := ⟨_, rfl⟩
  rw [hm0] at hX hB I ⊢
  obtain ⟨m1, hm1⟩ : ∃ m, gs.length = m := ⟨_, rfl⟩
  rw [hm1] at I ⊢
  obtain ⟨c0, c1, c2, -⟩ := hX.three
  have HB := Lib.hid hB
  clear hin hm0 hlen hX hB hing hleng hr hm1
  go_enter Try.func22, Try.ntmps22
  go_wp2_with fail
  refine I.out.mono ?_
  rintro e w2 ⟨rfl, hb2⟩
  have HB2 := Lib.hid (HB.out.trans (hb2.mono HB.out.size))
  clear I HB hb2 c0 c1 c2
  go_wp2_with fail
  go_ret2
  exact ⟨rfl, HB2.out⟩

set_option maxRecDepth 4000 in
set_option maxHeartbeats 2000000 in
theorem isPlacingI_any (n : Nat) (p : Option Addr) (cap : Nat) (S : Nat → Bool) (qg : Option Addr) (cg : Nat) (gs : List Int) (d : Int) (qp : Option Addr) (cp : Nat) (ps : List Int) (w : World) (lo hi lo2 hi2 lo3 hi3 : Nat)
    (hin : Ri lo hi w p (ints (tk n S))) (hing : Ri lo2 hi2 w qg gs) (hinp : Ri lo3 hi3 w qp ps) (hp64 : ∀ x ∈ ps, -9223372036854775808 ≤ x ∧ x ≤ 9223372036854775807) (hr : pvB n false (ints (tk n S)) gs d = true) :
    Calls Try.prog 22 #[rowV n false p (ints (tk n S)).length cap, .slice qg gs.length cg, .int .i64 d, .slice qp ps.length cp] w fun e w' => e = .returned (.tuple #[.bool (plgB n S d gs ps), .bool true]) ∧ Below w.heap.size w w' := by
  obtain ⟨g1, g2, -, g4, g5, g6⟩ := pvB_is hr
  have hn : 2 ≤ n ∧ n ≤ 24 := by
    obtain ⟨n', S', e, -, h0, h, -⟩ := rowB_is g2
    have : n = n' := by omega
    omega
  have hlen := ints_tk_len n S
  have hX := OwnArr.made w 28 [.int .i64 n, .bool false, .slice p (ints (tk n S)).length cap]
  have hB := box_below w n false p (ints (tk n S)).length cap 28
  have I := canPlace_any n false p cap (ints (tk n S)) qg cg gs d _ lo hi lo2 hi2 (hin.below hB hin.top) (by omega) (hing.below hB hing.top) (by omega)
  rw [hr] at I
  replace I := Lib.hid I
  have PL := fun (w' : World) (h' : Below w.heap.size w w') => seatGroups_any n p cap S qg cg gs d qp cp ps w' lo hi lo2 hi2 lo3 hi3 (hin.below h' hin.top) hn.1 hn.2 (hing.below h' hing.top) g4 g5 (hinp.below h' hinp.top) g1 hp64
  obtain ⟨R, hR⟩ : ∃ R, plgB n S d gs ps = R := ⟨_, rfl⟩
  rw [hR] at PL ⊢
  simp only [madeIf] at PL
  unfold MadeRow at PL
  obtain ⟨N, hN⟩ : ∃ N : Int, (if R then (n : Int) else 0) = N := ⟨_, rfl⟩
  obtain ⟨L, hL⟩ : ∃ L, (if R then ints (tk n (seatedM S gs ps gs.length)) else []) = L := ⟨_, rfl⟩
  simp only [hN, hL] at PL
  replace PL := Lib.hid PL
  obtain ⟨m0, hm0⟩ : ∃ m, (ints (tk n S)).length = m := ⟨_, rfl⟩
  rw [hm0] at hX hB I PL ⊢
  obtain ⟨m1, hm1⟩ : ∃ m, gs.length = m := ⟨_, rfl⟩
  rw [hm1] at I PL ⊢
  obtain ⟨m2, hm2⟩ : ∃ m, ps.length = m := ⟨_, rfl⟩
  rw [hm2] at PL ⊢
  obtain ⟨c0, c1, c2, -⟩ := hX.three
  have HX := Lib.hid hX
  have HB := Lib.hid hB
  clear hin hm0 hlen hX hB hing hr hm1 hm2 hinp g1 g2 g4 g5 g6 hR hL hN
  go_enter Try.func22, Try.ntmps22
  go_wp2_with fail
  refine I.out.mono ?_
  rintro e w2 ⟨rfl, hb2⟩
  have HB2 := Lib.hid (HB.out.trans (hb2.mono HB.out.size))
  have HX2 := Lib.hid (HX.out.below hb2 HX.out.lt)
  clear I HB hb2 c0 c1 c2
  obtain ⟨c0, c1, c2, -⟩ := HX2.out.three
  have PL2 := Lib.hid (PL.out _ HB2.out)
  go_wp2_with fail
  refine PL2.out.mono ?_
  rintro e w3 ⟨v, rfl, hO, hb3⟩
  have HB3 := Lib.hid ((HB2.out.trans (hb3.mono HB2.out.size)).alloc (Nat.le_trans HB2.out.size hb3.size) (.cells #[.int .i64 N, .bool false, v] 28))
  obtain ⟨qv, kv, rfl, -⟩ := hO.rd
  clear HB2 hb3 c0 c1 c2 hO
  go_wp2_with fail
  go_ret2
  exact ⟨rfl, HB3.out⟩

theorem isPlacing_both (s0 : Int) (r0 : Bool) (xs0 : List Int) (xs1 : List Int) (a2 : Int) (xs3 : List Int) : ∃ (y0 : Bool) (y1 : Bool),
    (∀ (q0 : Option Addr) (c0 : Nat) (q1 : Option Addr) (c1 : Nat) (q3 : Option Addr) (c3 : Nat) (w : World) (lo0 hi0 : Nat) (lo1 hi1 : Nat) (lo3 hi3 : Nat), Ri lo0 hi0 w q0 xs0 → xs0.length ≤ 1048576 → xs0.length ≤ c0 → c0 ≤ maxLen → Ri lo1 hi1 w q1 xs1 → xs1.length ≤ 1048576 → xs1.length ≤ c1 → c1 ≤ maxLen → Ri lo3 hi3 w q3 xs3 → xs3.length ≤ 1048576 → xs3.length ≤ c3 → c3 ≤ maxLen → Calls Try.prog 21 #[rowV s0 r0 q0 xs0.length c0, .slice q1 xs1.length c1, .int .i64 a2, .slice q3 xs3.length c3] w fun e w' => e = .returned (.tuple #[.bool y0, .bool y1]) ∧ Below w.heap.size w w') ∧
    ((∀ x ∈ xs3, -9223372036854775808 ≤ x ∧ x ≤ 9223372036854775807) → ∀ (q0 : Option Addr) (c0 : Nat) (q1 : Option Addr) (c1 : Nat) (q3 : Option Addr) (c3 : Nat) (w : World) (lo0 hi0 : Nat) (lo1 hi1 : Nat) (lo3 hi3 : Nat), Ri lo0 hi0 w q0 xs0 → xs0.length ≤ 1048576 → xs0.length ≤ c0 → c0 ≤ maxLen → Ri lo1 hi1 w q1 xs1 → xs1.length ≤ 1048576 → xs1.length ≤ c1 → c1 ≤ maxLen → Ri lo3 hi3 w q3 xs3 → xs3.length ≤ 1048576 → xs3.length ≤ c3 → c3 ≤ maxLen → Calls Try.prog 22 #[rowV s0 r0 q0 xs0.length c0, .slice q1 xs1.length c1, .int .i64 a2, .slice q3 xs3.length c3] w fun e w' => e = .returned (.tuple #[.bool y0, .bool y1]) ∧ Below w.heap.size w w') := by
  cases h : pvB s0 r0 xs0 xs1 a2 with
  | false =>
    exact ⟨false, false,
      fun q0 c0 q1 c1 q3 c3 w lo0 hi0 lo1 hi1 lo3 hi3 h1 h2 _ _ h3 h4 _ _ _ _ _ _ => isPlacingS_bad s0 r0 q0 c0 xs0 q1 c1 xs1 a2 q3 c3 xs3 w lo0 hi0 lo1 hi1 h1 h2 h3 h4 h,
      fun _ q0 c0 q1 c1 q3 c3 w lo0 hi0 lo1 hi1 lo3 hi3 h1 h2 _ _ h3 h4 _ _ _ _ _ _ => isPlacingI_bad s0 r0 q0 c0 xs0 q1 c1 xs1 a2 q3 c3 xs3 w lo0 hi0 lo1 hi1 h1 h2 h3 h4 h⟩
  | true =>
    obtain ⟨-, g2, rfl, -⟩ := pvB_is h
    obtain ⟨n, S, rfl, rfl, -⟩ := rowB_is g2
    exact ⟨plgB n S a2 xs1 xs3, true,
      fun q0 c0 q1 c1 q3 c3 w lo0 hi0 lo1 hi1 lo3 hi3 h1 _ _ _ h3 _ _ _ h5 h6 h7 h8 => isPlacingS_any n q0 c0 S q1 c1 xs1 a2 q3 c3 xs3 w lo0 hi0 lo1 hi1 lo3 hi3 h1 h3 h5 h6 h7 h8 h,
      fun h64 q0 c0 q1 c1 q3 c3 w lo0 hi0 lo1 hi1 lo3 hi3 h1 _ _ _ h3 _ _ _ h5 _ _ _ => isPlacingI_any n q0 c0 S q1 c1 xs1 a2 q3 c3 xs3 w lo0 hi0 lo1 hi1 lo3 hi3 h1 h3 h5 h64 h⟩
end Go.Proofs.Ytogdiahojbonaaa
