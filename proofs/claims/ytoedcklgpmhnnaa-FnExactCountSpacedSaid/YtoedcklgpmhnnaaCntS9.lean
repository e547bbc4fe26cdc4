/- Chapter 9, spec side: spec.l9Counts. -/
import Derived.Test.YtoedcklgpmhnnaaSpkM9
import Derived.Test.YtoedcklgpmhnnaaLinS9
import Derived.Test.YtoedcklgpmhnnaaOpnS9
import Derived.Test.YtoedcklgpmhnnaaGrpS9
namespace Go.Proofs.Ytoedcklgpmhnnaa
open Go.RowKit

set_option maxRecDepth 4000 in
set_option maxHeartbeats 2000000 in
theorem l9Counts_any (n : Nat) (ring : Bool) (p : Option Addr) (cap : Nat) (S : Nat → Bool) (D0 : Nat) (w : World) (lo hi : Nat) (hin : Ri lo hi w p (ints (tk n S))) (hn1 : 1 ≤ n) (hn : n ≤ 24) (hD0 : 1 ≤ D0) :
    Calls Try.prog 38 #[rowV n ring p (ints (tk n S)).length cap, .int .i64 (D0 : Int)] w fun ex w' => ∃ g c, ex = .returned (.slice (some ⟨g, 0, none⟩) 25 c) ∧ Out w.heap.size w' (.slice (some ⟨g, 0, none⟩) 25 c) (ints (spkR n ring S D0)) ∧ Below w.heap.size w w' := by
  have hlen := ints_tk_len n S
  rw [← spkR_min]
  obtain ⟨D, hD⟩ : ∃ D, min D0 n = D := ⟨_, rfl⟩
  rw [hD]
  have hDi : (if (D0 : Int) < (n : Int) then (D0 : Int) else (n : Int)) = (D : Int) := by
    rw [← hD]
    by_cases h : D0 < n
    · rw [if_pos (by omega)]; omega
    · rw [if_neg (by omega)]; omega
  have hd1 : 1 ≤ D := by omega
  have hdn : D ≤ n := by omega
  have LS := Lib.hid (fun a b w' => least9_any a b w')
  have L0 := fun w' => least9_any (D0 : Int) (n : Int) w'
  rw [hDi] at L0
  replace L0 := Lib.hid L0
  have hX := OwnArr.made w 28 [Value.int .i64 n, Value.bool ring, Value.slice p (ints (tk n S)).length cap]
  have hB := box_below w n ring p (ints (tk n S)).length cap 28
  have OP := Lib.hid (fun (w' : World) (h' : Below w.heap.size w w') => l9Open_any n ring p cap S D w' lo hi (hin.below h' hin.top) hn)
  obtain ⟨m, hm⟩ : ∃ m, (ints (tk n S)).length = m := ⟨_, rfl⟩
  rw [hm] at hX hB OP ⊢
  have HX := Lib.hid hX
  have HB := Lib.hid hB
  have hn1i : (n : Int) - 1 = ((n - 1 : Nat) : Int) := by omega
  obtain ⟨n1, hN1⟩ : ∃ x, n - 1 = x := ⟨_, rfl⟩
  rw [hN1] at hn1i
  have hwn1 : IntKind.i64.wrap (n1 : Int) = (n1 : Int) := IntWalk.i64_in _ (by omega)
  have hn1n : n1 + 1 = n := by omega
  have HNN := Lib.hid hn1n
  have hD24 : D ≤ 24 := by omega
  have hn1l : n1 < n := by omega
  have HLF : Hid (ring = false → crow D (rngL (opM n false S D) 0 n) = spkR n ring S D) := fun h => by rw [h]; exact spkR_line
  have HRF : Hid (ring = true → (List.range 25).map (cnR n (opM n true S D) D n) = spkR n ring S D) := fun h => by rw [h]; exact spkR_ring hd1 hdn
  obtain ⟨RES, hRES⟩ : ∃ R, spkR n ring S D = R := ⟨_, rfl⟩
  rw [hRES] at HLF HRF ⊢
  clear hin hX hB hm hlen hD hDi hN1 hn1n hRES
  obtain ⟨c0, c1, c2, -⟩ := HX.out.three
  go_enter Try.func38, Try.ntmps38
  go_wp2_with fail
  refine (L0.out _).mono ?_
  rintro e w2 ⟨rfl, rfl⟩
  go_wp2_with fail
  refine (OP.out _ HB.out).mono ?_
  rintro e w2 ⟨q, cq, rfl, hRq, hb2⟩
  have hsz2 := hb2.size
  have hszA : (w.alloc (.cells #[Value.int .i64 n, Value.bool ring, Value.slice p m cap] 28)).heap.size = w.heap.size + 1 := by simp
  have hlt2 : w.heap.size < w2.heap.size := by omega
  have HRQ := Lib.hid hRq
  have HX2 := Lib.hid (HX.out.below hb2 (by omega))
  have HB2 := Lib.hid (HB.out.trans (hb2.mono (by omega)))
  have HL2 := Lib.hid hlt2
  clear hRq hb2 hsz2 hszA hlt2 HX HB OP L0 c0 c1 c2
  obtain ⟨c0, c1, c2, -⟩ := HX2.out.three
  cases ring with
  | false =>
    have LN := l9Line_any n 0 n1 D (opM n false S D) q cq w2 _ _ HRQ.out hn1l hn (by omega) hd1 hD24
    rw [HNN.out, HLF.out rfl] at LN
    have LN2 : Hid (Calls Try.prog 64 #[.slice q n cq, .int .i64 0, .int .i64 (n1 : Int), .int .i64 (D : Int)] w2 fun ex w' => ∃ g c, ex = .returned (.slice (some ⟨g, 0, none⟩) 25 c) ∧ Out w2.heap.size w' (.slice (some ⟨g, 0, none⟩) 25 c) (ints RES) ∧ Below w2.heap.size w2 w') := LN
    clear LN
    go_wp2_with fail
    refine LN2.out.mono ?_
    rintro e w3 ⟨g, c, rfl, hO, hb3⟩
    have HO := Lib.hid (hO.mono (Nat.le_of_lt HL2.out))
    have HB3 := Lib.hid (HB2.out.trans (hb3.mono (Nat.le_of_lt HL2.out)))
    clear hO hb3 LN2
    go_wp2_with fail
    go_ret
    exact ⟨_, _, rfl, HO.out, HB3.out⟩
  | true =>
    have HFIN := Lib.hid (HRF.out rfl)
    clear HRF HLF
    obtain ⟨O, hO⟩ : ∃ O, opM n true S D = O := ⟨_, rfl⟩
    rw [hO] at HFIN HRQ
    obtain ⟨ob, oo, rfl, -⟩ := HRQ.out.cells (by rw [bv_length, bl_length]; omega)
    have HC : Hid (∀ (w' : World), Below w2.heap.size w2 w' → ∀ i, i < n → w'.cell? ⟨ob, oo + i, none⟩ = some (.bool (O i))) := by
      show ∀ _, _
      intro w' h' i hi'
      obtain ⟨b2, o2, e2, -, -, hc⟩ := (HRQ.out.below h' HRQ.out.top).cells (by rw [bv_length, bl_length]; omega)
      simp only [Option.some.injEq, Addr.mk.injEq, and_true] at e2
      obtain ⟨rfl, rfl⟩ := e2
      rw [hc i (by rw [bv_length, bl_length]; exact hi'), bv_get (by rw [bl_length]; exact hi'), bl_getD hi']
    have HLN : Hid (∀ (a e : Nat) (w' : World), Below w2.heap.size w2 w' → e < n → a ≤ 48 → Calls Try.prog 64 #[.slice (some ⟨ob, oo, none⟩) n cq, .int .i64 (a : Int), .int .i64 (e : Int), .int .i64 (D : Int)] w' fun ex w'' => ∃ g c, ex = .returned (.slice (some ⟨g, 0, none⟩) 25 c) ∧ Out w'.heap.size w'' (.slice (some ⟨g, 0, none⟩) 25 c) (ints (crow D (rngL O a (e + 1)))) ∧ Below w'.heap.size w' w'') := by
      show ∀ _, _
      intro a e w' h' he ha
      exact l9Line_any n a e D O _ cq w' _ _ (HRQ.out.below h' HRQ.out.top) he hn ha hd1 hD24
    have hZ0 : OwnArr (w2.alloc (.cells (List.replicate 25 (Value.int .i64 0)).toArray 3)) w2.heap.size 3 (List.replicate 25 (Value.int .i64 0)) := OwnArr.made w2 3 (List.replicate 25 (Value.int .i64 0))
    have hcell0 : (w2.alloc (.cells (List.replicate 25 (Value.int .i64 0)).toArray 3)).cell? ⟨w2.heap.size, 0, none⟩ = some (.int .i64 0) := hZ0.cell 0
    have hfree0 := hZ0.free 0
    obtain ⟨w3, hw3⟩ : ∃ w3, w3 = w2.alloc (.cells (List.replicate 25 (Value.int .i64 0)).toArray 3) := ⟨_, rfl⟩
    have hmk := @run_make_row' Try.prog 22 3 (.int .i64 0) 8 Try.underlying22 infoInt rfl .i64 .i64 25 (by omega) (by omega) w2
    rw [madeCells_one, ← hw3, show ((25 : Nat) : Int) = 25 from rfl] at hmk
    have hB3 : Below w2.heap.size w2 w3 := by rw [hw3]; exact (Below.refl _ _).alloc (Nat.le_refl _) _
    rw [← hw3] at hZ0 hcell0 hfree0
    have hset := hZ0.set 0 (.int .i64 1)
    have HO1 : Hid (Out w2.heap.size (w3.setCell ⟨w2.heap.size, 0, none⟩ (.int .i64 1)) (.slice (some ⟨w2.heap.size, 0, none⟩) 25 25) (ints ((List.range 25).map (cnR n O D 0)))) := by
      show Out _ _ _ _
      have e : (List.range 25).map (cnR n O D 0) = 1 :: List.replicate 24 0 := rfl
      rw [e]
      exact out_arr9 (show OwnArr _ _ _ (iv (ints (1 :: List.replicate 24 0))) from hset) (Nat.le_refl _) rfl (by omega)
    have HB1 := Lib.hid (hB3.setCell (p := ⟨w2.heap.size, 0, none⟩) (Nat.le_refl _) (.int .i64 1))
    have HBD : Hid (∀ p k, p < n → cnR n O D p k ≤ 402653185) := by
      show ∀ _, _
      intro p k hp
      have := cnR_le (n := n) (O := O) (d := D) hn1 hn k p (by omega)
      omega
    have HNO : Hid (∀ p, O p = false → cnR n O D (p + 1) = cnR n O D p) := fun p h => cnR_no h
    have HYE : Hid (∀ p, O p = true → mixR (cnR n O D p) (fun k => chl D k (ringR n O D p)) 25 = (List.range 25).map (cnR n O D (p + 1))) := fun p h => cnR_next h
    have HRB : Hid (∀ p k, chl D k (ringR n O D p) ≤ 16777216) := fun p k => chl_bound (by omega)
    have HRE : Hid (∀ p e, p < n → (if (n1 : Int) < ((p + n - D : Nat) : Int) then (n1 : Int) else ((p + n - D : Nat) : Int)) = (e : Nat) → rngL O (p + D) (e + 1) = ringR n O D p ∧ e < n) := by
      show ∀ _, _
      intro p e hp he
      unfold ringR
      have h1 := HNN.out
      have : min (n - 1) (p + n - D) = e := by
        by_cases h : n1 < p + n - D
        · rw [if_pos (by omega)] at he; omega
        · rw [if_neg (by omega)] at he; omega
      rw [this]
      exact ⟨rfl, by omega⟩
    obtain ⟨V, hV⟩ : ∃ V : Nat → Nat → Nat, cnR n O D = V := ⟨_, rfl⟩
    have hv : ∀ p, cnR n O D p = V p := fun p => by rw [← hV]
    rw [hV] at HFIN
    simp only [hv] at HO1 HBD HNO HYE
    clear hset hZ0 hB3 hO HRQ hV hv
    clear hw3
    go_wp2_with fail
    clear hmk hcell0 hfree0 c0 c1 c2
    go_loopw [7, 8, 9] (fun pv _ _ wr => ∃ (p : Nat), p ≤ n ∧ pv = .int .i64 (p : Int) ∧ Hid (Out w2.heap.size wr (.slice (some ⟨w2.heap.size, 0, none⟩) 25 25) (ints ((List.range 25).map (V p)))) ∧ Hid (Below w2.heap.size w2 wr)) (fun pv _ _ _ => n - (intOf pv).toNat)
    case atStart => exact ⟨0, Nat.zero_le _, rfl, HO1, HB1⟩
    case round =>
      obtain ⟨p0, hp, rfl, HO, HBr⟩ := hrel
      clear HO1 HB1
      have HXr := Lib.hid (HX2.out.below HBr.out HL2.out)
      obtain ⟨c0, c1, c2, -⟩ := HXr.out.three
      by_cases hlt : p0 < n
      · have hlti : (p0 : Int) < (n : Int) := by omega
        have hcc := HC.out wr HBr.out p0 hlt
        obtain ⟨b, hb⟩ : ∃ b, O p0 = b := ⟨_, rfl⟩
        have hno := HNO.out p0
        have hye := HYE.out p0
        rw [hb] at hcc hno hye
        cases b with
        | false =>
          have HO2 : Hid (Out w2.heap.size wr (.slice (some ⟨w2.heap.size, 0, none⟩) 25 25) (ints ((List.range 25).map (V (p0 + 1))))) := by
            show Out _ _ _ _
            rw [hno rfl]; exact HO.out
          clear hb hno hye HO
          go_wp2_with fail
          go_roundw
          case rel => exact ⟨p0 + 1, by omega, by go_num, HO2, HBr⟩
          case measure => simp [intOf]; omega
        | true =>
          have HYE2 := Lib.hid (hye rfl)
          clear hb hno hye
          obtain ⟨A, hA⟩ : ∃ A, p0 + D = A := ⟨_, rfl⟩
          have hAi : (p0 : Int) + (D : Int) = (A : Int) := by omega
          have hwA : IntKind.i64.wrap (A : Int) = (A : Int) := IntWalk.i64_in _ (by omega)
          obtain ⟨X, hX⟩ : ∃ X, p0 + n = X := ⟨_, rfl⟩
          have hXi : (p0 : Int) + (n : Int) = (X : Int) := by omega
          have hwX : IntKind.i64.wrap (X : Int) = (X : Int) := IntWalk.i64_in _ (by omega)
          obtain ⟨Y, hY⟩ : ∃ Y, p0 + n - D = Y := ⟨_, rfl⟩
          have hYi : (X : Int) - (D : Int) = (Y : Int) := by omega
          have hwY : IntKind.i64.wrap (Y : Int) = (Y : Int) := IntWalk.i64_in _ (by omega)
          have LS2 := LS.out (n1 : Int) (Y : Int)
          have hre := HRE.out p0
          rw [hY, hA] at hre
          obtain ⟨e, he⟩ : ∃ e : Nat, (if (n1 : Int) < (Y : Int) then (n1 : Int) else (Y : Int)) = (e : Int) := by
            by_cases h : (n1 : Int) < (Y : Int)
            · exact ⟨n1, if_pos h⟩
            · exact ⟨Y, if_neg h⟩
          rw [he] at LS2
          obtain ⟨hre1, hre2⟩ := hre e hlt he
          have LN := HLN.out A e wr HBr.out hre2 (by omega)
          rw [hre1] at LN
          replace LN := Lib.hid LN
          replace LS2 := Lib.hid LS2
          have HV0 : Hid (Out w2.heap.size wr (.slice (some ⟨w2.heap.size, 0, none⟩) 25 25) (ints (mixR (V p0) (fun k => chl D k (ringR n O D p0)) 1))) := by
            show Out _ _ _ _
            rw [mixR_one]; exact HO.out
          have hlb := fun k => HBD.out p0 k hlt
          have hqb := HRB.out p0
          obtain ⟨LQ, hLQ⟩ : ∃ L, ringR n O D p0 = L := ⟨_, rfl⟩
          rw [hLQ] at LN
          simp only [hLQ] at HV0 HYE2 hqb
          have hg0 : w2.heap.size < wr.heap.size := HO.out.in9.2.1
          have HG0 := Lib.hid hg0
          clear hre hre1 hre2 he hY hX hA HO hLQ hg0
          go_wp2_with fail
          refine (LS2.out _).mono ?_
          rintro ex w4 ⟨rfl, rfl⟩
          go_wp2_with fail
          refine LN.out.mono ?_
          rintro ex w5 ⟨gb, cb, rfl, hOb, hb5⟩
          have hcells := out_cells9 hOb
          have HNB : Hid (¬ w2.heap.size = gb) := by
            show ¬ _
            have := hOb.in9.1
            have := HG0.out
            omega
          have HR0 := Lib.hid (HV0.out.below hb5)
          have HB0 := Lib.hid (HBr.out.trans (hb5.mono (Nat.le_of_lt HG0.out)))
          obtain ⟨f1, hf1⟩ : ∃ f : Nat → Nat, V p0 = f := ⟨_, rfl⟩
          obtain ⟨f2, hf2⟩ : ∃ f : Nat → Nat, (fun k => chl D k LQ) = f := ⟨_, rfl⟩
          have hg2 : ∀ k, chl D k LQ = f2 k := fun k => by rw [← hf2]
          rw [hf1] at hlb
          rw [hf1, hf2] at HR0 HYE2
          simp only [hg2] at hqb hcells
          have HCB := Lib.hid hcells
          have HLB := Lib.hid hlb
          have HQB := Lib.hid hqb
          clear hOb hb5 hcells HV0 hlb hqb hf1 hf2 hg2 HBr HXr c0 c1 c2 hcc LN LS2
          go_wp2_with fail
          go_loopw [9] (fun v wx => ∃ (k : Nat), 1 ≤ k ∧ k ≤ 25 ∧ v = .int .i64 (k : Int) ∧ Hid (Out w2.heap.size wx (.slice (some ⟨w2.heap.size, 0, none⟩) 25 25) (ints (mixR f1 f2 k))) ∧ Hid (∀ i, i < 25 → wx.cell? ⟨gb, i, none⟩ = some (.int .i64 ((f2 i : Nat) : Int))) ∧ Hid (Below w2.heap.size w2 wx)) (fun v _ => 25 - (intOf v).toNat)
          case atStart => exact ⟨1, Nat.le_refl _, by omega, rfl, HR0, HCB, HB0⟩
          case round =>
            obtain ⟨k, hk1, hk2, rfl, HR5, HC5, HB5⟩ := hrel
            clear HR0 HCB HB0
            by_cases hk : k ≤ 24
            · have hki : (k : Int) ≤ 24 := by omega
              obtain ⟨k1, hk1'⟩ : ∃ k1, k - 1 = k1 := ⟨_, rfl⟩
              have hk1e : (k : Int) - 1 = (k1 : Int) := by omega
              have hwk1 : IntKind.i64.wrap (k1 : Int) = (k1 : Int) := IntWalk.i64_in _ (by omega)
              have hwk2 : IntKind.i64.wrap ((k : Int) + 1) = (k : Int) + 1 := IntWalk.i64_in _ (by omega)
              have hp25 : (k1 : Int) < 25 := by omega
              have hp0 : (0 : Int) ≤ (k1 : Int) := by omega
              have hp26 : (k : Int) < 25 := by omega
              obtain ⟨hca, hfa⟩ := HR5.out.at9 (i := k) (by rw [ints_length, mixR_len]; omega)
              rw [ints_get (by rw [mixR_len]; omega), mixR_get (by omega)] at hca
              have hcb := HC5.out k1 (by omega)
              have hb1 := HLB.out k
              have hb2 := HQB.out k1
              obtain ⟨x, hx⟩ : ∃ x, f1 k = x := ⟨_, rfl⟩
              obtain ⟨y, hy⟩ : ∃ y, f2 k1 = y := ⟨_, rfl⟩
              obtain ⟨z, hz⟩ : ∃ z, x + y = z := ⟨_, rfl⟩
              have hset := HR5.out.set9 (k := k) ((z : Nat) : Int)
              rw [ints_set9, ← hz, ← hx, ← hy, ← hk1', mixR_set f1 f2 hk1, hx, hk1', hy, hz] at hset
              rw [hx] at hca hb1
              rw [hy] at hcb hb2
              have hxy : (x : Int) + (y : Int) = (z : Int) := by omega
              have hwz : IntKind.i64.wrap (z : Int) = (z : Int) := IntWalk.i64_in _ (by omega)
              have HR6 := Lib.hid hset
              have HB6 := Lib.hid (HB5.out.setCell (p := ⟨w2.heap.size, k, none⟩) (Nat.le_refl _) (.int .i64 (z : Int)))
              have HC6 : Hid (∀ i, i < 25 → (wr.setCell ⟨w2.heap.size, k, none⟩ (.int .i64 (z : Int))).cell? ⟨gb, i, none⟩ = some (.int .i64 ((f2 i : Nat) : Int))) := by
                show ∀ _, _
                intro i hi'
                rw [cell_set9 HNB.out]
                exact HC5.out i hi'
              clear hset hx hy hz hk1' HR5 HC5 HB5 HLB HQB
              go_wp2_with fail
              go_region
              all_goals
                go_wp2_with fail
                go_roundw
                case rel => exact ⟨k + 1, by omega, by omega, by go_num, HR6, HC6, Lib.hid HB6.out.drew⟩
                case measure => simp [intOf]; omega
            · have hk25 : k = 25 := by omega
              have hki : ¬ (k : Int) ≤ 24 := by omega
              have HRW5 := HR5
              rw [hk25, HYE2.out] at HRW5
              clear HR5 HC5 HYE2 HNB HLB HQB hk25
              go_wp2_with fail
              go_roundw
              case rel => exact ⟨p0 + 1, by omega, by go_num, HRW5, HB5⟩
              case measure => simp [intOf]; omega
      · have hpn : p0 = n := by omega
        have hlti : ¬ (p0 : Int) < (n : Int) := by omega
        rw [hpn, HFIN.out] at HO
        have HO5 := Lib.hid (HO.out.mono (Nat.le_of_lt HL2.out))
        have HB5 := Lib.hid (HB2.out.trans (HBr.out.mono (Nat.le_of_lt HL2.out)))
        clear hpn HO HBr
        go_wp2_with fail
        go_ret
        exact ⟨_, _, rfl, HO5.out, HB5.out⟩
end Go.Proofs.Ytoedcklgpmhnnaa
