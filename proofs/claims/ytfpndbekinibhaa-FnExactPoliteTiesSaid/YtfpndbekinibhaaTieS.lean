/- spec.l3Ties, for every valid Row with at most ten free seats. -/
import Derived.Test.YtfpndbekinibhaaTieM
import Derived.Test.YtfpndbekinibhaaSetL
namespace Go.Proofs.Ytfpndbekinibhaa
open Go.RowKit

set_option maxRecDepth 4000 in
set_option maxHeartbeats 2000000 in
theorem ties_stop0 (n : Nat) (ring : Bool) (p : Option Addr) (cap : Nat) (S : Nat → Bool) (w : World) (lo hi : Nat) (hin : Ri lo hi w p (ints (tk n S))) (h2 : 2 ≤ n) (hn : n ≤ 24) (hz : (polS n ring S).length = 0) :
    Calls Try.prog 31 #[rowV n ring p (ints (tk n S)).length cap] w fun e w' => e = .returned (.int .i64 1) ∧ Below w.heap.size w w' := by
  have hb := box_below w n ring p (ints (tk n S)).length cap 31
  have PA := Lib.hid (politeS_any n ring p cap S _ lo hi (hin.below hb hin.top) h2 hn)
  have HB := Lib.hid hb
  have hz2 : (ints (polS n ring S)).length = 0 := by rw [ints_length]; exact hz
  replace hz2 := Lib.hid hz2
  obtain ⟨m, hm⟩ : ∃ m, (ints (tk n S)).length = m := ⟨_, rfl⟩
  rw [hm] at PA HB ⊢
  clear hin hb hz hm
  go_enter Try.func31, Try.ntmps31
  go_wp2_with fail
  refine PA.out.mono ?_
  rintro e w1 ⟨v, rfl, hO, hb1⟩
  obtain ⟨q, c, rfl, -⟩ := hO.rd
  rw [hz2.out]
  have HB1 := Lib.hid (HB.out.trans (hb1.mono HB.out.size))
  clear hO hb1 PA
  have HBd := Lib.hid HB1.out.drew
  go_wp2_with fail
  first | (go_region) | fail "region"
  all_goals
    go_wp2_with fail
    go_ret
    exact ⟨rfl, HBd.out⟩

set_option maxRecDepth 4000 in
set_option maxHeartbeats 2000000 in
/-- behind the test: the newcomers' ways are the sum, or there is none -/
theorem ties_go (n : Nat) (ring : Bool) (p : Option Addr) (cap : Nat) (S : Nat → Bool) (w : World) (lo hi : Nat) (hin : Ri lo hi w p (ints (tk n S))) (h2 : 2 ≤ n) (hn : n ≤ 24) (hz : ¬ (polS n ring S).length = 0) (V : Nat) (g : Nat → Nat)
    (hstop : farM n ring (tk n S) ((polS n ring S)[0]?.getD 0) < 2 → V = 1)
    (hgo : ¬ farM n ring (tk n S) ((polS n ring S)[0]?.getD 0) < 2 → V = sumOf g (polS n ring S) ∧ (∀ k, sumOf g ((polS n ring S).take k) ≤ 3628800) ∧ ∀ (x : Nat) (p : Option Addr) (cap : Nat) (w : World) (lo hi : Nat), x < n → S x = false → Ri lo hi w p (ints (tk n (setS S x))) → Calls Try.prog 31 #[rowV n ring p (ints (tk n (setS S x))).length cap] w fun e w' => e = .returned (.int .i64 (g x : Nat)) ∧ Below w.heap.size w w') :
    Calls Try.prog 31 #[rowV n ring p (ints (tk n S)).length cap] w fun e w' => e = .returned (.int .i64 (V : Nat)) ∧ Below w.heap.size w w' := by
  have hb := box_below w n ring p (ints (tk n S)).length cap 31
  have PA := Lib.hid (politeS_any n ring p cap S _ lo hi (hin.below hb hin.top) h2 hn)
  have HX := Lib.hid (OwnArr.made w 31 [.int .i64 n, .bool ring, .slice p (ints (tk n S)).length cap])
  have HB := Lib.hid hb
  have FA := Lib.hid (fun (a : Nat) (ha : a < n) (w' : World) (h' : Below w.heap.size w w') => farS_any n ring p cap (tk n S) a w' _ _ (hin.below h' hin.top) (fun x hx => (mem_tk.1 hx).1) (by have := tk_length_le n S; omega) hn ha)
  have WI : Hid (∀ (x : Nat) (_ : x < n) (_ : S x = false) (w' : World) (_ : Below w.heap.size w w'), Calls Try.prog 40 #[rowV n ring p (ints (tk n S)).length cap, .int .i64 x] w' fun e w'' => ∃ u, e = .returned (.agg #[.int .i64 n, .bool ring, u]) ∧ Out w'.heap.size w'' u (ints (tk n (setS S x))) ∧ Below w'.heap.size w' w'') := by
    show ∀ _, _
    intro x hx hs w' h'
    have WA := with_any n ring p cap (ints (tk n S)) x w' _ _ (hin.below h' hin.top) (by have := ints_tk_len n S; omega) (by rw [mem_ints_tk]; rintro ⟨j, h1, _, h3⟩; have : j = x := (by omega); rw [this, hs] at h3; cases h3)
    rw [put_setS hx hs] at WA
    exact WA
  have hll : ∀ x ∈ polS n ring S, x < n ∧ S x = false := fun x hx => by rw [← pol_same] at hx; exact polM_lt hx
  have hpl : (polS n ring S).length ≤ 24 := by rw [← pol_same]; have := polM_cnt n ring S 0; omega
  have hml := ints_length (tk n S)
  obtain ⟨P, hP⟩ : ∃ P, polS n ring S = P := ⟨_, rfl⟩
  rw [hP] at PA hpl hll hz hstop hgo
  have HLL := Lib.hid hll
  have hel := ints_length P
  obtain ⟨k0, hk0⟩ : ∃ k, P.length = k := ⟨_, rfl⟩
  rw [hk0] at hpl hz hel
  replace hel := Lib.hid hel
  have HM := Lib.hid hk0
  obtain ⟨m, hm⟩ : ∃ m, (ints (tk n S)).length = m := ⟨_, rfl⟩
  rw [hm] at PA HB HX WI hml ⊢
  rw [← hml] at FA
  have hkz : ((k0 : Int) == 0) = false := by simp; omega
  have hkp : 0 < k0 := by omega
  have hkp' : (0 : Int) < (k0 : Int) := by omega
  have hPn : 0 < P.length := by omega
  have hx0 := HLL.out _ (nat_mem hPn)
  obtain ⟨x0, hx⟩ : ∃ x, P[0]?.getD 0 = x := ⟨_, rfl⟩
  have hgx : (ints P)[0]?.getD 0 = (x0 : Int) := by rw [ints_get hPn, hx]
  rw [hx] at hx0 hstop hgo
  obtain ⟨fa, hf⟩ : ∃ f, farM n ring (tk n S) x0 = f := ⟨_, rfl⟩
  rw [hf] at hstop hgo
  have F0 : Hid (∀ (w' : World), Below w.heap.size w w' → Calls Try.prog 50 #[rowV n ring p m cap, .int .i64 x0] w' fun e w'' => e = .returned (.int .i64 (fa : Nat)) ∧ Below w'.heap.size w' w'') := by
    show ∀ _, _
    intro w' h'
    have := FA.out x0 hx0.1 w' h'
    rw [hf] at this
    exact this
  have HST := Lib.hid hstop
  have HGO := Lib.hid hgo
  replace hgx := Lib.hid hgx
  clear hin hb hm hll hP hk0 hml hf hx hx0 FA hstop hgo
  go_enter Try.func31, Try.ntmps31
  go_wp2_with fail
  refine PA.out.mono ?_
  rintro e w1 ⟨v, rfl, hO, hb1⟩
  obtain ⟨q, c, rfl, -, -, hR, -⟩ := hO.rd
  rw [hel.out]
  have HX1 := Lib.hid (HX.out.below hb1 HX.out.lt)
  have HB1 := Lib.hid (HB.out.trans (hb1.mono HB.out.size))
  obtain ⟨b, off, rfl, -, -, hbw, hc⟩ := hR.int (by rw [hel.out]; omega)
  have h0 := hc 0 (by rw [hel.out]; omega)
  have HC : Hid (∀ k, k < k0 → w1.cell? ⟨b, off + k, none⟩ = some (.int .i64 ((P[k]?.getD 0 : Nat) : Int))) := by
    show ∀ _, _
    intro k hk
    rw [hc k (by rw [hel.out]; exact hk), ints_get (by have := HM.out; omega)]
  rw [hgx.out, Nat.add_zero] at h0
  clear hO hb1 PA hR HX HB hc
  obtain ⟨c0, c1, c2, -⟩ := HX1.out.three
  have HB1d := Lib.hid HB1.out.drew
  have F1 := Lib.hid (F0.out w1.drew HB1d.out)
  go_upto_region 2 with fail
  go_cut [18] (fun v wx => v = .bool (decide ((fa : Int) < 2)) ∧ Hid (Below w1.heap.size w1 wx))
  case first =>
    have HWd := Lib.hid ((Below.refl w1.heap.size w1).drew)
    go_region_with (first | (go_at_call 50; refine F1.out.mono ?_; rintro e w2 ⟨rfl, hb2⟩; have HW2 := Lib.hid (HWd.out.trans (hb2.mono HWd.out.size)); clear hb2))
    all_goals
      go_wp2_with fail
      go_meet
      exact ⟨by simp, HW2⟩
  case rest =>
    obtain ⟨rfl, HWc⟩ := hcut
    have HX2 := Lib.hid (HX1.out.below HWc.out HX1.out.lt)
    have HC2 : Hid (∀ k, k < k0 → wc.cell? ⟨b, off + k, none⟩ = some (.int .i64 ((P[k]?.getD 0 : Nat) : Int))) := by
      show ∀ _, _
      intro k hk
      exact (HWc.out.cell (p := ⟨b, off + k, none⟩) hbw).trans (HC.out k hk)
    have hbc : b < wc.heap.size := Nat.lt_of_lt_of_le hbw HWc.out.size
    have HB2 := Lib.hid (HB1.out.trans (HWc.out.mono HB1.out.size))
    clear HX1 HB1 HB1d HWc h0 c0 c1 c2 HC F0 F1 hbw
    by_cases hf2 : fa < 2
    · have hI : (fa : Int) < 2 := by omega
      have hv := HST.out hf2
      subst hv
      clear HST HGO
      go_wp2_with fail
      go_ret
      exact ⟨rfl, HB2.out⟩
    · have hI : ¬ (fa : Int) < 2 := by omega
      obtain ⟨hV, hbd, hih⟩ := HGO.out hf2
      have HV := Lib.hid hV
      have HBD := Lib.hid hbd
      have IH := Lib.hid hih
      clear HST HGO hV hbd hih
      go_wp2_with fail
      go_loopw [4, 5] (fun d i wr => ∃ (y k : Nat), k ≤ k0 ∧ y ≤ 3628800 ∧ i = .int .i64 k ∧ d = .int .i64 y ∧ Hid (y = sumOf g (P.take k)) ∧ Hid (OwnArr wr w.heap.size 31 [.int .i64 n, .bool ring, .slice p m cap]) ∧ Hid (∀ k, k < k0 → wr.cell? ⟨b, off + k, none⟩ = some (.int .i64 ((P[k]?.getD 0 : Nat) : Int))) ∧ b < wr.heap.size ∧ Hid (Below w.heap.size w wr)) (fun _ i _ => k0 - (intOf i).toNat)
      case atStart => exact ⟨0, 0, Nat.zero_le _, by omega, rfl, rfl, by show _ = _; simp [sumOf], HX2, HC2, hbc, HB2⟩
      case round =>
        obtain ⟨y, k, hk, hy, rfl, rfl, HD, HX, HCr, hbr, HB⟩ := hrel
        clear HX2 HC2 HB2 hbc
        obtain ⟨c0, c1, c2, -⟩ := HX.out.three
        by_cases hlt : k < k0
        · have hk1 : (k : Int) < (k0 : Int) := by omega
          have hkk : (0 : Int) ≤ (k : Int) := by omega
          have hkl : k < P.length := by have := HM.out; omega
          have h0 := HCr.out k hlt
          have hxl := HLL.out _ (nat_mem hkl)
          have HST := Lib.hid (sum_take2 (f := g) hkl)
          have hbd := HBD.out (k + 1)
          obtain ⟨x, hx⟩ : ∃ x, P[k]?.getD 0 = x := ⟨_, rfl⟩
          rw [hx] at h0 hxl HST
          have hd2 := HD.out
          have hst := HST.out
          rw [← hd2] at hst
          have W := Lib.hid (WI.out x hxl.1 hxl.2 wr.drew HB.out.drew)
          have I2 := fun (q : Option Addr) (c : Nat) (w' : World) (l' h' : Nat) (hq : Ri l' h' w' q (ints (tk n (setS S x)))) => IH.out x q c w' l' h' hxl.1 hxl.2 hq
          obtain ⟨m4, hm4⟩ : ∃ m4, (ints (tk n (setS S x))).length = m4 := ⟨_, rfl⟩
          rw [hm4] at I2
          replace I2 := Lib.hid I2
          replace hm4 := Lib.hid hm4
          obtain ⟨z, hz'⟩ : ∃ z, g x = z := ⟨_, rfl⟩
          rw [hz'] at I2 hst
          have hyz : y + z ≤ 3628800 := by rw [← hst]; exact hbd
          have HD2 := Lib.hid hst.symm
          have hw : IntKind.i64.wrap ((y : Int) + (z : Int)) = (y : Int) + (z : Int) := IntWalk.i64_in _ (by omega)
          have HXd : Hid (OwnArr wr.drew w.heap.size 31 [.int .i64 n, .bool ring, .slice p m cap]) := HX.out
          have HBd := Lib.hid HB.out.drew
          have HWd := Lib.hid ((Below.refl wr.heap.size wr).drew)
          clear hx hxl hd2 hst HST HD hz' hbd HX HB
          go_wp2_with fail
          go_region_with (first
            | (go_at_call 40; refine W.out.mono ?_; rintro e w4 ⟨u, rfl, hT, hb4⟩; obtain ⟨q4, c4, rfl, -⟩ := hT.rd; rw [hm4.out] at hT ⊢; have HR4 := Lib.hid (Out.ri hT).1; have HX4 := Lib.hid (HXd.out.below hb4 HXd.out.lt); have HW4 := Lib.hid (HWd.out.trans (hb4.mono HWd.out.size)); have HB4 := Lib.hid (HBd.out.trans (hb4.mono HBd.out.size)); clear hT hb4 c0 c1 c2 h0)
            | (go_at_call 31; refine (I2.out q4 c4 _ _ _ HR4.out).mono ?_; rintro e w5 ⟨rfl, hb5⟩; have HX5 := Lib.hid (HX4.out.below hb5 HX4.out.lt); have HW5 := Lib.hid (HW4.out.trans (hb5.mono HW4.out.size)); have HB5 := Lib.hid (HB4.out.trans (hb5.mono HB4.out.size)); clear hb5))
          all_goals
            have HC5 : Hid (∀ k, k < k0 → w5.cell? ⟨b, off + k, none⟩ = some (.int .i64 ((P[k]?.getD 0 : Nat) : Int))) := by
              show ∀ _, _
              intro k hk
              exact (HW5.out.cell (p := ⟨b, off + k, none⟩) hbr).trans (HCr.out k hk)
            have hb5 : b < w5.heap.size := Nat.lt_of_lt_of_le hbr HW5.out.size
            clear HCr hbr HW5 HW4 HWd HX4 HB4 HXd HBd HR4
            go_wp2_with fail
            go_roundw
            case rel => exact ⟨y + z, k + 1, by omega, hyz, by go_num, by go_num, HD2, HX5, HC5, hb5, HB5⟩
            case measure => simp [intOf]; omega
        · have hkm : P.take k = P := List.take_of_length_le (by have := HM.out; omega)
          have hF := HD.out
          rw [hkm, ← HV.out] at hF
          subst hF
          clear HD hkm
          go_wp2_with fail
          go_ret
          exact ⟨rfl, HB.out⟩

theorem ties_any (n : Nat) (ring : Bool) (h2 : 2 ≤ n) (hn : n ≤ 24) : ∀ (f : Nat), f ≤ 10 → ∀ (S : Nat → Bool) (p : Option Addr) (cap : Nat) (w : World) (lo hi : Nat), Ri lo hi w p (ints (tk n S)) → (tk n S).length + f = n →
    Calls Try.prog 31 #[rowV n ring p (ints (tk n S)).length cap] w fun e w' => e = .returned (.int .i64 (tiesM n ring f S : Nat)) ∧ Below w.heap.size w w' := by
  intro f
  induction f with
  | zero =>
    intro _ S p cap w lo hi hin hS
    have h0 := polM_full (n := n) (ring := ring) (S := S) (by omega) 0
    rw [pol_same] at h0
    exact ties_stop0 n ring p cap S w lo hi hin h2 hn h0
  | succ f ih =>
    intro hf S p cap w lo hi hin hS
    by_cases hz : (polS n ring S).length = 0
    · have := ties_stop0 n ring p cap S w lo hi hin h2 hn hz
      rw [tiesM_stop (settle_stop (.inl hz))]
      exact this
    · refine ties_go n ring p cap S w lo hi hin h2 hn hz (tiesM n ring (f + 1) S) (fun x => tiesM n ring f (setS S x)) (fun h => tiesM_stop (settle_stop (.inr h)) _) (fun h => ?_)
      obtain ⟨e, -⟩ := settle_step hz h
      have hne : ¬ (polM n ring S 2).length = 0 := by rw [e]; exact hz
      have hv := tiesM_go hne f
      rw [e] at hv
      refine ⟨hv, fun k => ?_, fun x p cap w lo hi hx hs hq => ?_⟩
      · have h1 := tiesM_le n ring (f + 1) S hS
        rw [hv] at h1
        have h2 := fct_ten (f + 1) hf
        have h3 := sumOf_take_le (f := fun x => tiesM n ring f (setS S x)) (polS n ring S) k
        omega
      · exact ih (by omega) (setS S x) p cap w lo hi hq (by rw [tk_setS hx hs]; omega)
end Go.Proofs.Ytfpndbekinibhaa
