/- Chapter 6, spec side: spec.l6Back. -/
import Derived.Test.YtgalopbpbhlcdaaAhd6
namespace Go.Proofs.Ytgalopbpbhlcdaa
open Go.RowKit

set_option maxRecDepth 4000 in
set_option maxHeartbeats 2000000 in
theorem l6Back_any (n : Nat) (ring : Bool) (p : Option Addr) (cap : Nat) (S : Nat → Bool) (a kk : Nat) (w : World) (lo hi : Nat) (hin : Ri lo hi w p (ints (tk n S))) (hn : n ≤ 24) (ha : a < n) (hkk : kk ≤ 24) :
    Calls Try.prog 44 #[rowV n ring p (ints (tk n S)).length cap, .int .i64 (a : Nat), .int .i64 (kk : Nat)] w fun e w' => e = .returned (.int .i64 (optI (bckM n ring S a kk))) ∧ Below w.heap.size w w' := by
  have hlen := ints_tk_len n S
  have hX0 := OwnArr.made w 26 [.int .i64 (n : Int), .bool ring, .slice p (ints (tk n S)).length cap]
  have HX0 := Lib.hid hX0
  have HB0 := Lib.hid (box_below w n ring p (ints (tk n S)).length cap 26)
  have IS := Lib.hid (fun (x : Nat) (hx : x < n) (w' : World) (h' : Below w.heap.size w w') => l2Is_any n ring p cap (ints (tk n S)) (x : Int) w' lo hi (hin.below h' hin.top) (by omega))
  have HT := Lib.hid (fun (x : Nat) (hx : x < n) => has_tk (S := S) hx)
  have AH := Lib.hid (fun (w' : World) (h' : Below w.heap.size w w') => l6Ahead_any n ring p cap S a w' lo hi (hin.below h' hin.top) hn ha)
  have I0 := IS.out a ha _ HB0.out
  rw [HT.out a ha] at I0
  obtain ⟨m0, hm0⟩ : ∃ m, (ints (tk n S)).length = m := ⟨_, rfl⟩
  rw [hm0] at hX0 HX0 HB0 IS AH I0 ⊢
  obtain ⟨c0, c1, c2, -⟩ := HX0.out.three
  cases hS : S a with
  | false =>
    rw [hS] at I0
    rw [bck_free hS]
    replace I0 := Lib.hid I0
    clear hin hm0 hlen hX0 hS
    go_enter Try.func44, Try.ntmps44
    go_wp2_with fail
    refine I0.out.mono ?_
    rintro e w2 ⟨rfl, hb2⟩
    have HB2 := Lib.hid (HB0.out.trans (hb2.mono HB0.out.size))
    clear hb2 I0
    go_wp2_with fail
    go_ret
    exact ⟨rfl, HB2.out⟩
  | true =>
    rw [hS] at I0
    replace I0 := Lib.hid I0
    have HSO := Lib.hid (fun (j : Nat) (hj : j < min kk (n - 1)) (h1 : bckP n ring S a j = true) (h0 : ∀ i, i < j → bckP n ring S a i = false) => bck_some hS hj h1 h0)
    have HNO := Lib.hid (fun (h : ∀ i, i < min kk (n - 1) → bckP n ring S a i = false) => bck_none (k := kk) hS h)
    have HEN : Hid (∀ j, ring = false → (∀ i, i < j → bckP n ring S a i = false) → a < j + 1 → bckM n ring S a kk = ahdM n ring S a) := by
      show ∀ _, _
      intro j hr h0 he
      subst hr
      exact bck_end hS h0 he
    obtain ⟨R, hR⟩ : ∃ R, bckM n ring S a kk = R := ⟨_, rfl⟩
    rw [hR] at HSO HNO HEN ⊢
    obtain ⟨AR, hAR⟩ : ∃ AR, ahdM n ring S a = AR := ⟨_, rfl⟩
    rw [hAR] at HNO HEN AH
    clear hin hR hm0 hlen hX0 hS hAR
    go_enter Try.func44, Try.ntmps44
    go_wp2_with fail
    refine I0.out.mono ?_
    rintro e w2 ⟨rfl, hb2⟩
    have HB2 := Lib.hid (HB0.out.trans (hb2.mono HB0.out.size))
    have HX2 := Lib.hid (HX0.out.below hb2 HX0.out.lt)
    clear hb2 I0 HB0 HX0 c0 c1 c2
    go_wp2_with fail
    go_loopw [7, 8] (fun i _ wr => ∃ (j : Nat), j ≤ min kk (n - 1) ∧ i = .int .i64 ((j + 1 : Nat) : Int) ∧ Hid (∀ i, i < j → bckP n ring S a i = false) ∧ Hid (OwnArr wr w.heap.size 26 [.int .i64 (n : Int), .bool ring, .slice p m0 cap]) ∧ Hid (Below w.heap.size w wr)) (fun i _ _ => 30 - (intOf i).toNat)
    case atStart => exact ⟨0, Nat.zero_le _, rfl, Lib.hid (fun i h => absurd h (Nat.not_lt_zero _)), HX2, HB2⟩
    case round =>
      obtain ⟨j, hj, rfl, HS, HX, HB⟩ := hrel
      clear HX2 HB2
      obtain ⟨c0, c1, c2, -⟩ := HX.out.three
      by_cases hlt : j + 1 ≤ kk ∧ j + 1 < n
      · have hk1 : ((j + 1 : Nat) : Int) ≤ (kk : Int) := by omega
        have hk2 : ((j + 1 : Nat) : Int) < (n : Int) := by omega
        have hjm : j < min kk (n - 1) := by omega
        have hn0 : ¬ (n : Int) = 0 := by omega
        have hn00 : ¬ n = 0 := by omega
        have hw1 : IntKind.i64.wrap ((a : Int) - ((j + 1 : Nat) : Int)) = (a : Int) - ((j + 1 : Nat) : Int) := IntWalk.i64_in _ (by omega)
        have hw2 : IntKind.i64.wrap ((a : Int) - ((j + 1 : Nat) : Int) + (n : Int)) = (a : Int) - ((j + 1 : Nat) : Int) + (n : Int) := IntWalk.i64_in _ (by omega)
        have hmod : ((a : Int) - ((j + 1 : Nat) : Int) + (n : Int)).tmod (n : Int) = (((a + n - (j + 1)) % n : Nat) : Int) := by rw [show (a : Int) - ((j + 1 : Nat) : Int) + (n : Int) = ((a + n - (j + 1) : Nat) : Int) by omega, Int.ofNat_tmod]
        have hql : (a + n - (j + 1)) % n < n := Nat.mod_lt _ (by omega)
        have I0 := IS.out _ hql wr HB.out
        rw [HT.out _ hql] at I0
        have hpd : bckP n ring S a j = ((ring || decide (j + 1 ≤ a)) && !S ((a + n - (j + 1)) % n)) := rfl
        have hso := HSO.out j hjm
        obtain ⟨q, hq⟩ : ∃ q, (a + n - (j + 1)) % n = q := ⟨_, rfl⟩
        rw [hq] at hmod hql I0 hpd hso
        push_cast at hw1 hw2 hmod hk1 hk2
        have hwq : IntKind.i64.wrap (q : Int) = (q : Int) := IntWalk.i64_in _ (by omega)
        obtain ⟨B, hBv⟩ : ∃ B, S q = B := ⟨_, rfl⟩
        rw [hBv] at I0 hpd
        replace I0 := Lib.hid I0
        have HPD := Lib.hid hpd
        have HSO2 := Lib.hid hso
        clear hpd hso hq hBv
        cases ring with
        | true =>
          go_wp2_with fail
          refine I0.out.mono ?_
          rintro e w2 ⟨rfl, hb2⟩
          have HX2 := Lib.hid (HX.out.below hb2 HX.out.lt)
          have HB2 := Lib.hid (HB.out.trans (hb2.mono HB.out.size))
          clear hb2 I0 c0 c1 c2 hmod hwq hw1 hw2
          cases B with
          | false =>
            have hR := HSO2.out (by rw [HPD.out]; simp) HS.out
            subst hR
            clear HSO HEN HNO HSO2 AH
            go_wp2_with fail
            go_ret
            exact ⟨rfl, HB2.out⟩
          | true =>
            have HS2 : Hid (∀ i, i < j + 1 → bckP n true S a i = false) := by
              show ∀ _, _
              intro i hi'
              by_cases e : i = j
              · subst e; rw [HPD.out]; simp
              · exact HS.out i (by omega)
            clear HSO2 HPD HS
            go_wp2_with fail
            go_roundw
            case rel => exact ⟨j + 1, by omega, by go_num, HS2, HX2, HB2⟩
            case measure => simp [intOf]; omega
        | false =>
          by_cases hend : a < j + 1
          · have he1 : (a : Int) < (j : Int) + 1 := by omega
            have hR := HEN.out j rfl HS.out hend
            subst hR
            have A0 := Lib.hid (AH.out wr HB.out)
            clear HSO HEN HNO HSO2 I0 AH
            go_wp2_with fail
            refine A0.out.mono ?_
            rintro e w3 ⟨rfl, hb3⟩
            have HB3 := Lib.hid (HB.out.trans (hb3.mono HB.out.size))
            clear hb3 A0 c0 c1 c2
            go_wp2_with fail
            go_ret
            exact ⟨rfl, HB3.out⟩
          · have he1 : ¬ (a : Int) < (j : Int) + 1 := by omega
            have hde : decide (j + 1 ≤ a) = true := decide_eq_true (by omega)
            go_wp2_with fail
            refine I0.out.mono ?_
            rintro e w2 ⟨rfl, hb2⟩
            have HX2 := Lib.hid (HX.out.below hb2 HX.out.lt)
            have HB2 := Lib.hid (HB.out.trans (hb2.mono HB.out.size))
            clear hb2 I0 c0 c1 c2 hmod hwq hw1 hw2
            cases B with
            | false =>
              have hR := HSO2.out (by rw [HPD.out]; rw [hde]; simp) HS.out
              subst hR
              clear HSO HEN HNO HSO2 AH
              go_wp2_with fail
              go_ret
              exact ⟨rfl, HB2.out⟩
            | true =>
              have HS2 : Hid (∀ i, i < j + 1 → bckP n false S a i = false) := by
                show ∀ _, _
                intro i hi'
                by_cases e : i = j
                · subst e; rw [HPD.out]; simp
                · exact HS.out i (by omega)
              clear HSO2 HPD HS
              go_wp2_with fail
              go_roundw
              case rel => exact ⟨j + 1, by omega, by go_num, HS2, HX2, HB2⟩
              case measure => simp [intOf]; omega
      · have hR := HNO.out (by intro i hi'; exact HS.out i (by omega))
        subst hR
        have A0 := AH.out wr HB.out
        clear HSO HEN HNO AH
        replace A0 := Lib.hid A0
        by_cases hk : j + 1 ≤ kk
        · have hk1 : ((j + 1 : Nat) : Int) ≤ (kk : Int) := by omega
          have hk2 : ¬ ((j + 1 : Nat) : Int) < (n : Int) := by omega
          push_cast at hk1 hk2
          go_wp2_with fail
          refine A0.out.mono ?_
          rintro e w3 ⟨rfl, hb3⟩
          have HB3 := Lib.hid (HB.out.trans (hb3.mono HB.out.size))
          clear hb3 A0 c0 c1 c2
          go_wp2_with fail
          go_ret
          exact ⟨rfl, HB3.out⟩
        · have hk1 : ¬ ((j + 1 : Nat) : Int) ≤ (kk : Int) := by omega
          push_cast at hk1
          go_wp2_with fail
          refine A0.out.mono ?_
          rintro e w3 ⟨rfl, hb3⟩
          have HB3 := Lib.hid (HB.out.trans (hb3.mono HB.out.size))
          clear hb3 A0 c0 c1 c2
          go_wp2_with fail
          go_ret
          exact ⟨rfl, HB3.out⟩
end Go.Proofs.Ytgalopbpbhlcdaa
