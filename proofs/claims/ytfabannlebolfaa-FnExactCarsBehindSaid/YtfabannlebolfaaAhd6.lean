/- Chapter 6, spec side: spec.l6Ahead. -/
import Derived.Test.YtfabannlebolfaaCar6
namespace Go.Proofs.Ytfabannlebolfaa
open Go.RowKit

set_option maxRecDepth 4000 in
set_option maxHeartbeats 1600000 in
theorem l6Ahead_any (n : Nat) (ring : Bool) (p : Option Addr) (cap : Nat) (S : Nat → Bool) (a : Nat) (w : World) (lo hi : Nat) (hin : Ri lo hi w p (ints (tk n S))) (hn : n ≤ 24) (ha : a < n) :
    Calls Try.prog 37 #[rowV n ring p (ints (tk n S)).length cap, .int .i64 (a : Nat)] w fun e w' => e = .returned (.int .i64 (optI (ahdM n ring S a))) ∧ Below w.heap.size w w' := by
  have hlen := ints_tk_len n S
  have HX0 := Lib.hid (OwnArr.made w 28 [.int .i64 (n : Int), .bool ring, .slice p (ints (tk n S)).length cap])
  have HB0 := Lib.hid (box_below w n ring p (ints (tk n S)).length cap 28)
  have IS := Lib.hid (fun (x : Nat) (hx : x < n) (w' : World) (h' : Below w.heap.size w w') => l2Is_any n ring p cap (ints (tk n S)) (x : Int) w' lo hi (hin.below h' hin.top) (by omega))
  have HT := Lib.hid (fun (x : Nat) (hx : x < n) => has_tk (S := S) hx)
  have HSO := Lib.hid (fun (k : Nat) (hk : k < n) (h1 : ahdP n ring S a k = true) (h0 : ∀ j, j < k → ahdP n ring S a j = false) => ahd_some hk h1 h0)
  have HNO := Lib.hid (fun (h : ∀ k, k < n → ahdP n ring S a k = false) => ahd_none h)
  have HEN : Hid (∀ k, ring = false → (∀ j, j < k → ahdP n ring S a j = false) → n ≤ a + k → ahdM n ring S a = none) := by
    show ∀ _, _
    intro k hr h0 he
    subst hr
    exact ahd_end h0 he
  obtain ⟨R, hR⟩ : ∃ R, ahdM n ring S a = R := ⟨_, rfl⟩
  rw [hR] at HSO HNO HEN ⊢
  obtain ⟨m0, hm0⟩ : ∃ m, (ints (tk n S)).length = m := ⟨_, rfl⟩
  rw [hm0] at HX0 HB0 IS ⊢
  clear hin hR hm0 hlen
  go_enter Try.func37, Try.ntmps37
  go_wp2_with fail
  go_loopw [5, 6] (fun i _ wr => ∃ (k : Nat), k ≤ n ∧ i = .int .i64 (k : Int) ∧ Hid (∀ j, j < k → ahdP n ring S a j = false) ∧ Hid (OwnArr wr w.heap.size 28 [.int .i64 (n : Int), .bool ring, .slice p m0 cap]) ∧ Hid (Below w.heap.size w wr)) (fun i _ _ => n - (intOf i).toNat)
  case atStart => exact ⟨0, Nat.zero_le _, rfl, Lib.hid (fun i h => absurd h (Nat.not_lt_zero _)), HX0, HB0⟩
  case round =>
    obtain ⟨k, hk, rfl, HS, HX, HB⟩ := hrel
    clear HX0 HB0
    obtain ⟨c0, c1, c2, -⟩ := HX.out.three
    by_cases hlt : k < n
    · have hk1 : (k : Int) < (n : Int) := by omega
      have hwk : IntKind.i64.wrap ((a : Int) + (k : Int)) = (a : Int) + (k : Int) := IntWalk.i64_in _ (by omega)
      have hn0 : ¬ (n : Int) = 0 := by omega
      have hn00 : ¬ n = 0 := by omega
      have hmod : ((a : Int) + (k : Int)).tmod (n : Int) = (((a + k) % n : Nat) : Int) := by rw [← Int.natCast_add, Int.ofNat_tmod]
      have hql : (a + k) % n < n := Nat.mod_lt _ (by omega)
      have I0 := IS.out _ hql wr HB.out
      rw [HT.out _ hql] at I0
      have hpd : ahdP n ring S a k = ((ring || decide (a + k < n)) && !S ((a + k) % n)) := rfl
      have hso := HSO.out k hlt
      obtain ⟨q, hq⟩ : ∃ q, (a + k) % n = q := ⟨_, rfl⟩
      rw [hq] at hmod hql I0 hpd hso
      have hwq : IntKind.i64.wrap (q : Int) = (q : Int) := IntWalk.i64_in _ (by omega)
      obtain ⟨B, hBv⟩ : ∃ B, S q = B := ⟨_, rfl⟩
      rw [hBv] at I0 hpd
      replace I0 := Lib.hid I0
      have HPD := Lib.hid hpd
      have HSO2 := Lib.hid hso
      clear hpd hso hq hBv
      cases ring with
      | true =>
        go_wp2_with fail
        refine I0.out.mono ?_
        rintro e w2 ⟨rfl, hb2⟩
        have HX2 := Lib.hid (HX.out.below hb2 HX.out.lt)
        have HB2 := Lib.hid (HB.out.trans (hb2.mono HB.out.size))
        clear hb2 I0 c0 c1 c2 hmod hwq
        cases B with
        | false =>
          have hR := HSO2.out (by rw [HPD.out]; simp) HS.out
          subst hR
          clear HSO HEN HNO HSO2
          go_wp2_with fail
          go_ret
          exact ⟨rfl, HB2.out⟩
        | true =>
          have HS2 : Hid (∀ j, j < k + 1 → ahdP n true S a j = false) := by
            show ∀ _, _
            intro j hj
            by_cases e : j = k
            · subst e; rw [HPD.out]; simp
            · exact HS.out j (by omega)
          clear HSO2 HPD HS
          go_wp2_with fail
          go_roundw
          case rel => exact ⟨k + 1, by omega, by go_num, HS2, HX2, HB2⟩
          case measure => simp [intOf]; omega
      | false =>
        by_cases hend : n ≤ a + k
        · have he1 : (n : Int) ≤ (a : Int) + (k : Int) := by omega
          have hR := HEN.out k rfl HS.out hend
          subst hR
          clear HSO HEN HNO HSO2 I0
          go_wp2_with fail
          go_ret
          exact ⟨rfl, HB.out⟩
        · have he1 : ¬ (n : Int) ≤ (a : Int) + (k : Int) := by omega
          have hde : decide (a + k < n) = true := decide_eq_true (by omega)
          go_wp2_with fail
          refine I0.out.mono ?_
          rintro e w2 ⟨rfl, hb2⟩
          have HX2 := Lib.hid (HX.out.below hb2 HX.out.lt)
          have HB2 := Lib.hid (HB.out.trans (hb2.mono HB.out.size))
          clear hb2 I0 c0 c1 c2 hmod hwq
          cases B with
          | false =>
            have hR := HSO2.out (by rw [HPD.out]; rw [hde]; simp) HS.out
            subst hR
            clear HSO HEN HNO HSO2
            go_wp2_with fail
            go_ret
            exact ⟨rfl, HB2.out⟩
          | true =>
            have HS2 : Hid (∀ j, j < k + 1 → ahdP n false S a j = false) := by
              show ∀ _, _
              intro j hj
              by_cases e : j = k
              · subst e; rw [HPD.out]; simp
              · exact HS.out j (by omega)
            clear HSO2 HPD HS
            go_wp2_with fail
            go_roundw
            case rel => exact ⟨k + 1, by omega, by go_num, HS2, HX2, HB2⟩
            case measure => simp [intOf]; omega
    · have hkn : k = n := by omega
      subst hkn
      have hk1 : ¬ (k : Int) < (k : Int) := by omega
      have hR := HNO.out HS.out
      subst hR
      clear HSO HEN HNO
      go_wp2_with fail
      go_ret
      exact ⟨rfl, HB.out⟩
end Go.Proofs.Ytfabannlebolfaa
