/- Guards: impl.IsGuarded; both sides. -/
import Derived.Test.YtogdiahojbonaaaGrdS9
import Derived.Test.YtogdiahojbonaaaMax9
import Derived.Test.YtogdiahojbonaaaFarOf
namespace Go.Proofs.Ytogdiahojbonaaa
open Go.RowKit

theorem nearG_far {n : Nat} {ring : Bool} {l : List Nat} {a : Nat} (hl : ∀ x ∈ l, x < n) (ha : a < n) (h0 : 0 < l.length) : nearG n ring l a = ((farM n ring l a : Nat) : Int) := by
  unfold nearG nearP
  rw [if_neg (by omega)]
  show ((gapM n ring a (leastOf (gapM n ring a) (l[0]?.getD 0) l) : Nat) : Int) = _
  rw [← farL_least (gapM n ring a) n l (fun q hq => gap_le ha (hl q hq)) (by omega)]; rfl
/-- guards, by the greatest farness -/
theorem grdUp_max {n : Nat} {ring : Bool} {l : List Nat} {h M : Int} (hl : ∀ x ∈ l, x < n) (h0 : 0 < l.length) (h1 : ∀ x ∈ allM n ring l n, x ≤ M) (h2 : M ∈ allM n ring l n) : grdUp n ring l h n = decide (M ≤ h) := by
  unfold grdUp
  have hmem : ∀ p, p < n → ((farM n ring l p : Nat) : Int) ∈ allM n ring l n := by
    intro p hp
    unfold allM ints
    rw [List.map_map]
    exact List.mem_map.2 ⟨p, by simpa using hp, rfl⟩
  by_cases hm : M ≤ h
  · rw [decide_eq_true hm, List.all_eq_true]
    intro p hp
    have hp' : p < n := by simpa using hp
    rw [nearG_far hl hp' h0]
    have := h1 _ (hmem p hp')
    simp only [Bool.and_eq_true, decide_eq_true_eq]
    omega
  · rw [decide_eq_false hm, List.all_eq_false]
    unfold allM ints at h2
    rw [List.map_map] at h2
    obtain ⟨p, hp, rfl⟩ := List.mem_map.1 h2
    have hp' : p < n := by simpa using hp
    refine ⟨p, hp, ?_⟩
    rw [nearG_far hl hp' h0]
    simp only [Function.comp] at hm
    simp only [Bool.and_eq_true, decide_eq_true_eq]
    omega
theorem grdUp_none {n : Nat} {ring : Bool} {h : Int} (hn : 0 < n) : grdUp n ring [] h n = false :=
  grdUp_false hn (by unfold nearG nearP; simp)

set_option maxHeartbeats 1000000 in
theorem isGuardedI_bad (s : Int) (ring : Bool) (p : Option Addr) (cap : Nat) (xs : List Int) (q : Option Addr) (c : Nat) (ss : List Int) (h : Int) (w : World) (lo hi : Nat) (hin : Ri lo hi w p xs) (hlen : xs.length ≤ 1048576) (hr : (rowB s ring xs && decide (0 ≤ h)) = false) :
    Calls Try.prog 20 #[rowV s ring p xs.length cap, .slice q ss.length c, .int .i64 h] w fun e w' => e = .returned (.tuple #[.bool false, .bool false]) ∧ Below w.heap.size w w' := by
  have hX := OwnArr.made w 28 [.int .i64 s, .bool ring, .slice p xs.length cap]
  have hB := box_below w s ring p xs.length cap 28
  have I := Lib.hid (isRow_any s ring p cap xs _ lo hi (hin.below hB hin.top) hlen)
  obtain ⟨RB, hRB⟩ : ∃ RB, rowB s ring xs = RB := ⟨_, rfl⟩
  rw [hRB] at hr I
  obtain ⟨m0, hm0⟩ : ∃ m, xs.length = m := ⟨_, rfl⟩
  rw [hm0] at hX hB I ⊢
  obtain ⟨c0, c1, c2, -⟩ := hX.three
  have HB := Lib.hid hB
  clear hin hRB hm0 hlen hX hB
  cases RB with
  | false =>
    clear hr
    go_enter Try.func20, Try.ntmps20
    go_wp2_with fail
    refine I.out.mono ?_
    rintro e w2 ⟨rfl, hb2⟩
    have HB2 := Lib.hid (HB.out.trans (hb2.mono HB.out.size))
    clear I HB hb2 c0 c1 c2
    go_wp2_with fail
    go_ret2
    exact ⟨rfl, HB2.out⟩
  | true =>
    have h1 : h < 0 := by simpa using hr
    clear hr
    go_enter Try.func20, Try.ntmps20
    go_wp2_with fail
    refine I.out.mono ?_
    rintro e w2 ⟨rfl, hb2⟩
    have HB2 := Lib.hid (HB.out.trans (hb2.mono HB.out.size))
    clear I HB hb2 c0 c1 c2
    go_wp2_with fail
    go_ret2
    exact ⟨rfl, HB2.out⟩

set_option maxRecDepth 4000 in
set_option maxHeartbeats 2000000 in
theorem isGuardedI_any (s : Int) (ring : Bool) (p : Option Addr) (cap : Nat) (xs : List Int) (q : Option Addr) (c : Nat) (ss : List Int) (h : Int) (w : World) (lo hi lo2 hi2 : Nat) (hin : Ri lo hi w p xs) (hlen : xs.length ≤ 1048576) (hin2 : Ri lo2 hi2 w q ss) (hlen2 : ss.length ≤ 1048576) (hr : rowB s ring xs = true) (hh : 0 ≤ h) :
    Calls Try.prog 20 #[rowV s ring p xs.length cap, .slice q ss.length c, .int .i64 h] w fun e w' => e = .returned (.tuple #[.bool (grdI s ring ss h), .bool true]) ∧ Below w.heap.size w w' := by
  have hX := OwnArr.made w 28 [.int .i64 s, .bool ring, .slice p xs.length cap]
  have hB := box_below w s ring p xs.length cap 28
  have I := Lib.hid (isRow_any s ring p cap xs _ lo hi (hin.below hB hin.top) hlen)
  rw [hr] at I
  have hn1 : ¬ h < 0 := by omega
  obtain ⟨n, S, rfl, -, hn2, hn24, h3⟩ := rowB_is hr
  have hRR : rowB n ring ss = rising (-1) n ss := by
    unfold rowB
    have a1 : (if ring then 3 else 2 : Int) ≤ n := by
      cases ring
      · simp; omega
      · have := h3 rfl; simp; omega
    have a2 : (n : Int) ≤ 24 := by omega
    rw [decide_eq_true a1, decide_eq_true a2, Bool.true_and, Bool.true_and]
  by_cases hrs : rising (-1) n ss = true
  · have e := rising_is hrs
    have e2 : grdI n ring ss h = grdUp n ring (tk n fun k => decide ((k : Int) ∈ ss)) h n := by
      unfold grdI
      rw [hrs, Int.toNat_natCast, Bool.true_and]
      congr 1
      conv => lhs; rw [e]
      exact ints_toNat _
    rw [e2]
    obtain ⟨T, hT⟩ : ∃ T, (fun k : Nat => decide ((k : Int) ∈ ss)) = T := ⟨_, rfl⟩
    rw [hT] at e ⊢
    subst e
    have FO := Lib.hid (fun (w' : World) (h' : Below w.heap.size w w') => farOfI_any n ring q c T w' lo2 hi2 (hin2.below h' hin2.top) hn2 hn24 h3)
    have MX := Lib.hid (fun (q : Option Addr) (k : Nat) (w' : World) (lo hi : Nat) (hin : Ri lo hi w' q (allM n ring (tk n T) n)) => max9_any q k _ n (allM_len n ring _ n) (by omega) (by omega) w' lo hi hin)
    have HL := Lib.hid (allM_len n ring (tk n T) n)
    have HV := Lib.hid (fun (h0 : 0 < (ints (tk n T)).length) (M : Int) (a1 : ∀ x ∈ allM n ring (tk n T) n, x ≤ M) (a2 : M ∈ allM n ring (tk n T) n) => grdUp_max (h := h) (l := tk n T) (fun x hx => (mem_tk.1 hx).1) (by rwa [ints_length] at h0) a1 a2)
    have HZ : Hid ((ints (tk n T)).length = 0 → grdUp n ring (tk n T) h n = false) := by
      show _ → _
      intro h0
      rw [ints_length] at h0
      rw [List.length_eq_zero_iff.1 h0]
      exact grdUp_none (by omega)
    obtain ⟨D, hD⟩ : ∃ D, grdUp n ring (tk n T) h n = D := ⟨_, rfl⟩
    rw [hD] at HV HZ ⊢
    obtain ⟨L, hL⟩ : ∃ L, allM n ring (tk n T) n = L := ⟨_, rfl⟩
    rw [hL] at FO MX HL HV
    obtain ⟨m2, hm2⟩ : ∃ m, (ints (tk n T)).length = m := ⟨_, rfl⟩
    rw [hm2] at FO HV HZ ⊢
    obtain ⟨m0, hm0⟩ : ∃ m, xs.length = m := ⟨_, rfl⟩
    rw [hm0] at hX hB I ⊢
    have HX := Lib.hid hX
    have HB := Lib.hid hB
    obtain ⟨c0, c1, c2, -⟩ := HX.out.three
    clear hin hr hm0 hlen hX hB hin2 hlen2 hD hRR hm2 hL hrs hT e2 h3
    by_cases h0 : 0 < m2
    · have h0' : (0 : Int) < (m2 : Int) := by omega
      go_enter Try.func20, Try.ntmps20
      go_wp2_with fail
      refine I.out.mono ?_
      rintro e w2 ⟨rfl, hb2⟩
      have HB2 := Lib.hid (HB.out.trans (hb2.mono HB.out.size))
      have HX2 := Lib.hid (HX.out.below hb2 HX.out.lt)
      clear I HB hb2 c0 c1 c2 HX
      obtain ⟨c0, c1, c2, -⟩ := HX2.out.three
      have FO2 := Lib.hid (FO.out _ HB2.out)
      go_wp2_with fail
      refine FO2.out.mono ?_
      rintro e w3 ⟨v, rfl, hO, hb3⟩
      have HB3 := Lib.hid (HB2.out.trans (hb3.mono HB2.out.size))
      obtain ⟨qv, kv, rfl, -, -, hR, -⟩ := hO.rd
      rw [HL.out]
      have MX2 := Lib.hid (MX.out _ kv _ _ _ hR)
      clear HB2 hb3 c0 c1 c2 HX2 hO hR
      go_wp2_with fail
      refine MX2.out.mono ?_
      rintro e w4 ⟨M, rfl, h5, h6, rfl⟩
      have HD := Lib.hid (HV.out h0 M h5 h6)
      clear h5 h6 MX2 HV
      go_wp2_with fail
      go_ret2
      exact ⟨by rw [HD.out]; rfl, HB3.out⟩
    · have hz : m2 = 0 := by omega
      subst hz
      have hd := HZ.out rfl
      subst hd
      go_enter Try.func20, Try.ntmps20
      go_wp2_with fail
      refine I.out.mono ?_
      rintro e w2 ⟨rfl, hb2⟩
      have HB2 := Lib.hid (HB.out.trans (hb2.mono HB.out.size))
      have HX2 := Lib.hid (HX.out.below hb2 HX.out.lt)
      clear I HB hb2 c0 c1 c2 HX
      obtain ⟨c0, c1, c2, -⟩ := HX2.out.three
      have FO2 := Lib.hid (FO.out _ HB2.out)
      go_wp2_with fail
      refine FO2.out.mono ?_
      rintro e w3 ⟨v, rfl, hO, hb3⟩
      have HB3 := Lib.hid (HB2.out.trans (hb3.mono HB2.out.size))
      clear HB2 hb3 c0 c1 c2 HX2 hO
      go_wp2_with fail
      go_ret2
      exact ⟨rfl, HB3.out⟩
  · have hrf : rising (-1) n ss = false := by simpa using hrs
    have e2 : grdI n ring ss h = false := by
      unfold grdI
      rw [hrf]; rfl
    rw [e2]
    rw [hrf] at hRR
    have FO := Lib.hid (fun (w' : World) (h' : Below w.heap.size w w') => farOfI_bad n ring q c ss w' lo2 hi2 (hin2.below h' hin2.top) hlen2 hRR)
    obtain ⟨m2, hm2⟩ : ∃ m, ss.length = m := ⟨_, rfl⟩
    rw [hm2] at FO ⊢
    obtain ⟨m0, hm0⟩ : ∃ m, xs.length = m := ⟨_, rfl⟩
    rw [hm0] at hX hB I ⊢
    have HX := Lib.hid hX
    have HB := Lib.hid hB
    obtain ⟨c0, c1, c2, -⟩ := HX.out.three
    clear hin hr hm0 hlen hX hB hin2 hlen2 hRR hm2 hrs hrf e2 h3
    go_enter Try.func20, Try.ntmps20
    go_wp2_with fail
    refine I.out.mono ?_
    rintro e w2 ⟨rfl, hb2⟩
    have HB2 := Lib.hid (HB.out.trans (hb2.mono HB.out.size))
    have HX2 := Lib.hid (HX.out.below hb2 HX.out.lt)
    clear I HB hb2 c0 c1 c2 HX
    obtain ⟨c0, c1, c2, -⟩ := HX2.out.three
    have FO2 := Lib.hid (FO.out _ HB2.out)
    go_wp2_with fail
    refine FO2.out.mono ?_
    rintro e w3 ⟨v, rfl, hO, hb3⟩
    have HB3 := Lib.hid (HB2.out.trans (hb3.mono HB2.out.size))
    clear HB2 hb3 c0 c1 c2 HX2 hO
    go_wp2_with fail
    go_ret2
    exact ⟨rfl, HB3.out⟩

theorem isGuarded_both (s0 : Int) (r0 : Bool) (xs0 : List Int) (xs1 : List Int) (a2 : Int) : ∃ (y0 : Bool) (y1 : Bool),
    (∀ (q0 : Option Addr) (c0 : Nat) (q1 : Option Addr) (c1 : Nat) (w : World) (lo0 hi0 : Nat) (lo1 hi1 : Nat), Ri lo0 hi0 w q0 xs0 → xs0.length ≤ 1048576 → xs0.length ≤ c0 → c0 ≤ maxLen → Ri lo1 hi1 w q1 xs1 → xs1.length ≤ 1048576 → xs1.length ≤ c1 → c1 ≤ maxLen → Calls Try.prog 18 #[rowV s0 r0 q0 xs0.length c0, .slice q1 xs1.length c1, .int .i64 a2] w fun e w' => e = .returned (.tuple #[.bool y0, .bool y1]) ∧ Below w.heap.size w w') ∧
    (∀ (q0 : Option Addr) (c0 : Nat) (q1 : Option Addr) (c1 : Nat) (w : World) (lo0 hi0 : Nat) (lo1 hi1 : Nat), Ri lo0 hi0 w q0 xs0 → xs0.length ≤ 1048576 → xs0.length ≤ c0 → c0 ≤ maxLen → Ri lo1 hi1 w q1 xs1 → xs1.length ≤ 1048576 → xs1.length ≤ c1 → c1 ≤ maxLen → Calls Try.prog 20 #[rowV s0 r0 q0 xs0.length c0, .slice q1 xs1.length c1, .int .i64 a2] w fun e w' => e = .returned (.tuple #[.bool y0, .bool y1]) ∧ Below w.heap.size w w') := by
  cases h : (rowB s0 r0 xs0 && decide (0 ≤ a2)) with
  | false =>
    exact ⟨false, false,
      fun q0 c0 q1 c1 w lo0 hi0 lo1 hi1 h1 h2 _ _ _ _ _ _ => isGuardedS_bad s0 r0 q0 c0 xs0 q1 c1 xs1 a2 w lo0 hi0 h1 h2 h,
      fun q0 c0 q1 c1 w lo0 hi0 lo1 hi1 h1 h2 _ _ _ _ _ _ => isGuardedI_bad s0 r0 q0 c0 xs0 q1 c1 xs1 a2 w lo0 hi0 h1 h2 h⟩
  | true =>
    simp only [Bool.and_eq_true, decide_eq_true_eq] at h
    exact ⟨grdI s0 r0 xs1 a2, true,
      fun q0 c0 q1 c1 w lo0 hi0 lo1 hi1 h1 h2 _ _ h3 h4 _ _ => isGuardedS_any s0 r0 q0 c0 xs0 q1 c1 xs1 a2 w lo0 hi0 lo1 hi1 h1 h2 h3 h4 h.1 h.2,
      fun q0 c0 q1 c1 w lo0 hi0 lo1 hi1 h1 h2 _ _ h3 h4 _ _ => isGuardedI_any s0 r0 q0 c0 xs0 q1 c1 xs1 a2 w lo0 hi0 lo1 hi1 h1 h2 h3 h4 h.1 h.2⟩
end Go.Proofs.Ytogdiahojbonaaa
