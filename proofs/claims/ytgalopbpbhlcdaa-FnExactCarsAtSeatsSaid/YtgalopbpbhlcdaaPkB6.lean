/- Chapter 6, impl side: impl.ParkBack, ParkCars; both sides. -/
import Derived.Test.YtgalopbpbhlcdaaPkI6
import Derived.Test.YtgalopbpbhlcdaaPkC6
import Derived.Test.YtgalopbpbhlcdaaLstI6
namespace Go.Proofs.Ytgalopbpbhlcdaa
open Go.RowKit

/-- what impl's functions that park cars give: their two rows share no block -/
def MadePkS (w : World) (s : Int) (ring : Bool) (L T : List Int) (B : Bool) (e : Ending) (w' : World) : Prop :=
  ∃ v0 v1, e = .returned (.tuple #[v0, .agg #[.int .i64 s, .bool ring, v1], .bool B]) ∧ Out w.heap.size w' v0 L ∧ Out w.heap.size w' v1 T ∧ Sep w.heap.size v0 v1 L.length T.length w' ∧ Below w.heap.size w w'

set_option maxRecDepth 4000 in
set_option maxHeartbeats 1600000 in
theorem parkBackI_bad (s : Int) (ring : Bool) (p : Option Addr) (cap : Nat) (xs : List Int) (q : Option Addr) (c : Nat) (cs : List Int) (k : Int) (w : World) (lo hi lo2 hi2 : Nat) (hin : Ri lo hi w p xs) (hlen : xs.length ≤ 1048576) (hin2 : Ri lo2 hi2 w q cs) (hlen2 : cs.length ≤ 1048576) (h : (carsB s ring xs cs && (decide (0 ≤ k) && decide (k ≤ 24))) = false) :
    Calls Try.prog 21 #[rowV s ring p xs.length cap, .slice q cs.length c, .int .i64 k] w (MadePkS w 0 false [] [] false) := by
  have hE := Beg.start w s ring p xs.length cap
  have CB := fun (w' : World) (h' : Below w.heap.size w w') => isListFor_any s ring p cap xs q c cs w' lo hi lo2 hi2 (hin.below h' hin.top) hlen (hin2.below h' hin2.top) hlen2
  obtain ⟨wb, hwb⟩ : ∃ wb, (w.alloc (.cells #[Value.int .i64 s, Value.bool ring, Value.slice p xs.length cap] 26)).alloc (.cells #[Value.int .i64 0, Value.bool false, Value.slice none 0 0] 26) = wb := ⟨_, rfl⟩
  rw [hwb] at hE
  obtain ⟨m0, hm0⟩ : ∃ m, xs.length = m := ⟨_, rfl⟩
  obtain ⟨m, hm⟩ : ∃ m, cs.length = m := ⟨_, rfl⟩
  rw [hm0] at hE CB hwb ⊢
  rw [hm] at CB ⊢
  have HE := Lib.hid hE
  have HW := Lib.hid hwb
  unfold MadePkS
  clear hin hin2 hE hwb hm0 hm
  cases hg : carsB s ring xs cs with
  | false =>
    rw [hg] at CB
    replace CB := Lib.hid CB
    clear h hg
    obtain ⟨c0, c1, c2, -⟩ := HE.out.row.three
    go_enter Try.func21, Try.ntmps21
    go_upto_region 1 with fail
    rw [HW.out]
    go_wp2_with fail
    refine (CB.out _ HE.out.bel).mono ?_
    rintro e w1 ⟨rfl, hb1⟩
    have HE1 := Lib.hid (HE.out.next hb1)
    have HE2 := Lib.hid (HE1.out.next (ext1 w1 E0))
    have HN := Lib.hid ((Out.nilLit w1).mono HE1.out.bel.size)
    clear hb1 c0 c1 c2 CB
    obtain ⟨z0, z1, z2, y0, y1, y2⟩ := HE2.out.res.three
    go_wp2_with fail
    exact ret_row5 Try.results21 rfl rfl rfl (HE2.out.out _ _ _).1 rfl ⟨_, _, rfl, HN.out.boxed HE2.out.res _ _ _, Out.none _ _, Sep.none (HE2.out.out _ _ _).2.size, (HE2.out.out _ _ _).2⟩
  | true =>
    rw [hg] at CB h
    rw [Bool.true_and] at h
    replace CB := Lib.hid CB
    clear hg
    have hk : k < 0 ∨ 0 ≤ k ∧ 24 < k := by
      by_cases h1 : 0 ≤ k
      case neg => exact .inl (by omega)
      case pos =>
        refine .inr ⟨h1, ?_⟩
        rw [decide_eq_true h1, Bool.true_and] at h
        have := of_decide_eq_false h
        omega
    obtain ⟨c0, c1, c2, -⟩ := HE.out.row.three
    clear h
    rcases hk with h1 | ⟨h1, h2⟩
    all_goals
      go_enter Try.func21, Try.ntmps21
      go_upto_region 1 with fail
      rw [HW.out]
      go_wp2_with fail
      refine (CB.out _ HE.out.bel).mono ?_
      rintro e w1 ⟨rfl, hb1⟩
      have HE1 := Lib.hid (HE.out.next hb1)
      have HE2 := Lib.hid (HE1.out.next (ext1 w1 E0))
      have HN := Lib.hid ((Out.nilLit w1).mono HE1.out.bel.size)
      clear hb1 c0 c1 c2 CB
      obtain ⟨z0, z1, z2, y0, y1, y2⟩ := HE2.out.res.three
      go_wp2_with fail
      exact ret_row5 Try.results21 rfl rfl rfl (HE2.out.out _ _ _).1 rfl ⟨_, _, rfl, HN.out.boxed HE2.out.res _ _ _, Out.none _ _, Sep.none (HE2.out.out _ _ _).2.size, (HE2.out.out _ _ _).2⟩

set_option maxRecDepth 4000 in
set_option maxHeartbeats 1600000 in
theorem parkBackI_any (n : Nat) (ring : Bool) (p : Option Addr) (cap : Nat) (S : Nat → Bool) (q : Option Addr) (c : Nat) (l : List Nat) (kk : Nat) (w : World) (lo hi lo2 hi2 : Nat) (hin : Ri lo hi w p (ints (tk n S))) (hn : n ≤ 24) (hin2 : Ri lo2 hi2 w q (ints l)) (hl : ∀ x ∈ l, x < n) (hll : l.length ≤ 12) (hkk : kk ≤ 24) (hc : carsB n ring (ints (tk n S)) (ints l) = true) :
    Calls Try.prog 21 #[rowV n ring p (ints (tk n S)).length cap, .slice q (ints l).length c, .int .i64 (kk : Nat)] w (MadePkS w n ring (pkM n ring kk S l l.length) (ints (tk n (stM n ring kk S l l.length))) true) := by
  have hlen := ints_tk_len n S
  have hE := Beg.start w n ring p (ints (tk n S)).length cap
  have CB := fun (w' : World) (h' : Below w.heap.size w w') => isListFor_any n ring p cap (ints (tk n S)) q c (ints l) w' lo hi lo2 hi2 (hin.below h' hin.top) (by omega) (hin2.below h' hin2.top) (by rw [ints_length]; omega)
  have PK := fun (w' : World) (h' : Below w.heap.size w w') => parkI_any n ring p cap S q c l kk w' lo hi lo2 hi2 (hin.below h' hin.top) hn (hin2.below h' hin2.top) hl hll hkk
  rw [hc] at CB
  obtain ⟨wb, hwb⟩ : ∃ wb, (w.alloc (.cells #[Value.int .i64 n, Value.bool ring, Value.slice p (ints (tk n S)).length cap] 26)).alloc (.cells #[Value.int .i64 0, Value.bool false, Value.slice none 0 0] 26) = wb := ⟨_, rfl⟩
  rw [hwb] at hE
  obtain ⟨L, hL⟩ : ∃ L, pkM n ring kk S l l.length = L := ⟨_, rfl⟩
  obtain ⟨T, hT⟩ : ∃ T, ints (tk n (stM n ring kk S l l.length)) = T := ⟨_, rfl⟩
  rw [hL, hT] at PK ⊢
  obtain ⟨tl, htl⟩ : ∃ tl, T.length = tl := ⟨_, rfl⟩
  have HTL := Lib.hid htl
  obtain ⟨m0, hm0⟩ : ∃ m, (ints (tk n S)).length = m := ⟨_, rfl⟩
  obtain ⟨m, hm⟩ : ∃ m, (ints l).length = m := ⟨_, rfl⟩
  rw [hm0] at hE CB PK hwb ⊢
  rw [hm] at CB PK ⊢
  have HE := Lib.hid hE
  have HW := Lib.hid hwb
  replace CB := Lib.hid CB
  replace PK := Lib.hid PK
  have hk0 : ¬ (kk : Int) < 0 := by omega
  have hk1 : ¬ (24 : Int) < (kk : Int) := by omega
  unfold MadePkS
  clear hin hin2 hE hwb hm0 hm hL hT hc hl hll hlen htl
  obtain ⟨c0, c1, c2, -⟩ := HE.out.row.three
  go_enter Try.func21, Try.ntmps21
  go_upto_region 1 with fail
  rw [HW.out]
  go_wp2_with fail
  refine (CB.out _ HE.out.bel).mono ?_
  rintro e w1 ⟨rfl, hb1⟩
  have HE1 := Lib.hid (HE.out.next hb1)
  clear hb1 c0 c1 c2 CB HE HW
  obtain ⟨c0, c1, c2, -⟩ := HE1.out.row.three
  go_wp2_with fail
  refine (PK.out _ HE1.out.bel).mono ?_
  rintro e w2 ⟨v, u, rfl, hO, hU, hS, hb2⟩
  obtain ⟨qu, cu, rfl, -⟩ := hU.rd
  rw [HTL.out] at hU hS ⊢
  have HE2 := Lib.hid ((HE1.out.next hb2).next (ext1 w2 (.cells #[.int .i64 (n : Int), .bool ring, .slice qu tl cu] 26)))
  have HX := Lib.hid (OwnArr.made w2 26 [.int .i64 (n : Int), .bool ring, .slice qu tl cu])
  have HO := Lib.hid (World.ownsRow.alloc (hO.mono HE1.out.bel.size) (.cells #[.int .i64 (n : Int), .bool ring, .slice qu tl cu] 26))
  have HU := Lib.hid (World.ownsRow.alloc (hU.mono HE1.out.bel.size) (.cells #[.int .i64 (n : Int), .bool ring, .slice qu tl cu] 26))
  have hbs := HE1.out.res.lt
  have HS := Lib.hid (((hS.next (ext1 w2 (.cells #[.int .i64 (n : Int), .bool ring, .slice qu tl cu] 26))).boxed hbs (.int .i64 (n : Int)) (.bool ring) (.slice qu tl cu)).mono HE1.out.bel.size)
  clear hb2 c0 c1 c2 PK HE1 hO hU hS hbs
  obtain ⟨x0, x1, x2, -⟩ := HX.out.three
  obtain ⟨z0, z1, z2, y0, y1, y2⟩ := HE2.out.res.three
  go_wp2_with fail
  go_region
  all_goals
    go_wp2_with fail
    exact ret_row5 Try.results21 rfl rfl rfl (HE2.out.out _ _ _).1 rfl ⟨_, _, rfl, Out.boxed HO.out HE2.out.res _ _ _, Out.boxed HU.out HE2.out.res _ _ _, (by rw [HTL.out]; exact HS.out.next ((Below.refl _ _).drew)), (HE2.out.out _ _ _).2.drew⟩

set_option maxRecDepth 4000 in
set_option maxHeartbeats 1600000 in
/-- impl.ParkCars is impl.ParkBack at 0 -/
theorem parkCarsI (s : Int) (ring : Bool) (p : Option Addr) (m0 cap : Nat) (q : Option Addr) (m c : Nat) (w : World) (s' : Int) (ring' : Bool) (L T : List Int) (B : Bool)
    (h : ∀ w', Below w.heap.size w w' → Calls Try.prog 21 #[rowV s ring p m0 cap, .slice q m c, .int .i64 0] w' (MadePkS w' s' ring' L T B)) :
    Calls Try.prog 13 #[rowV s ring p m0 cap, .slice q m c] w (MadePkS w s' ring' L T B) := by
  have hE := Beg.start w s ring p m0 cap
  obtain ⟨wb, hwb⟩ : ∃ wb, (w.alloc (.cells #[Value.int .i64 s, Value.bool ring, Value.slice p m0 cap] 26)).alloc (.cells #[Value.int .i64 0, Value.bool false, Value.slice none 0 0] 26) = wb := ⟨_, rfl⟩
  rw [hwb] at hE
  have HE := Lib.hid hE
  have HW := Lib.hid hwb
  have PK := h
  unfold MadePkS at PK ⊢
  replace PK := Lib.hid PK
  clear h hE hwb
  obtain ⟨c0, c1, c2, -⟩ := HE.out.row.three
  go_enter Try.func13, Try.ntmps13
  go_upto_region 1 with fail
  rw [HW.out]
  go_wp2_with fail
  refine (PK.out _ HE.out.bel).mono ?_
  rintro e w2 ⟨v, u, rfl, hO, hU, hS, hb2⟩
  obtain ⟨qu, cu, rfl, -⟩ := hU.rd
  obtain ⟨tl, htl⟩ : ∃ tl, T.length = tl := ⟨_, rfl⟩
  rw [htl] at hU hS ⊢
  have HE2 := Lib.hid (HE.out.next hb2)
  have HO := Lib.hid (hO.mono HE.out.bel.size)
  have HU := Lib.hid (hU.mono HE.out.bel.size)
  have hbs := HE.out.res.lt
  have HS := Lib.hid ((hS.boxed hbs (.int .i64 s') (.bool ring') (.slice qu tl cu)).mono HE.out.bel.size)
  clear hb2 c0 c1 c2 PK HE hO hU HW hS hbs
  obtain ⟨z0, z1, z2, y0, y1, y2⟩ := HE2.out.res.three
  go_wp2_with fail
  subst htl
  exact ret_row5 Try.results13 rfl rfl rfl (HE2.out.out _ _ _).1 rfl ⟨_, _, rfl, Out.boxed HO.out HE2.out.res _ _ _, Out.boxed HU.out HE2.out.res _ _ _, HS.out, (HE2.out.out _ _ _).2⟩

theorem parkCarsI_bad (s : Int) (ring : Bool) (p : Option Addr) (cap : Nat) (xs : List Int) (q : Option Addr) (c : Nat) (cs : List Int) (w : World) (lo hi lo2 hi2 : Nat) (hin : Ri lo hi w p xs) (hlen : xs.length ≤ 1048576) (hin2 : Ri lo2 hi2 w q cs) (hlen2 : cs.length ≤ 1048576) (h : carsB s ring xs cs = false) :
    Calls Try.prog 13 #[rowV s ring p xs.length cap, .slice q cs.length c] w (MadePkS w 0 false [] [] false) :=
  parkCarsI s ring p _ cap q _ c w 0 false [] [] false fun w' h' => parkBackI_bad s ring p cap xs q c cs 0 w' lo hi lo2 hi2 (hin.below h' hin.top) hlen (hin2.below h' hin2.top) hlen2 (by rw [h]; rfl)
theorem parkCarsI_any (n : Nat) (ring : Bool) (p : Option Addr) (cap : Nat) (S : Nat → Bool) (q : Option Addr) (c : Nat) (l : List Nat) (w : World) (lo hi lo2 hi2 : Nat) (hin : Ri lo hi w p (ints (tk n S))) (hn : n ≤ 24) (hin2 : Ri lo2 hi2 w q (ints l)) (hl : ∀ x ∈ l, x < n) (hll : l.length ≤ 12) (hc : carsB n ring (ints (tk n S)) (ints l) = true) :
    Calls Try.prog 13 #[rowV n ring p (ints (tk n S)).length cap, .slice q (ints l).length c] w (MadePkS w n ring (pkM n ring 0 S l l.length) (ints (tk n (stM n ring 0 S l l.length))) true) :=
  parkCarsI n ring p _ cap q _ c w _ _ _ _ _ fun w' h' => parkBackI_any n ring p cap S q c l 0 w' lo hi lo2 hi2 (hin.below h' hin.top) hn (hin2.below h' hin2.top) hl hll (Nat.zero_le _) hc

theorem parkCars_both (s0 : Int) (r0 : Bool) (xs0 : List Int) (xs1 : List Int) : ∃ (L0 : List Int) (x1 : Int) (y1 : Bool) (L1 : List Int) (y2 : Bool), L0.length ≤ 1000 ∧ L1.length ≤ 1000 ∧ (∀ (q0 : Option Addr) (c0 : Nat) (q1 : Option Addr) (c1 : Nat) (w : World) (lo0 hi0 : Nat) (lo1 hi1 : Nat), Ri lo0 hi0 w q0 xs0 → xs0.length ≤ 1048576 → xs0.length ≤ c0 → c0 ≤ maxLen → Ri lo1 hi1 w q1 xs1 → xs1.length ≤ 1048576 → xs1.length ≤ c1 → c1 ≤ maxLen → Calls Try.prog 10 #[rowV s0 r0 q0 xs0.length c0, .slice q1 xs1.length c1] w fun e w' => ∃ v0 v1, e = .returned (.tuple #[v0, .agg #[.int .i64 x1, .bool y1, v1], .bool y2]) ∧ Out w.heap.size w' v0 L0 ∧ Out w.heap.size w' v1 L1 ∧ Below w.heap.size w w') ∧ (∀ (q0 : Option Addr) (c0 : Nat) (q1 : Option Addr) (c1 : Nat) (w : World) (lo0 hi0 : Nat) (lo1 hi1 : Nat), Ri lo0 hi0 w q0 xs0 → xs0.length ≤ 1048576 → xs0.length ≤ c0 → c0 ≤ maxLen → Ri lo1 hi1 w q1 xs1 → xs1.length ≤ 1048576 → xs1.length ≤ c1 → c1 ≤ maxLen → Calls Try.prog 13 #[rowV s0 r0 q0 xs0.length c0, .slice q1 xs1.length c1] w fun e w' => ∃ v0 v1, e = .returned (.tuple #[v0, .agg #[.int .i64 x1, .bool y1, v1], .bool y2]) ∧ Out w.heap.size w' v0 L0 ∧ Out w.heap.size w' v1 L1 ∧ Sep w.heap.size v0 v1 L0.length L1.length w' ∧ Below w.heap.size w w') := by
  cases h : carsB s0 r0 xs0 xs1 with
  | false => exact ⟨[], 0, false, [], false, by simp, by simp, fun q0 c0 q1 c1 w lo hi lo2 hi2 h1 h2 _ _ h3 h4 _ _ => parkCarsS_bad s0 r0 q0 c0 xs0 q1 c1 xs1 w lo hi lo2 hi2 h1 h2 h3 h4 h, fun q0 c0 q1 c1 w lo hi lo2 hi2 h1 h2 _ _ h3 h4 _ _ => parkCarsI_bad s0 r0 q0 c0 xs0 q1 c1 xs1 w lo hi lo2 hi2 h1 h2 h3 h4 h⟩
  | true =>
    obtain ⟨n, S, l, rfl, rfl, rfl, h2, hn, h3, hl, hll⟩ := carsB_is h
    exact ⟨_, _, _, _, _, by rw [pk_len]; omega, Nat.le_trans (ints_tk_len _ _) (by omega), fun q0 c0 q1 c1 w lo hi lo2 hi2 h1 _ _ _ h3' _ _ _ => parkCarsS_any n r0 q0 c0 S q1 c1 l w lo hi lo2 hi2 h1 h2 hn h3' hl hll h, fun q0 c0 q1 c1 w lo hi lo2 hi2 h1 _ _ _ h3' _ _ _ => parkCarsI_any n r0 q0 c0 S q1 c1 l w lo hi lo2 hi2 h1 hn h3' hl hll h⟩
theorem parkBack_both (s0 : Int) (r0 : Bool) (xs0 : List Int) (xs1 : List Int) (a2 : Int) : ∃ (L0 : List Int) (x1 : Int) (y1 : Bool) (L1 : List Int) (y2 : Bool), L0.length ≤ 1000 ∧ L1.length ≤ 1000 ∧ (∀ (q0 : Option Addr) (c0 : Nat) (q1 : Option Addr) (c1 : Nat) (w : World) (lo0 hi0 : Nat) (lo1 hi1 : Nat), Ri lo0 hi0 w q0 xs0 → xs0.length ≤ 1048576 → xs0.length ≤ c0 → c0 ≤ maxLen → Ri lo1 hi1 w q1 xs1 → xs1.length ≤ 1048576 → xs1.length ≤ c1 → c1 ≤ maxLen → Calls Try.prog 20 #[rowV s0 r0 q0 xs0.length c0, .slice q1 xs1.length c1, .int .i64 a2] w fun e w' => ∃ v0 v1, e = .returned (.tuple #[v0, .agg #[.int .i64 x1, .bool y1, v1], .bool y2]) ∧ Out w.heap.size w' v0 L0 ∧ Out w.heap.size w' v1 L1 ∧ Below w.heap.size w w') ∧ (∀ (q0 : Option Addr) (c0 : Nat) (q1 : Option Addr) (c1 : Nat) (w : World) (lo0 hi0 : Nat) (lo1 hi1 : Nat), Ri lo0 hi0 w q0 xs0 → xs0.length ≤ 1048576 → xs0.length ≤ c0 → c0 ≤ maxLen → Ri lo1 hi1 w q1 xs1 → xs1.length ≤ 1048576 → xs1.length ≤ c1 → c1 ≤ maxLen → Calls Try.prog 21 #[rowV s0 r0 q0 xs0.length c0, .slice q1 xs1.length c1, .int .i64 a2] w fun e w' => ∃ v0 v1, e = .returned (.tuple #[v0, .agg #[.int .i64 x1, .bool y1, v1], .bool y2]) ∧ Out w.heap.size w' v0 L0 ∧ Out w.heap.size w' v1 L1 ∧ Sep w.heap.size v0 v1 L0.length L1.length w' ∧ Below w.heap.size w w') := by
  cases h : (carsB s0 r0 xs0 xs1 && (decide (0 ≤ a2) && decide (a2 ≤ 24))) with
  | false => exact ⟨[], 0, false, [], false, by simp, by simp, fun q0 c0 q1 c1 w lo hi lo2 hi2 h1 h2 _ _ h3 h4 _ _ => parkBackS_bad s0 r0 q0 c0 xs0 q1 c1 xs1 a2 w lo hi lo2 hi2 h1 h2 h3 h4 h, fun q0 c0 q1 c1 w lo hi lo2 hi2 h1 h2 _ _ h3 h4 _ _ => parkBackI_bad s0 r0 q0 c0 xs0 q1 c1 xs1 a2 w lo hi lo2 hi2 h1 h2 h3 h4 h⟩
  | true =>
    rw [Bool.and_eq_true, Bool.and_eq_true, decide_eq_true_eq, decide_eq_true_eq] at h
    obtain ⟨hc, hk0, hk1⟩ := h
    obtain ⟨kk, rfl⟩ : ∃ kk : Nat, a2 = kk := ⟨a2.toNat, by omega⟩
    obtain ⟨n, S, l, rfl, rfl, rfl, h2, hn, h3, hl, hll⟩ := carsB_is hc
    exact ⟨_, _, _, _, _, by rw [pk_len]; omega, Nat.le_trans (ints_tk_len _ _) (by omega), fun q0 c0 q1 c1 w lo hi lo2 hi2 h1 _ _ _ h3' _ _ _ => parkBackS_any n r0 q0 c0 S q1 c1 l kk w lo hi lo2 hi2 h1 h2 hn h3' hl hll (by omega) hc, fun q0 c0 q1 c1 w lo hi lo2 hi2 h1 _ _ _ h3' _ _ _ => parkBackI_any n r0 q0 c0 S q1 c1 l kk w lo hi lo2 hi2 h1 hn h3' hl hll (by omega) hc⟩
end Go.Proofs.Ytgalopbpbhlcdaa
