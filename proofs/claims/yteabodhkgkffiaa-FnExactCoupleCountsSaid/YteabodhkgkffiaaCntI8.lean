/- Chapter 8: CoupleCounts and MenageCount on both sides. -/
import Derived.Test.YteabodhkgkffiaaExC8
namespace Go.Proofs.Yteabodhkgkffiaa
open Go.RowKit

theorem two_pow_small {n : Nat} (hn : n ≤ 6) : ∀ j, j ≤ n → 2 ^ j ≤ 4611686018427387904 := fun j hj => Nat.le_trans (Nat.pow_le_pow_right (by omega) (by omega : j ≤ 6)) (by decide)
theorem wC_parts (k : Nat) (hk : k ≤ 6) (ring : Bool) (s : Nat) (hs : s ≤ k) : sea8 k ring s * 2 ^ s ≤ 100000000 ∧ wC8 k ring s ≤ 100000000000000000 := by
  have h1 := sea_le2 hk ring hs
  have h2 : 2 ^ s ≤ 64 := Nat.le_trans (Nat.pow_le_pow_right (by omega) (by omega : s ≤ 6)) (by decide)
  have h3 : fac8 (2 * (k - s)) ≤ 479001600 := fac_le _ (by omega)
  have h4 : sea8 k ring s * 2 ^ s ≤ 1440000 * 64 := Nat.mul_le_mul h1 h2
  refine ⟨by omega, ?_⟩
  have h5 : wC8 k ring s ≤ (1440000 * 64) * 479001600 := Nat.mul_le_mul h4 h3
  exact Nat.le_trans h5 (by decide)

set_option maxRecDepth 4000 in
set_option maxHeartbeats 1000000 in
theorem closC_any (k : Nat) (ring : Bool) (s : Nat) (hk : k ≤ 6) (hk1 : 1 ≤ k) (hs : s ≤ k) (a b : Nat) (w : World) (hA : OwnArr w a 3 [.int .i64 (k : Int)]) (hB : OwnArr w b 4 [.bool ring]) :
    Calls Try.prog 40 #[.int .i64 (s : Int), .pointer (some ⟨a, 0, none⟩), .pointer (some ⟨b, 0, none⟩)] w fun e w' => e = .returned (.int .i64 ((wC8 k ring s : Nat) : Int)) ∧ Below w.heap.size w w' := by
  have c1 := hA.cell 0
  have c2 := hB.cell 0
  have c1' : w.cell? ⟨a, 0, none⟩ = some (.int .i64 (k : Int)) := c1
  have c2' : w.cell? ⟨b, 0, none⟩ = some (.bool ring) := c2
  have hW : wC8 k ring s = sea8 k ring s * 2 ^ s * fac8 (2 * (k - s)) := rfl
  obtain ⟨p1, p2⟩ := wC_parts k hk ring s hs
  have l1 := sea_le2 hk ring hs
  have S := fun w' => (couplesSeated_any k ring s hk hk1 hs w').mono (R' := fun e w'' => e = .returned (.int .i64 ((sea8 k ring s : Nat) : Int)) ∧ w'' = w') (by rintro e w2 ⟨h1, h2⟩; exact ⟨h1, h2.symm⟩)
  have P := fun w' => (power_any 2 s (by omega) (two_pow_small (by omega)) w').mono (R' := fun e w'' => e = .returned (.int .i64 ((2 ^ s : Nat) : Int)) ∧ w'' = w') (by rintro e w2 ⟨h1, h2⟩; exact ⟨h1, h2.symm⟩)
  obtain ⟨d, hd⟩ : ∃ d, 2 * (k - s) = d := ⟨_, rfl⟩
  have F := fun w' => (ordersOf_any d (by omega) w').mono (R' := fun e w'' => e = .returned (.int .i64 ((fac8 d : Nat) : Int)) ∧ w'' = w') (by rintro e w2 ⟨h1, h2⟩; exact ⟨h1, h2.symm⟩)
  have l2 := fac_le d (by omega)
  rw [hd] at hW
  have hdi : 2 * ((k : Int) - (s : Int)) = (d : Int) := by omega
  obtain ⟨x, hx⟩ : ∃ x, sea8 k ring s = x := ⟨_, rfl⟩
  obtain ⟨y, hy⟩ : ∃ y, 2 ^ s = y := ⟨_, rfl⟩
  obtain ⟨z, hz⟩ : ∃ z, fac8 d = z := ⟨_, rfl⟩
  obtain ⟨R, hR⟩ : ∃ R, wC8 k ring s = R := ⟨_, rfl⟩
  rw [hx] at S p1 hW
  rw [hy] at P p1 hW
  rw [hz] at F hW
  rw [hR] at p2 hW ⊢
  obtain ⟨m, hm⟩ : ∃ m, x * y = m := ⟨_, rfl⟩
  rw [hm] at p1 hW
  have m1 : (x : Int) * (y : Int) = (m : Int) := by rw [← hm]; push_cast; rfl
  have m2 : (m : Int) * (z : Int) = (R : Int) := by rw [hW]; push_cast; rfl
  have w1 : IntKind.i64.wrap (m : Int) = (m : Int) := IntWalk.i64_in _ (by omega)
  have w2 : IntKind.i64.wrap (R : Int) = (R : Int) := IntWalk.i64_in _ (by omega)
  have w3 : IntKind.i64.wrap ((k : Int) - (s : Int)) = (k : Int) - (s : Int) := IntWalk.i64_in _ (by omega)
  have w4 : IntKind.i64.wrap (d : Int) = (d : Int) := IntWalk.i64_in _ (by omega)
  replace S := Lib.hid S
  replace P := Lib.hid P
  replace F := Lib.hid F
  clear c1 c2 hA hB hx hy hz hR hm hd hW l1 l2
  go_enter Try.func40, Try.ntmps40
  go_wp2_with fail
  refine wp_region_still_lit (by kernel_rfl) (by kernel_rfl) ?_
  repeat still_step
  still_call (S.out _)
  repeat still_step
  still_call (P.out _)
  repeat still_step
  still_call (F.out _)
  repeat still_step
  refine wpStill_nil ?_
  go_wp2_with fail
  go_ret
  exact ⟨rfl, (Below.refl _ _).drew⟩

set_option maxRecDepth 4000 in
set_option maxHeartbeats 1000000 in
theorem closM_any (k : Nat) (s : Nat) (hk : k ≤ 6) (hk1 : 1 ≤ k) (hs : s ≤ k) (a : Nat) (w : World) (hA : OwnArr w a 3 [.int .i64 (k : Int)]) :
    Calls Try.prog 45 #[.int .i64 (s : Int), .pointer (some ⟨a, 0, none⟩)] w fun e w' => e = .returned (.int .i64 ((wM8 k s : Nat) : Int)) ∧ Below w.heap.size w w' := by
  have c1' : w.cell? ⟨a, 0, none⟩ = some (.int .i64 (k : Int)) := hA.cell 0
  obtain ⟨d, hd⟩ : ∃ d, k - s = d := ⟨_, rfl⟩
  have hW : wM8 k s = sea8 k true s * 2 * fac8 d * fac8 d := by rw [← hd]; rfl
  have l1 := sea_le2 hk true hs
  have l2 : fac8 d ≤ 720 := Nat.le_trans (fac_mono (by omega : d ≤ 6)) (by decide)
  have S := fun w' => couplesSeated_any k true s hk hk1 hs w'
  have F := fun w' => ordersOf_any d (by omega) w'
  have hdi : (k : Int) - (s : Int) = (d : Int) := by omega
  obtain ⟨x, hx⟩ : ∃ x, sea8 k true s = x := ⟨_, rfl⟩
  obtain ⟨z, hz⟩ : ∃ z, fac8 d = z := ⟨_, rfl⟩
  obtain ⟨R, hR⟩ : ∃ R, wM8 k s = R := ⟨_, rfl⟩
  rw [hx] at S l1 hW
  rw [hz] at F l2 hW
  rw [hR] at hW ⊢
  have b1 : x * 2 * z ≤ 1440000 * 2 * 720 := Nat.mul_le_mul (Nat.mul_le_mul_right 2 l1) l2
  have b2 : x * 2 * z * z ≤ 1440000 * 2 * 720 * 720 := Nat.mul_le_mul b1 l2
  obtain ⟨m, hm⟩ : ∃ m, x * 2 * z = m := ⟨_, rfl⟩
  rw [hm] at b1 b2 hW
  have m1 : (x : Int) * 2 * (z : Int) = (m : Int) := by rw [← hm]; push_cast; rfl
  have m2 : (m : Int) * (z : Int) = (R : Int) := by rw [hW]; push_cast; rfl
  rw [← hW] at b2
  have w1 : IntKind.i64.wrap (m : Int) = (m : Int) := IntWalk.i64_in _ (by omega)
  have w2 : IntKind.i64.wrap (R : Int) = (R : Int) := IntWalk.i64_in _ (by omega)
  have w4 : IntKind.i64.wrap (d : Int) = (d : Int) := IntWalk.i64_in _ (by omega)
  have w5 : IntKind.i64.wrap ((x : Int) * 2) = (x : Int) * 2 := IntWalk.i64_in _ (by omega)
  replace S := Lib.hid S
  replace F := Lib.hid F
  clear hA hx hz hR hm hd hW
  go_enter Try.func45, Try.ntmps45
  go_wp2_with fail
  refine (F.out _).mono ?_
  rintro e w1 ⟨rfl, rfl⟩
  go_wp2_with fail
  refine (S.out _).mono ?_
  rintro e w1 ⟨rfl, rfl⟩
  go_wp2_with fail
  go_ret
  exact ⟨rfl, Below.refl _ _⟩

/-- what CoupleCounts gives -/
def ccR (k : Int) (ring : Bool) : List Int := if couB k ring = true then imL (k.toNat + 1) (fun t => cnT8 k.toNat ring t (k.toNat + 1 - t)) else []

set_option maxRecDepth 4000 in
set_option maxHeartbeats 1000000 in
theorem ccI_any (k : Int) (ring : Bool) (w : World) :
    Calls Try.prog 23 #[.int .i64 k, .bool ring] w fun e w' => ∃ v, e = .returned (.tuple #[v, .bool (couB k ring)]) ∧ Out w.heap.size w' v (ccR k ring) ∧ Below w.heap.size w w' := by
  have C := fun w' => hasCouples_any k ring w'
  have hX : OwnArr (w.alloc (.cells #[.int .i64 k] 3)) w.heap.size 3 [.int .i64 k] := OwnArr.made w _ [_]
  have hX2 := hX.alloc (.cells #[.bool ring] 4)
  have hY : OwnArr ((w.alloc (.cells #[.int .i64 k] 3)).alloc (.cells #[.bool ring] 4)) (w.heap.size + 1) 4 [.bool ring] := OwnArr.mk' rfl (by simp)
  have hB : Below w.heap.size w ((w.alloc (.cells #[.int .i64 k] 3)).alloc (.cells #[.bool ring] 4)) := ((Below.refl _ _).alloc (Nat.le_refl _) _).alloc (by simp) _
  obtain ⟨w1, hw1⟩ : ∃ w1, w1 = (w.alloc (.cells #[.int .i64 k] 3)).alloc (.cells #[.bool ring] 4) := ⟨_, rfl⟩
  have hsz : w1.heap.size = w.heap.size + 1 + 1 := by rw [hw1]; simp
  rw [← hw1] at hX2 hY hB
  have cx : w1.cell? ⟨w.heap.size, 0, none⟩ = some (.int .i64 k) := hX2.cell 0
  have cy : w1.cell? ⟨w.heap.size + 1, 0, none⟩ = some (.bool ring) := hY.cell 0
  have HX := Lib.hid hX2
  have HY := Lib.hid hY
  have HB := Lib.hid hB
  have HSZ := Lib.hid hsz
  have HW := Lib.hid hw1
  unfold ccR
  cases hc : couB k ring with
  | false =>
    rw [hc] at C
    rw [if_neg (by simp)]
    have HO := Lib.hid ((Out.nilLit w1).mono (by rw [hsz]; omega : w.heap.size ≤ w1.heap.size))
    have HBZ := Lib.hid (hB.alloc (by rw [hsz]; omega) (.cells #[] 3))
    replace C := Lib.hid C
    clear hX hX2 hY hB hc hw1 hsz
    go_enter Try.func23, Try.ntmps23
    go_wp2_with fail
    rw [← HW.out]
    go_wp2_with fail
    refine (C.out _).mono ?_
    rintro e w2 ⟨rfl, rfl⟩
    go_wp2_with fail
    go_ret2
    exact ⟨_, rfl, HO.out, HBZ.out⟩
  | true =>
    rw [hc] at C
    rw [if_pos rfl]
    obtain ⟨n, rfl, h1, h6, h2r⟩ := couB_is hc
    rw [Int.toNat_natCast]
    have E := exactC_any n h6 (fun s => (wC8 n ring s : Int)) (.pointer (some ⟨w.heap.size, 0, none⟩)) (.pointer (some ⟨w.heap.size + 1, 0, none⟩)) w1 (fun t ht m hm => couples_bound n h6 ring t ht m hm) (fun s hs w' hb => closC_any n ring s h6 h1 hs _ _ w' (hX2.below hb hX2.lt) (hY.below hb hY.lt))
    have hsame : imL (n + 1) (exS8 n (fun s => (wC8 n ring s : Int)) (n + 1)) = imL (n + 1) (fun t => cnT8 n ring t (n + 1 - t)) := im_congr fun j hj => couples_same n h6 h1 ring h2r j (by omega)
    rw [hsame] at E
    obtain ⟨R, hR⟩ : ∃ R, imL (n + 1) (fun t => cnT8 n ring t (n + 1 - t)) = R := ⟨_, rfl⟩
    have hRl : R.length = n + 1 := by rw [← hR, im_len]
    rw [hR] at E ⊢
    replace E := Lib.hid E
    replace C := Lib.hid C
    have HRL := Lib.hid hRl
    clear hX hX2 hY hB hc hw1 hsz hsame hR hRl
    go_enter Try.func23, Try.ntmps23
    go_wp2_with fail
    rw [← HW.out]
    go_wp2_with fail
    refine (C.out _).mono ?_
    rintro e w2 ⟨rfl, rfl⟩
    go_wp2_with fail
    refine E.out.mono ?_
    rintro e w3 ⟨g, rfl, hg, ho, hb⟩
    have hg2 : w.heap.size ≤ g := by have := HSZ.out; omega
    have HO := Lib.hid (out_arr ho hg2 HRL.out (by unfold maxLen; omega))
    have HB3 := Lib.hid (HB.out.trans (hb.mono HB.out.size))
    clear hb ho
    go_wp2_with fail
    go_ret2
    exact ⟨_, rfl, HO.out, HB3.out⟩

/-- what MenageCount gives -/
def menB (k : Int) : Bool := decide (2 ≤ k) && decide (k ≤ 6)
def menR (k : Int) : Int := if menB k = true then 2 * (fac8 k.toNat : Int) * mnT8 k.toNat (k.toNat + 1) else 0
theorem menB_is {k : Int} (h : menB k = true) : ∃ n : Nat, k = n ∧ 2 ≤ n ∧ n ≤ 6 := by
  unfold menB at h
  simp only [Bool.and_eq_true, decide_eq_true_eq] at h
  exact ⟨k.toNat, by omega, by omega, by omega⟩
theorem couB_men (k : Int) : couB k true = menB k := by
  unfold couB menB
  by_cases h : 2 ≤ k
  · have e1 : 1 ≤ k := by omega
    have e2 : 1 < k := by omega
    rw [decide_eq_true h, decide_eq_true e1, decide_eq_true e2]
    simp
  · have e2 : ¬ 1 < k := by omega
    rw [decide_eq_false h, decide_eq_false e2]
    simp

set_option maxRecDepth 4000 in
set_option maxHeartbeats 1000000 in
theorem menI_any (k : Int) (w : World) :
    Calls Try.prog 25 #[.int .i64 k] w fun e w' => e = .returned (.tuple #[.int .i64 (menR k), .bool (menB k)]) ∧ Below w.heap.size w w' := by
  have C := fun w' => hasCouples_any k true w'
  rw [couB_men] at C
  have hX : OwnArr (w.alloc (.cells #[.int .i64 k] 3)) w.heap.size 3 [.int .i64 k] := OwnArr.made w _ [_]
  have hB : Below w.heap.size w (w.alloc (.cells #[.int .i64 k] 3)) := (Below.refl _ _).alloc (Nat.le_refl _) _
  obtain ⟨w1, hw1⟩ : ∃ w1, w1 = w.alloc (.cells #[.int .i64 k] 3) := ⟨_, rfl⟩
  rw [← hw1] at hX hB
  have cx : w1.cell? ⟨w.heap.size, 0, none⟩ = some (.int .i64 k) := hX.cell 0
  have HX := Lib.hid hX
  have HB := Lib.hid hB
  have HW := Lib.hid hw1
  unfold menR
  cases hc : menB k with
  | false =>
    rw [hc] at C
    rw [if_neg (by simp)]
    replace C := Lib.hid C
    clear hX hB hc hw1
    go_enter Try.func25, Try.ntmps25
    go_wp2_with fail
    rw [← HW.out]
    go_wp2_with fail
    refine (C.out _).mono ?_
    rintro e w2 ⟨rfl, rfl⟩
    go_wp2_with fail
    go_ret2
    exact ⟨rfl, HB.out⟩
  | true =>
    rw [hc] at C
    rw [if_pos rfl]
    obtain ⟨n, rfl, h2, h6⟩ := menB_is hc
    rw [Int.toNat_natCast]
    have E := exactM_any n h6 (fun s => (wM8 n s : Int)) (.pointer (some ⟨w.heap.size, 0, none⟩)) w1 (fun t ht m hm => menage_bound n h6 t ht m hm) (fun s hs w' hb => closM_any n s h6 (by omega) hs _ w' (hX.below hb hX.lt))
    have H0 : Hid (exS8 n (fun s => (wM8 n s : Int)) (n + 1) 0 = 2 * (fac8 n : Int) * mnT8 n (n + 1)) := menage_same n h6 h2
    obtain ⟨R, hR⟩ : ∃ R, 2 * (fac8 n : Int) * mnT8 n (n + 1) = R := ⟨_, rfl⟩
    rw [hR] at H0 ⊢
    obtain ⟨F, hF⟩ : ∃ F, exS8 n (fun s => (wM8 n s : Int)) (n + 1) = F := ⟨_, rfl⟩
    rw [hF] at E H0
    have h0n : (0 : Int) < (n : Int) + 1 := by omega
    replace E := Lib.hid E
    replace C := Lib.hid C
    clear hX hB hc hw1 hR hF
    go_enter Try.func25, Try.ntmps25
    go_wp2_with fail
    rw [← HW.out]
    go_wp2_with fail
    refine (C.out _).mono ?_
    rintro e w2 ⟨rfl, rfl⟩
    go_wp2_with fail
    refine E.out.mono ?_
    rintro e w3 ⟨g, rfl, hg, ho, hb⟩
    have c0 := (ho.cell 0).trans (im_get (by omega))
    rw [H0.out] at c0
    have HB3 := Lib.hid (HB.out.trans (hb.mono HB.out.size))
    clear hb ho
    go_wp2_with fail
    go_ret2
    exact ⟨rfl, HB3.out⟩
end Go.Proofs.Yteabodhkgkffiaa
