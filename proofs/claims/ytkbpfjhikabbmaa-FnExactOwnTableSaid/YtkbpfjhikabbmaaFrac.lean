/- Fractions in lowest terms: spec.l2Gcd, l2Cut, l2Plus, l2Times, by rational numbers. -/
import Derived.Test.YtkbpfjhikabbmaaRowHelp
import Derived.Laws.Rows
import Derived.BigRegion
import Derived.BigQuiet
import Derived.Deep.QuietTactic
import Derived.Deep.RegionWith
import Derived.Deep.RegionHeld3
import Derived.Deep.DeepCutAuto
import Derived.StillTailTactics
namespace Go.Proofs.Ytkbpfjhikabbmaa
open Go.RowKit

theorem below_drewN {B : Nat} {w w' : World} (h : Below B w w') (n : Nat) : Below B w (w'.drewN n) :=
  h.trans ⟨rfl, rfl, rfl, Nat.le_refl _, fun _ _ => rfl⟩
/-- a fraction as a value -/
abbrev ratV (q : Rat) : Value := .agg #[.int .i64 q.num, .int .i64 ((q.den : Nat) : Int)]

set_option maxRecDepth 4000 in
set_option maxHeartbeats 1000000 in
theorem l2Gcd_any (a b : Nat) (ha : a < 9223372036854775808) (hb : b < 9223372036854775808) (w : World) :
    Calls Try.prog 44 #[.int .i64 (a : Nat), .int .i64 (b : Nat)] w fun e w' => e = .returned (.int .i64 ((Nat.gcd a b : Nat) : Int)) ∧ Below w.heap.size w w' := by
  obtain ⟨g, hg⟩ : ∃ g, Nat.gcd a b = g := ⟨_, rfl⟩
  rw [hg]
  have HG0 := Lib.hid hg
  have HB0 := Lib.hid (Below.refl w.heap.size w)
  clear hg
  go_enter Try.func44, Try.ntmps44
  go_wp2_with fail
  go_loopw [0, 1] (fun va vb wr => ∃ x y : Nat, x < 9223372036854775808 ∧ y < 9223372036854775808 ∧ va = .int .i64 (x : Nat) ∧ vb = .int .i64 (y : Nat) ∧ Hid (Nat.gcd x y = g) ∧ Hid (Below w.heap.size w wr)) (fun _ vb _ => (intOf vb).toNat)
  case atStart => exact ⟨a, b, ha, hb, rfl, rfl, HG0, HB0⟩
  case round =>
    obtain ⟨x, y, hx, hy, rfl, rfl, HG, HB⟩ := hrel
    clear HG0 HB0
    by_cases hy0 : 0 < y
    · have hk : (0 : Int) < (y : Int) := by omega
      have hne : ¬ y = 0 := by omega
      have ht : (x : Int).tmod (y : Int) = ((x % y : Nat) : Int) := by rw [Int.ofNat_tmod]
      have hlt := Nat.mod_lt x hy0
      have HG2 : Hid (Nat.gcd y (x % y) = g) := by show _ = _; rw [← HG.out, Nat.gcd_comm x y, Nat.gcd_rec y x, Nat.gcd_comm]
      obtain ⟨z, hz⟩ : ∃ z, x % y = z := ⟨_, rfl⟩
      rw [hz] at ht hlt HG2
      have hw : IntKind.i64.wrap (z : Int) = (z : Int) := IntWalk.i64_in _ (by omega)
      clear hz
      go_wp2_with fail
      go_quiet (fail)
      go_wp2_with fail
      go_roundw
      case rel => exact ⟨y, z, hy, by omega, by go_num, by go_num, HG2, below_drewN HB.out _⟩
      case measure => simp [intOf]; omega
    · have hy00 : y = 0 := by omega
      subst hy00
      have hgx : x = g := by have := HG.out; rwa [Nat.gcd_zero_right] at this
      subst hgx
      go_wp2_with fail
      go_ret
      exact ⟨rfl, HB.out⟩

theorem most_any (x y : Int) (w : World) : Calls Try.prog 52 #[.int .i64 x, .int .i64 y] w fun e w' => e = .returned (.int .i64 (max x y)) ∧ w = w' := by
  by_cases h : y < x
  · have e : max x y = x := by omega
    rw [e]
    go_enter Try.func52, Try.ntmps52
    go_wp2
    go_ret
    exact ⟨rfl, rfl⟩
  · have e : max x y = y := by omega
    rw [e]
    go_enter Try.func52, Try.ntmps52
    go_wp2
    go_ret
    exact ⟨rfl, rfl⟩

theorem cut_num (a : Int) (b : Nat) (hb : 0 < b) : a.tdiv ((Nat.gcd a.natAbs b : Nat) : Int) = (mkRat a b).num ∧ (b : Int).tdiv ((Nat.gcd a.natAbs b : Nat) : Int) = ((mkRat a b).den : Int) := by
  have hb0 : ¬ b = 0 := by omega
  rw [Rat.num_mkRat, Rat.den_mkRat, if_neg hb0, if_neg hb0, Nat.gcd_comm b]
  have hd : ((Nat.gcd a.natAbs b : Nat) : Int) ∣ a := Int.ofNat_dvd_left.2 (Nat.gcd_dvd_left _ _)
  constructor
  · rw [Int.tdiv_eq_ediv_of_dvd hd]
  · rw [← Int.ofNat_tdiv]
theorem cut_le (a : Int) (b : Nat) (hb : 0 < b) : (mkRat a b).num.natAbs ≤ a.natAbs ∧ (mkRat a b).den ≤ b := by
  have hb0 : ¬ b = 0 := by omega
  rw [Rat.num_mkRat, Rat.den_mkRat, if_neg hb0, if_neg hb0]
  constructor
  · obtain ⟨c, hc⟩ : ((b.gcd a.natAbs : Nat) : Int) ∣ a := Int.ofNat_dvd_left.2 (Nat.gcd_dvd_right _ _)
    have hg : 0 < b.gcd a.natAbs := Nat.gcd_pos_of_pos_left _ hb
    obtain ⟨g, hgg⟩ : ∃ g, b.gcd a.natAbs = g := ⟨_, rfl⟩
    rw [hgg] at hc hg ⊢
    rw [hc, Int.mul_ediv_cancel_left _ (by omega), Int.natAbs_mul]
    exact Nat.le_mul_of_pos_left _ (by omega)
  · exact Nat.div_le_self _ _

theorem infoFr : (Try.prog.info? 48).map (·.size) = some 2 := by kernel_rfl
theorem ret_fr {fn : Func} {R : Ending → World → Prop} {a : Act} {w : World} {p : Tmp} {b : Nat} {x y : Value} (h : fn.results = #[.cell p 48]) (hp : a.tmps.getD p undef = .pointer (some ⟨b, 0, none⟩))
    (ho : OwnArr w b 48 [x, y]) (hd : a.defers = []) (hR : R (.returned (.agg #[x, y])) w) : bodyPost Try.prog fn R .ret a w :=
  bodyPost_ret (v := .agg #[x, y]) (results_cell_row h _ w b 48 #[x, y] (0, 0) _ hp ho Try.underlying48 rfl (by rw [infoFr]; rfl)) hd hR

set_option maxRecDepth 4000 in
set_option maxHeartbeats 1000000 in
theorem l2Cut_any (a : Int) (b : Nat) (ha : a.natAbs ≤ 4611686018427387904) (hb : 0 < b) (hb2 : b ≤ 4611686018427387904) (w : World) :
    Calls Try.prog 45 #[.int .i64 a, .int .i64 (b : Nat)] w fun e w' => e = .returned (ratV (mkRat a b)) ∧ Below w.heap.size w w' := by
  have hq := cut_num a b hb
  have hle := cut_le a b hb
  have hg0 : 0 < Nat.gcd a.natAbs b := Nat.gcd_pos_of_pos_right _ hb
  have hgl : Nat.gcd a.natAbs b ≤ b := Nat.gcd_le_right _ hb
  have M := Lib.hid (fun w' => most_any a (-a) w')
  have hm : max a (-a) = ((a.natAbs : Nat) : Int) := by omega
  rw [hm] at M
  have G := Lib.hid (fun w' => l2Gcd_any a.natAbs b (by omega) (by omega) w')
  obtain ⟨g, hg⟩ : ∃ g, Nat.gcd a.natAbs b = g := ⟨_, rfl⟩
  rw [hg] at hq hg0 hgl G
  unfold ratV
  obtain ⟨q, hqq⟩ : ∃ q, mkRat a b = q := ⟨_, rfl⟩
  rw [hqq] at hq hle ⊢
  obtain ⟨x, hx⟩ : ∃ x, q.num = x := ⟨_, rfl⟩
  obtain ⟨y, hy⟩ : ∃ y, q.den = y := ⟨_, rfl⟩
  rw [hx, hy] at hq hle ⊢
  obtain ⟨hq1, hq2⟩ := hq
  obtain ⟨m, hmm⟩ : ∃ m, a.natAbs = m := ⟨_, rfl⟩
  rw [hmm] at M G hle ha
  have hna : IntKind.i64.wrap (-a) = -a := IntWalk.i64_in _ (by omega)
  have hw1 : IntKind.i64.wrap x = x := IntWalk.i64_in _ (by omega)
  have hw2 : IntKind.i64.wrap (y : Int) = (y : Int) := IntWalk.i64_in _ (by omega)
  have hgz : ¬ g = 0 := by omega
  have HZ : OwnArr (w.alloc (.cells #[.int .i64 0, .int .i64 0] 48)) w.heap.size 48 [.int .i64 0, .int .i64 0] := OwnArr.made w _ [_, _]
  have HB : Below w.heap.size w (w.alloc (.cells #[.int .i64 0, .int .i64 0] 48)) := (Below.refl _ _).alloc (Nat.le_refl _) _
  have HZ1 := Lib.hid HZ
  have HB1 := Lib.hid HB
  clear HZ HB hm hg hqq hx hy
  go_enter Try.func45, Try.ntmps45
  go_wp2_with fail
  refine (M.out _).mono ?_
  rintro e w1 ⟨rfl, rfl⟩
  go_wp2_with fail
  refine (G.out _).mono ?_
  rintro e w2 ⟨rfl, hb2⟩
  have HZ2 := Lib.hid (HZ1.out.below hb2 HZ1.out.lt)
  have HB2 := Lib.hid (HB1.out.trans (hb2.mono HB1.out.size))
  clear HZ1 HB1 hb2 M G hmm
  obtain ⟨z0, z1, y0, y1⟩ : w2.cell? ⟨w.heap.size, 0, none⟩ = some (.int .i64 0) ∧ w2.cell? ⟨w.heap.size, 1, none⟩ = some (.int .i64 0) ∧ w2.frozen? ⟨w.heap.size, 0, none⟩ = false ∧ w2.frozen? ⟨w.heap.size, 1, none⟩ = false := ⟨HZ2.out.cell 0, HZ2.out.cell 1, HZ2.out.free 0, HZ2.out.free 1⟩
  go_wp2_with fail
  have hgz1 : ¬ (g : Int) = 0 := by omega
  go_region
  all_goals
    go_wp2_with fail
    exact ret_fr Try.results45 rfl ((HZ2.out.set 0 _).set 1 _) rfl ⟨rfl, ((HB2.out.setCell (p := ⟨w.heap.size, 0, none⟩) (Nat.le_refl _) _).setCell (p := ⟨w.heap.size, 1, none⟩) (Nat.le_refl _) _).drew⟩

/-- the sum's numbers, as the program reckons them -/
theorem plus_is (p q : Rat) : mkRat (p.num * ((q.den / Nat.gcd p.den q.den : Nat) : Int) + q.num * ((p.den / Nat.gcd p.den q.den : Nat) : Int)) (p.den / Nat.gcd p.den q.den * q.den) = p + q := by
  have hp := p.den_nz
  have hq := q.den_nz
  obtain ⟨g, hg⟩ : ∃ g, Nat.gcd p.den q.den = g := ⟨_, rfl⟩
  have hg0 : g ≠ 0 := by
    rw [← hg]; exact Nat.gcd_ne_zero_left hp
  obtain ⟨x, hx⟩ : g ∣ p.den := by rw [← hg]; exact Nat.gcd_dvd_left _ _
  obtain ⟨y, hy⟩ : g ∣ q.den := by rw [← hg]; exact Nat.gcd_dvd_right _ _
  have hxd : p.den / g = x := by rw [hx, Nat.mul_div_cancel_left _ (by omega)]
  have hyd : q.den / g = y := by rw [hy, Nat.mul_div_cancel_left _ (by omega)]
  rw [hg, hxd, hyd, Rat.add_def']
  rw [← Rat.mkRat_mul_left (a := g) hg0]
  have e1 : (g : Int) * (p.num * (y : Int) + q.num * (x : Int)) = p.num * (q.den : Int) + q.num * (p.den : Int) := by
    rw [hx, hy]
    push_cast
    rw [Int.mul_add, Int.mul_left_comm, Int.mul_left_comm (g : Int) q.num]
  have e2 : g * (x * q.den) = p.den * q.den := by rw [← Nat.mul_assoc, ← hx]
  rw [e1, e2]

theorem boxed_fr {w : World} {b : Nat} {x y : Value} (h : OwnArr w b 48 [x, y]) : w.cell? ⟨b, 0, none⟩ = some x ∧ w.cell? ⟨b, 1, none⟩ = some y ∧ w.frozen? ⟨b, 0, none⟩ = false ∧ w.frozen? ⟨b, 1, none⟩ = false := ⟨h.cell 0, h.cell 1, h.free 0, h.free 1⟩

set_option maxRecDepth 4000 in
set_option maxHeartbeats 2000000 in
theorem l2Plus_any (p q : Rat) (h1 : p.num.natAbs * q.den ≤ 1152921504606846976) (h2 : q.num.natAbs * p.den ≤ 1152921504606846976) (h3 : p.den * q.den ≤ 4611686018427387904) (w : World) :
    Calls Try.prog 28 #[ratV p, ratV q] w fun e w' => e = .returned (ratV (p + q)) ∧ Below w.heap.size w w' := by
  have hpd : 0 < p.den := Nat.pos_of_ne_zero p.den_nz
  have hqd : 0 < q.den := Nat.pos_of_ne_zero q.den_nz
  have hpl : p.den ≤ p.den * q.den := Nat.le_mul_of_pos_right _ hqd
  have hql : q.den ≤ p.den * q.den := Nat.le_mul_of_pos_left _ hpd
  have hpn : p.num.natAbs ≤ p.num.natAbs * q.den := Nat.le_mul_of_pos_right _ hqd
  have hqn : q.num.natAbs ≤ q.num.natAbs * p.den := Nat.le_mul_of_pos_right _ hpd
  have G := Lib.hid (fun w' => l2Gcd_any p.den q.den (by omega) (by omega) w')
  have hg0 : 0 < Nat.gcd p.den q.den := Nat.gcd_pos_of_pos_left _ hpd
  have hgp : Nat.gcd p.den q.den ∣ p.den := Nat.gcd_dvd_left _ _
  have hgq : Nat.gcd p.den q.den ∣ q.den := Nat.gcd_dvd_right _ _
  have hsum := plus_is p q
  obtain ⟨g, hg⟩ : ∃ g, Nat.gcd p.den q.den = g := ⟨_, rfl⟩
  rw [hg] at G hg0 hgp hgq hsum
  have t1 : (q.den : Int).tdiv (g : Int) = ((q.den / g : Nat) : Int) := (Int.ofNat_tdiv _ _).symm
  have t2 : (p.den : Int).tdiv (g : Int) = ((p.den / g : Nat) : Int) := (Int.ofNat_tdiv _ _).symm
  have l1 : q.den / g ≤ q.den := Nat.div_le_self _ _
  have l2 : p.den / g ≤ p.den := Nat.div_le_self _ _
  have l2' : 0 < p.den / g := Nat.div_pos (Nat.le_of_dvd hpd hgp) hg0
  obtain ⟨y, hy⟩ : ∃ y, q.den / g = y := ⟨_, rfl⟩
  obtain ⟨x, hx⟩ : ∃ x, p.den / g = x := ⟨_, rfl⟩
  rw [hy] at t1 l1 hsum
  rw [hx] at t2 l2 l2' hsum
  have m1 : (p.num * (y : Int)).natAbs ≤ 1152921504606846976 := by
    rw [Int.natAbs_mul]; exact Nat.le_trans (Nat.mul_le_mul_left _ l1) h1
  have m2 : (q.num * (x : Int)).natAbs ≤ 1152921504606846976 := by
    rw [Int.natAbs_mul]; exact Nat.le_trans (Nat.mul_le_mul_left _ l2) h2
  have m3 : x * q.den ≤ 4611686018427387904 := Nat.le_trans (Nat.mul_le_mul_right _ l2) h3
  have m3' : 0 < x * q.den := Nat.mul_pos l2' hqd
  have C := Lib.hid (fun w' => l2Cut_any (p.num * (y : Int) + q.num * (x : Int)) (x * q.den) (by omega) m3' m3 w')
  have C2 := C.out
  rw [hsum] at C2
  push_cast at C2
  replace C := Lib.hid C2
  unfold ratV at C ⊢
  have m4 : ((x : Int) * (q.den : Int)).natAbs ≤ 4611686018427387904 := by rw [Int.natAbs_mul]; exact m3
  obtain ⟨s, hs⟩ : ∃ s, p + q = s := ⟨_, rfl⟩
  rw [hs] at C ⊢
  obtain ⟨a, ha⟩ : ∃ a, p.num = a := ⟨_, rfl⟩
  obtain ⟨b, hb⟩ : ∃ a, p.den = a := ⟨_, rfl⟩
  obtain ⟨c, hc⟩ : ∃ a, q.num = a := ⟨_, rfl⟩
  obtain ⟨d, hd⟩ : ∃ a, q.den = a := ⟨_, rfl⟩
  simp only [ha, hb, hc, hd] at G C t1 t2 m1 m2 m4 l1 l2 hpn hqn hpl hql h1 h2 h3 ⊢
  obtain ⟨v1, hv1⟩ : ∃ v, a * (y : Int) = v := ⟨_, rfl⟩
  obtain ⟨v2, hv2⟩ : ∃ v, c * (x : Int) = v := ⟨_, rfl⟩
  obtain ⟨v3, hv3⟩ : ∃ v, (x : Int) * (d : Int) = v := ⟨_, rfl⟩
  rw [hv1] at m1 C
  rw [hv2] at m2 C
  rw [hv3] at m4 C
  have hd9 : d ≤ 4611686018427387904 := by omega
  have hb9 : b ≤ 4611686018427387904 := by omega
  have w1 : IntKind.i64.wrap (y : Int) = (y : Int) := IntWalk.i64_in _ (by omega)
  have w2 : IntKind.i64.wrap (x : Int) = (x : Int) := IntWalk.i64_in _ (by omega)
  have w3 : IntKind.i64.wrap v1 = v1 := IntWalk.i64_in _ (by omega)
  have w4 : IntKind.i64.wrap v2 = v2 := IntWalk.i64_in _ (by omega)
  have w5 : IntKind.i64.wrap v3 = v3 := IntWalk.i64_in _ (by omega)
  have w6 : IntKind.i64.wrap (v1 + v2) = v1 + v2 := IntWalk.i64_in _ (by omega)
  have hgz : ¬ (g : Int) = 0 := by omega
  have hgz2 : ¬ g = 0 := by omega
  obtain ⟨wb, hwb⟩ : ∃ wb, ((w.alloc (.cells #[.int .i64 a, .int .i64 (b : Int)] 48)).alloc (.cells #[.int .i64 c, .int .i64 (d : Int)] 48)).alloc (.cells #[.int .i64 0, .int .i64 0] 48) = wb := ⟨_, rfl⟩
  have hP : OwnArr wb w.heap.size 48 [.int .i64 a, .int .i64 (b : Int)] := by rw [← hwb]; exact ((OwnArr.made w _ [_, _]).alloc _).alloc _
  have hQ : OwnArr wb (w.heap.size + 1) 48 [.int .i64 c, .int .i64 (d : Int)] := by rw [← hwb]; exact OwnArr.alloc (OwnArr.mk' rfl (by simp)) _
  have hZ : OwnArr wb (w.heap.size + 2) 48 [.int .i64 0, .int .i64 0] := by rw [← hwb]; exact OwnArr.mk' rfl (by simp)
  have hB : Below w.heap.size w wb := by rw [← hwb]; exact (((Below.refl _ _).alloc (Nat.le_refl _) _).alloc (by simp) _).alloc (by simp; omega) _
  have HP := Lib.hid hP
  have HQ := Lib.hid hQ
  have HZ := Lib.hid hZ
  have HB := Lib.hid hB
  have HW := Lib.hid hwb
  clear hP hQ hZ hB hwb hs ha hb hc hd hg hgp hgq hsum hpd hqd h1 h2 h3 hpn hqn hpl hql m3 m3' C2 hx hy l1 l2 l2'
  obtain ⟨p0, p1, -⟩ := boxed_fr HP.out
  obtain ⟨q0, q1, -⟩ := boxed_fr HQ.out
  go_enter Try.func28, Try.ntmps28
  go_upto_region 1 with fail
  rw [HW.out]
  go_wp2_with fail
  refine (G.out _).mono ?_
  rintro e wc ⟨rfl, hbc⟩
  have HP2 := Lib.hid (HP.out.below hbc HP.out.lt)
  have HQ2 := Lib.hid (HQ.out.below hbc HQ.out.lt)
  have HZ2 := Lib.hid (HZ.out.below hbc HZ.out.lt)
  have HB2 := Lib.hid (HB.out.trans (hbc.mono HB.out.size))
  clear HP HQ HZ HB HW hbc G p0 p1 q0 q1
  obtain ⟨p0, p1, -⟩ := boxed_fr HP2.out
  obtain ⟨q0, q1, -⟩ := boxed_fr HQ2.out
  go_wp2_with fail
  go_still_tail 22, (by kernel_rfl)
  change wpList _ _ _ _ _ wc.drew
  go_wp2_with fail
  refine (C.out _).mono ?_
  rintro e wd ⟨rfl, hbd⟩
  have hb3 : Below wc.heap.size wc wd := ((Below.refl _ wc).drew).trans hbd
  have HZ3 := Lib.hid (HZ2.out.below hb3 HZ2.out.lt)
  have HB3 := Lib.hid (HB2.out.trans (hb3.mono HB2.out.size))
  clear HP2 HQ2 HZ2 HB2 hb3 hbd p0 p1 q0 q1 C
  obtain ⟨z0, z1, y0, y1⟩ := boxed_fr HZ3.out
  go_wp2_with fail
  exact ret_fr Try.results28 rfl ((HZ3.out.set 0 _).set 1 _) rfl ⟨rfl, (HB3.out.setCell (p := ⟨w.heap.size + 2, 0, none⟩) (by show _ ≤ w.heap.size + 2; omega) _).setCell (p := ⟨w.heap.size + 2, 1, none⟩) (by show _ ≤ w.heap.size + 2; omega) _⟩
end Go.Proofs.Ytkbpfjhikabbmaa
