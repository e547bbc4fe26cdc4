/- impl.JoinSeats, for all Rows. -/
import Derived.Test.YtidiljnonbkpjaaBeg2
import Derived.Test.YtidiljnonbkpjaaConcat
import Derived.Test.YtidiljnonbkpjaaRowOf
import Derived.Deep.RegionWith
import Derived.Deep.RegionHeld3
namespace Go.Proofs.Ytidiljnonbkpjaa
open Go.RowKit

set_option maxRecDepth 4000 in
set_option maxHeartbeats 1600000 in
theorem joinI_bad (s1 : Int) (r1 : Bool) (p1 : Option Addr) (c1 : Nat) (xs1 : List Int) (s2 : Int) (r2 : Bool) (p2 : Option Addr) (c2 : Nat) (xs2 : List Int) (w : World) (lo1 hi1 lo2 hi2 : Nat) (in1 : Ri lo1 hi1 w p1 xs1) (in2 : Ri lo2 hi2 w p2 xs2) (hl1 : xs1.length ≤ 1048576) (hl2 : xs2.length ≤ 1048576) (h : NoJoin s1 r1 xs1 s2 r2 xs2) :
    Calls Try.prog 12 #[rowV s1 r1 p1 xs1.length c1, rowV s2 r2 p2 xs2.length c2] w (MadeRow w 0 false [] false) := by
  have hE := Beg2.start w s1 r1 p1 xs1.length c1 s2 r2 p2 xs2.length c2
  have R1 := fun (w' : World) (h' : Below w.heap.size w w') => isRow_any s1 r1 p1 c1 xs1 w' lo1 hi1 (in1.below h' in1.top) hl1
  have R2 := fun (w' : World) (h' : Below w.heap.size w w') => isRow_any s2 r2 p2 c2 xs2 w' lo2 hi2 (in2.below h' in2.top) hl2
  have HE := Lib.hid hE
  obtain ⟨m1, hm1⟩ : ∃ m, xs1.length = m := ⟨_, rfl⟩
  obtain ⟨m2, hm2⟩ : ∃ m, xs2.length = m := ⟨_, rfl⟩
  rw [hm1] at R1 HE ⊢
  rw [hm2] at R2 HE ⊢
  clear hE in1 in2 hm1 hm2
  unfold MadeRow
  cases h with
  | a h =>
    rw [h] at R1
    replace R1 := Lib.hid R1
    clear h R2
    go_enter Try.func12, Try.ntmps12
    go_wp2_with fail
    refine (R1.out _ HE.out.bel).mono ?_
    rintro e w1 ⟨rfl, hb1⟩
    have HE1 := Lib.hid (HE.out.next hb1)
    obtain ⟨z0, z1, z2, y0, y1, y2⟩ := HE1.out.res.three
    clear HE hb1 R1
    go_wp2_with fail
    exact ret_row2 Try.results12 rfl rfl (HE1.out.out _ _ _).1 rfl ⟨_, rfl, Out.none _ _, (HE1.out.out _ _ _).2⟩
  | b h h' =>
    rw [h] at R1
    rw [h'] at R2
    replace R1 := Lib.hid R1
    replace R2 := Lib.hid R2
    clear h h'
    go_enter Try.func12, Try.ntmps12
    go_wp2_with fail
    refine (R1.out _ HE.out.bel).mono ?_
    rintro e w1 ⟨rfl, hb1⟩
    have HE1 := Lib.hid (HE.out.next hb1)
    obtain ⟨d0, d1, d2, -⟩ := HE1.out.two.three
    clear HE hb1 R1
    go_wp2_with fail
    refine (R2.out _ HE1.out.bel).mono ?_
    rintro e w2 ⟨rfl, hb2⟩
    have HE2 := Lib.hid (HE1.out.next hb2)
    obtain ⟨z0, z1, z2, y0, y1, y2⟩ := HE2.out.res.three
    clear HE1 hb2 R2 d0 d1 d2
    go_wp2_with fail
    exact ret_row2 Try.results12 rfl rfl (HE2.out.out _ _ _).1 rfl ⟨_, rfl, Out.none _ _, (HE2.out.out _ _ _).2⟩
  | c h h' h1 =>
    subst h1
    rw [h] at R1
    rw [h'] at R2
    replace R1 := Lib.hid R1
    replace R2 := Lib.hid R2
    clear h h'
    go_enter Try.func12, Try.ntmps12
    go_wp2_with fail
    refine (R1.out _ HE.out.bel).mono ?_
    rintro e w1 ⟨rfl, hb1⟩
    have HE1 := Lib.hid (HE.out.next hb1)
    obtain ⟨d0, d1, d2, -⟩ := HE1.out.two.three
    clear HE hb1 R1
    go_wp2_with fail
    refine (R2.out _ HE1.out.bel).mono ?_
    rintro e w2 ⟨rfl, hb2⟩
    have HE2 := Lib.hid (HE1.out.next hb2)
    clear HE1 hb2 R2 d0 d1 d2
    obtain ⟨z0, z1, z2, y0, y1, y2⟩ := HE2.out.res.three
    obtain ⟨d0, d1, d2, -⟩ := HE2.out.one.three
    go_wp2_with fail
    exact ret_row2 Try.results12 rfl rfl (HE2.out.out _ _ _).1 rfl ⟨_, rfl, Out.none _ _, (HE2.out.out _ _ _).2⟩
  | d h h' h1 h2 =>
    subst h1
    subst h2
    rw [h] at R1
    rw [h'] at R2
    replace R1 := Lib.hid R1
    replace R2 := Lib.hid R2
    clear h h'
    go_enter Try.func12, Try.ntmps12
    go_wp2_with fail
    refine (R1.out _ HE.out.bel).mono ?_
    rintro e w1 ⟨rfl, hb1⟩
    have HE1 := Lib.hid (HE.out.next hb1)
    obtain ⟨d0, d1, d2, -⟩ := HE1.out.two.three
    clear HE hb1 R1
    go_wp2_with fail
    refine (R2.out _ HE1.out.bel).mono ?_
    rintro e w2 ⟨rfl, hb2⟩
    have HE2 := Lib.hid (HE1.out.next hb2)
    clear HE1 hb2 R2 d0 d1 d2
    obtain ⟨z0, z1, z2, y0, y1, y2⟩ := HE2.out.res.three
    obtain ⟨d0, d1, d2, -⟩ := HE2.out.one.three
    obtain ⟨e0, e1, e2, -⟩ := HE2.out.two.three
    go_wp2_with fail
    exact ret_row2 Try.results12 rfl rfl (HE2.out.out _ _ _).1 rfl ⟨_, rfl, Out.none _ _, (HE2.out.out _ _ _).2⟩

set_option maxRecDepth 4000 in
set_option maxHeartbeats 4000000 in
theorem joinI_yes (a b : Nat) (p1 : Option Addr) (c1 : Nat) (p2 : Option Addr) (c2 : Nat) (S T : Nat → Bool) (w : World) (lo1 hi1 lo2 hi2 : Nat) (in1 : Ri lo1 hi1 w p1 (ints (tk a S))) (in2 : Ri lo2 hi2 w p2 (ints (tk b T))) (ha : 2 ≤ a) (ha' : a ≤ 24) (hb : 2 ≤ b) (hb' : b ≤ 24)  (hV : decide (a + b ≤ 24) = true) :
    Calls Try.prog 12 #[rowV a false p1 (ints (tk a S)).length c1, rowV b false p2 (ints (tk b T)).length c2] w (MadeRow w ((a + b : Nat) : Int) false (ints (tk (a + b) (joinS a S T))) true) := by
  unfold MadeRow
  have hl1 := ints_tk_len a S
  have hl2 := ints_tk_len b T
  have hE := Beg2.start w a false p1 (ints (tk a S)).length c1 b false p2 (ints (tk b T)).length c2
  have R1 := fun (w' : World) (h' : Below w.heap.size w w') => isRow_any a false p1 c1 (ints (tk a S)) w' lo1 hi1 (in1.below h' in1.top) (by omega)
  have R2 := fun (w' : World) (h' : Below w.heap.size w w') => isRow_any b false p2 c2 (ints (tk b T)) w' lo2 hi2 (in2.below h' in2.top) (by omega)
  rw [rowB_of ha ha' (fun e => absurd e (by simp))] at R1
  rw [rowB_of hb hb' (fun e => absurd e (by simp))] at R2
  have M1 := Lib.hid (fun (w' : World) (h' : Below w.heap.size w w') => marksOf_any a false p1 c1 S w' lo1 hi1 (in1.below h' in1.top) ha')
  have M2 := Lib.hid (fun (w' : World) (h' : Below w.heap.size w w') => marksOf_any b false p2 c2 T w' lo2 hi2 (in2.below h' in2.top) hb')
  have CC := Lib.hid (fun (h g1 g2 hc : Nat) (w' : World) (x0 : w'.cell? ⟨h, 0, none⟩ = some (.slice (some ⟨g1, 0, none⟩) a a)) (x1 : w'.cell? ⟨h, 1, none⟩ = some (.slice (some ⟨g2, 0, none⟩) b b)) (hh : h < w'.heap.size) (l1 h1 l2 h2 : Nat) (ra : Rd l1 h1 w' (some ⟨g1, 0, none⟩) (bv (bl a S))) (rb : Rd l2 h2 w' (some ⟨g2, 0, none⟩) (bv (bl b T))) => concat_any h g1 0 a a g2 0 b b (bl a S) (bl b T) w' l1 h1 l2 h2 hc x0 x1 hh ra rb (bl_length a S) (bl_length b T) (by omega) (by omega))
  have RO := Lib.hid (fun (q : Option Addr) (c : Nat) (w' : World) (l h' : Nat) (h : Rd l h' w' q (bv (bl (a + b) (joinS a S T)))) => rowOf_any (a + b) false q c (joinS a S T) w' l h' h (by omega) (decide (a + b ≤ 24)) (joinB ha))
  have HA : Hid (bl a S ++ bl b T = bl (a + b) (joinS a S T)) := by show _ = _; exact bl_append
  obtain ⟨F, hF⟩ : ∃ F, joinS a S T = F := ⟨_, rfl⟩
  rw [hF] at RO HA ⊢
  replace RO := RO.out
  rw [hV] at RO
  simp only [if_true, true_implies] at RO
  replace RO := Lib.hid RO
  have HBL := Lib.hid (bl_length a S)
  have HBT := Lib.hid (bl_length b T)
  obtain ⟨LA, hLA⟩ : ∃ L, bl a S = L := ⟨_, rfl⟩
  obtain ⟨LB, hLB⟩ : ∃ L, bl b T = L := ⟨_, rfl⟩
  rw [hLA] at M1 CC HA HBL
  rw [hLB] at M2 CC HA HBT
  replace R1 := Lib.hid R1
  replace R2 := Lib.hid R2
  have HE := Lib.hid hE
  clear hE in1 in2 hF hV hLA hLB
  obtain ⟨m1, hm1⟩ : ∃ m, (ints (tk a S)).length = m := ⟨_, rfl⟩
  obtain ⟨m2, hm2⟩ : ∃ m, (ints (tk b T)).length = m := ⟨_, rfl⟩
  rw [hm1] at HE R1 M1 hl1 ⊢
  rw [hm2] at HE R2 M2 hl2 ⊢
  clear hm1 hm2
  go_enter Try.func12, Try.ntmps12
  go_wp2_with fail
  refine (R1.out _ HE.out.bel).mono ?_
  rintro e w1 ⟨rfl, hb1⟩
  have HE1 := Lib.hid (HE.out.next hb1)
  obtain ⟨d0, d1, d2, -⟩ := HE1.out.two.three
  clear HE hb1 R1
  go_wp2_with fail
  refine (R2.out _ HE1.out.bel).mono ?_
  rintro e w2 ⟨rfl, hb2⟩
  have HE2 := Lib.hid (HE1.out.next hb2)
  clear HE1 hb2 R2 d0 d1 d2
  obtain ⟨d0, d1, d2, -⟩ := HE2.out.one.three
  obtain ⟨e0, e1, e2, -⟩ := HE2.out.two.three
  go_upto_region 3 with fail
  have hne : Hid (w.heap.size ≠ w.heap.size + 1 + 1) := by show _ ≠ _; omega
  have hne2 : Hid (w.heap.size + 1 ≠ w.heap.size + 1 + 1) := by show _ ≠ _; omega
  have HD := Lib.hid HE2.out.drew
  clear d0 d1 d2 e0 e1 e2
  obtain ⟨d0, d1, d2, -⟩ := HD.out.one.three
  obtain ⟨e0, e1, e2, -⟩ := HD.out.two.three
  go_region_held3 (fun w' => w'.cell? ⟨w.heap.size, 0, none⟩ = some (.int .i64 a) ∧ w'.cell? ⟨w.heap.size, 1, none⟩ = some (.bool false) ∧ w'.cell? ⟨w.heap.size, 2, none⟩ = some (.slice p1 m1 c1) ∧ w'.cell? ⟨w.heap.size + 1, 0, none⟩ = some (.int .i64 b) ∧ w'.cell? ⟨w.heap.size + 1, 1, none⟩ = some (.bool false) ∧ w'.cell? ⟨w.heap.size + 1, 2, none⟩ = some (.slice p2 m2 c2)) ((first | with_reducible exact ⟨d0, d1, d2, e0, e1, e2⟩ | with_reducible exact ⟨f0, f1, f2, g0, g1, g2⟩ | with_reducible exact ⟨h0, h1, h2, i0, i1, i2⟩ | with_reducible exact ⟨j0, j1, j2, k0, k1, k2⟩ | with_reducible exact ⟨l0, l1, l2, n0, n1, n2⟩ | with_reducible exact ⟨o0, o1, o2, q0, q1, q2⟩ | with_reducible exact ⟨cell_set3J o0 hne.out, cell_set3J o1 hne.out, cell_set3J o2 hne.out, cell_set3J q0 hne2.out, cell_set3J q1 hne2.out, cell_set3J q2 hne2.out⟩ | go_keep)) (first
    | (go_at_call 43; refine (M1.out _ HD.out.bel).mono ?_; rintro e w3 ⟨g3, rfl, hg3, hO3, hb3⟩; have HE3 := Lib.hid (HD.out.next hb3); have HO3 := Lib.hid hO3; clear hO3 hb3 HD M1; obtain ⟨f0, f1, f2, -⟩ := HE3.out.one.three; obtain ⟨g0, g1, g2, -⟩ := HE3.out.two.three)
    | (go_at_call 43; refine (M2.out _ HE3.out.bel).mono ?_; rintro e w4 ⟨g4, rfl, hg4, hO4, hb4⟩; have HEm := Lib.hid (HE3.out.next hb4); have HE4 := Lib.hid (HEm.out.next ((Below.refl _ w4).alloc (Nat.le_refl _) (.cells #[.slice (some ⟨g3, 0, none⟩) a a, .slice (some ⟨g4, 0, none⟩) b b] 58))); have HO3' := Lib.hid ((HO3.out.below hb4 HO3.out.lt).alloc (.cells #[.slice (some ⟨g3, 0, none⟩) a a, .slice (some ⟨g4, 0, none⟩) b b] 58)); have HO4 := Lib.hid (hO4.alloc (.cells #[.slice (some ⟨g3, 0, none⟩) a a, .slice (some ⟨g4, 0, none⟩) b b] 58)); have HP := Lib.hid (OwnArr.made w4 58 [.slice (some ⟨g3, 0, none⟩) a a, .slice (some ⟨g4, 0, none⟩) b b]); clear hO4 hb4 M2; obtain ⟨h0, h1, h2, -⟩ := HEm.out.one.three; obtain ⟨i0, i1, i2, -⟩ := HEm.out.two.three; obtain ⟨j0, j1, j2, -⟩ := HE4.out.one.three; obtain ⟨k0, k1, k2, -⟩ := HE4.out.two.three)
    | (go_at_call 42; refine (CC.out _ _ _ _ _ (HP.out.cell 0) (HP.out.cell 1) HP.out.lt _ _ _ _ (by have := Rd.of_own HO3'.out (Nat.zero_le _) (Nat.lt_succ_self _) HO3'.out.lt a; rwa [List.take_of_length_le (by rw [bv_length, HBL.out]; exact Nat.le_refl _)] at this) (by have := Rd.of_own HO4.out (Nat.zero_le _) (Nat.lt_succ_self _) HO4.out.lt b; rwa [List.take_of_length_le (by rw [bv_length, HBT.out]; exact Nat.le_refl _)] at this)).mono ?_; rintro e w5 ⟨g5, c5, rfl, hO5, hb5⟩; have HE5 := Lib.hid (HE4.out.next hb5); rw [HA.out] at hO5; have HO5 := Lib.hid hO5; clear hO5 hb5; obtain ⟨l0, l1, l2, -⟩ := HE5.out.one.three; obtain ⟨n0, n1, n2, -⟩ := HE5.out.two.three)
    | (go_at_call 41; refine (RO.out _ _ _ _ _ (by obtain ⟨q, c, e, -, -, hR, -⟩ := rd_ownsRow HO5.out; simp only [Value.slice.injEq] at e; obtain ⟨rfl, -⟩ := e; exact hR)).mono ?_; rintro e w6 ⟨v6, rfl, hO6, hb6⟩; obtain ⟨q6, k6, rfl, -⟩ := hO6.rd; have HO6 := Lib.hid (hO6.mono HE5.out.bel.size); clear hO6; have HE6 := Lib.hid (HE5.out.next hb6); clear hb6; obtain ⟨z0, z1, z2, y0, y1, y2⟩ := HE6.out.res.three; obtain ⟨o0, o1, o2, -⟩ := HE6.out.one.three; obtain ⟨q0, q1, q2, -⟩ := HE6.out.two.three))
  all_goals
    go_wp2_with fail
    exact ret_row2 Try.results12 rfl rfl (HE6.out.out _ _ _).1 rfl ⟨_, rfl, HO6.out.boxed HE6.out.res _ _ _, (HE6.out.out _ _ _).2⟩

set_option maxRecDepth 4000 in
set_option maxHeartbeats 4000000 in
theorem joinI_no (a b : Nat) (p1 : Option Addr) (c1 : Nat) (p2 : Option Addr) (c2 : Nat) (S T : Nat → Bool) (w : World) (lo1 hi1 lo2 hi2 : Nat) (in1 : Ri lo1 hi1 w p1 (ints (tk a S))) (in2 : Ri lo2 hi2 w p2 (ints (tk b T))) (ha : 2 ≤ a) (ha' : a ≤ 24) (hb : 2 ≤ b) (hb' : b ≤ 24)  (hV : decide (a + b ≤ 24) = false) :
    Calls Try.prog 12 #[rowV a false p1 (ints (tk a S)).length c1, rowV b false p2 (ints (tk b T)).length c2] w (MadeRow w 0 false [] false) := by
  unfold MadeRow
  have hl1 := ints_tk_len a S
  have hl2 := ints_tk_len b T
  have hE := Beg2.start w a false p1 (ints (tk a S)).length c1 b false p2 (ints (tk b T)).length c2
  have R1 := fun (w' : World) (h' : Below w.heap.size w w') => isRow_any a false p1 c1 (ints (tk a S)) w' lo1 hi1 (in1.below h' in1.top) (by omega)
  have R2 := fun (w' : World) (h' : Below w.heap.size w w') => isRow_any b false p2 c2 (ints (tk b T)) w' lo2 hi2 (in2.below h' in2.top) (by omega)
  rw [rowB_of ha ha' (fun e => absurd e (by simp))] at R1
  rw [rowB_of hb hb' (fun e => absurd e (by simp))] at R2
  have M1 := Lib.hid (fun (w' : World) (h' : Below w.heap.size w w') => marksOf_any a false p1 c1 S w' lo1 hi1 (in1.below h' in1.top) ha')
  have M2 := Lib.hid (fun (w' : World) (h' : Below w.heap.size w w') => marksOf_any b false p2 c2 T w' lo2 hi2 (in2.below h' in2.top) hb')
  have CC := Lib.hid (fun (h g1 g2 hc : Nat) (w' : World) (x0 : w'.cell? ⟨h, 0, none⟩ = some (.slice (some ⟨g1, 0, none⟩) a a)) (x1 : w'.cell? ⟨h, 1, none⟩ = some (.slice (some ⟨g2, 0, none⟩) b b)) (hh : h < w'.heap.size) (l1 h1 l2 h2 : Nat) (ra : Rd l1 h1 w' (some ⟨g1, 0, none⟩) (bv (bl a S))) (rb : Rd l2 h2 w' (some ⟨g2, 0, none⟩) (bv (bl b T))) => concat_any h g1 0 a a g2 0 b b (bl a S) (bl b T) w' l1 h1 l2 h2 hc x0 x1 hh ra rb (bl_length a S) (bl_length b T) (by omega) (by omega))
  have RO := Lib.hid (fun (q : Option Addr) (c : Nat) (w' : World) (l h' : Nat) (h : Rd l h' w' q (bv (bl (a + b) (joinS a S T)))) => rowOf_any (a + b) false q c (joinS a S T) w' l h' h (by omega) (decide (a + b ≤ 24)) (joinB ha))
  have HA : Hid (bl a S ++ bl b T = bl (a + b) (joinS a S T)) := by show _ = _; exact bl_append
  obtain ⟨F, hF⟩ : ∃ F, joinS a S T = F := ⟨_, rfl⟩
  rw [hF] at RO HA
  replace RO := RO.out
  rw [hV] at RO
  simp only [Bool.false_eq_true, if_false, false_implies, true_and] at RO
  replace RO := Lib.hid RO
  have HBL := Lib.hid (bl_length a S)
  have HBT := Lib.hid (bl_length b T)
  obtain ⟨LA, hLA⟩ : ∃ L, bl a S = L := ⟨_, rfl⟩
  obtain ⟨LB, hLB⟩ : ∃ L, bl b T = L := ⟨_, rfl⟩
  rw [hLA] at M1 CC HA HBL
  rw [hLB] at M2 CC HA HBT
  replace R1 := Lib.hid R1
  replace R2 := Lib.hid R2
  have HE := Lib.hid hE
  clear hE in1 in2 hF hV hLA hLB
  obtain ⟨m1, hm1⟩ : ∃ m, (ints (tk a S)).length = m := ⟨_, rfl⟩
  obtain ⟨m2, hm2⟩ : ∃ m, (ints (tk b T)).length = m := ⟨_, rfl⟩
  rw [hm1] at HE R1 M1 hl1 ⊢
  rw [hm2] at HE R2 M2 hl2 ⊢
  clear hm1 hm2
  go_enter Try.func12, Try.ntmps12
  go_wp2_with fail
  refine (R1.out _ HE.out.bel).mono ?_
  rintro e w1 ⟨rfl, hb1⟩
  have HE1 := Lib.hid (HE.out.next hb1)
  obtain ⟨d0, d1, d2, -⟩ := HE1.out.two.three
  clear HE hb1 R1
  go_wp2_with fail
  refine (R2.out _ HE1.out.bel).mono ?_
  rintro e w2 ⟨rfl, hb2⟩
  have HE2 := Lib.hid (HE1.out.next hb2)
  clear HE1 hb2 R2 d0 d1 d2
  obtain ⟨d0, d1, d2, -⟩ := HE2.out.one.three
  obtain ⟨e0, e1, e2, -⟩ := HE2.out.two.three
  go_upto_region 3 with fail
  have hne : Hid (w.heap.size ≠ w.heap.size + 1 + 1) := by show _ ≠ _; omega
  have hne2 : Hid (w.heap.size + 1 ≠ w.heap.size + 1 + 1) := by show _ ≠ _; omega
  have HD := Lib.hid HE2.out.drew
  clear d0 d1 d2 e0 e1 e2
  obtain ⟨d0, d1, d2, -⟩ := HD.out.one.three
  obtain ⟨e0, e1, e2, -⟩ := HD.out.two.three
  go_region_held3 (fun w' => w'.cell? ⟨w.heap.size, 0, none⟩ = some (.int .i64 a) ∧ w'.cell? ⟨w.heap.size, 1, none⟩ = some (.bool false) ∧ w'.cell? ⟨w.heap.size, 2, none⟩ = some (.slice p1 m1 c1) ∧ w'.cell? ⟨w.heap.size + 1, 0, none⟩ = some (.int .i64 b) ∧ w'.cell? ⟨w.heap.size + 1, 1, none⟩ = some (.bool false) ∧ w'.cell? ⟨w.heap.size + 1, 2, none⟩ = some (.slice p2 m2 c2)) ((first | with_reducible exact ⟨d0, d1, d2, e0, e1, e2⟩ | with_reducible exact ⟨f0, f1, f2, g0, g1, g2⟩ | with_reducible exact ⟨h0, h1, h2, i0, i1, i2⟩ | with_reducible exact ⟨j0, j1, j2, k0, k1, k2⟩ | with_reducible exact ⟨l0, l1, l2, n0, n1, n2⟩ | with_reducible exact ⟨o0, o1, o2, q0, q1, q2⟩ | with_reducible exact ⟨cell_set3J o0 hne.out, cell_set3J o1 hne.out, cell_set3J o2 hne.out, cell_set3J q0 hne2.out, cell_set3J q1 hne2.out, cell_set3J q2 hne2.out⟩ | go_keep)) (first
    | (go_at_call 43; refine (M1.out _ HD.out.bel).mono ?_; rintro e w3 ⟨g3, rfl, hg3, hO3, hb3⟩; have HE3 := Lib.hid (HD.out.next hb3); have HO3 := Lib.hid hO3; clear hO3 hb3 HD M1; obtain ⟨f0, f1, f2, -⟩ := HE3.out.one.three; obtain ⟨g0, g1, g2, -⟩ := HE3.out.two.three)
    | (go_at_call 43; refine (M2.out _ HE3.out.bel).mono ?_; rintro e w4 ⟨g4, rfl, hg4, hO4, hb4⟩; have HEm := Lib.hid (HE3.out.next hb4); have HE4 := Lib.hid (HEm.out.next ((Below.refl _ w4).alloc (Nat.le_refl _) (.cells #[.slice (some ⟨g3, 0, none⟩) a a, .slice (some ⟨g4, 0, none⟩) b b] 58))); have HO3' := Lib.hid ((HO3.out.below hb4 HO3.out.lt).alloc (.cells #[.slice (some ⟨g3, 0, none⟩) a a, .slice (some ⟨g4, 0, none⟩) b b] 58)); have HO4 := Lib.hid (hO4.alloc (.cells #[.slice (some ⟨g3, 0, none⟩) a a, .slice (some ⟨g4, 0, none⟩) b b] 58)); have HP := Lib.hid (OwnArr.made w4 58 [.slice (some ⟨g3, 0, none⟩) a a, .slice (some ⟨g4, 0, none⟩) b b]); clear hO4 hb4 M2; obtain ⟨h0, h1, h2, -⟩ := HEm.out.one.three; obtain ⟨i0, i1, i2, -⟩ := HEm.out.two.three; obtain ⟨j0, j1, j2, -⟩ := HE4.out.one.three; obtain ⟨k0, k1, k2, -⟩ := HE4.out.two.three)
    | (go_at_call 42; refine (CC.out _ _ _ _ _ (HP.out.cell 0) (HP.out.cell 1) HP.out.lt _ _ _ _ (by have := Rd.of_own HO3'.out (Nat.zero_le _) (Nat.lt_succ_self _) HO3'.out.lt a; rwa [List.take_of_length_le (by rw [bv_length, HBL.out]; exact Nat.le_refl _)] at this) (by have := Rd.of_own HO4.out (Nat.zero_le _) (Nat.lt_succ_self _) HO4.out.lt b; rwa [List.take_of_length_le (by rw [bv_length, HBT.out]; exact Nat.le_refl _)] at this)).mono ?_; rintro e w5 ⟨g5, c5, rfl, hO5, hb5⟩; have HE5 := Lib.hid (HE4.out.next hb5); rw [HA.out] at hO5; have HO5 := Lib.hid hO5; clear hO5 hb5; obtain ⟨l0, l1, l2, -⟩ := HE5.out.one.three; obtain ⟨n0, n1, n2, -⟩ := HE5.out.two.three)
    | (go_at_call 41; refine (RO.out _ _ _ _ _ (by obtain ⟨q, c, e, -, -, hR, -⟩ := rd_ownsRow HO5.out; simp only [Value.slice.injEq] at e; obtain ⟨rfl, -⟩ := e; exact hR)).mono ?_; rintro e w6 ⟨v6, rfl, hb6⟩; have HE6 := Lib.hid (HE5.out.next hb6); clear hb6; obtain ⟨z0, z1, z2, y0, y1, y2⟩ := HE6.out.res.three; obtain ⟨o0, o1, o2, -⟩ := HE6.out.one.three; obtain ⟨q0, q1, q2, -⟩ := HE6.out.two.three))
  all_goals
    go_wp2_with fail
    exact ret_row2 Try.results12 rfl rfl (HE6.out.out _ _ _).1 rfl ⟨_, rfl, Out.none _ _, (HE6.out.out _ _ _).2⟩

end Go.Proofs.Ytidiljnonbkpjaa
