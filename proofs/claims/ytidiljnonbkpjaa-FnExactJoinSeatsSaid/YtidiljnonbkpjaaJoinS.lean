/- spec.JoinSeats, for all Rows. -/
import Derived.Test.YtidiljnonbkpjaaBeg2
import Derived.Test.YtidiljnonbkpjaaOwnL
import Derived.Test.YtidiljnonbkpjaaKept
import Derived.Deep.RegionWith
import Derived.Deep.RegionHeld3
import Derived.Deep.DeepCutAuto
namespace Go.Proofs.Ytidiljnonbkpjaa
open Go.RowKit

theorem fin_boxJ {wb x : World} {B g : Nat} {v : Value} {xs : List Int} {ys : List Value} {y0 y1 y2 : Value} (a b c : Value) (hz : OwnArr x g 26 ys) (hys : ys = [y0, y1, y2]) (hg : B ≤ g) (ho : Out B x v xs) (hb : Below B wb x) :
    OwnArr (((x.setCell ⟨g, 0, none⟩ a).setCell ⟨g, 1, none⟩ b).setCell ⟨g, 2, none⟩ c) g 26 [a, b, c] ∧ Out B (((x.setCell ⟨g, 0, none⟩ a).setCell ⟨g, 1, none⟩ b).setCell ⟨g, 2, none⟩ c) v xs ∧ Below B wb (((x.setCell ⟨g, 0, none⟩ a).setCell ⟨g, 1, none⟩ b).setCell ⟨g, 2, none⟩ c) := by
  subst hys
  exact ⟨((hz.set 0 a).set 1 b).set 2 c, ho.boxed hz _ _ _, ((hb.setCell (by show _ ≤ g; omega) _).setCell (by show _ ≤ g; omega) _).setCell (by show _ ≤ g; omega) _⟩

/-- a longer list stored back into a Row's box -/
theorem fin2J {wr x : World} {B g k : Nat} {q : Addr} {c : Nat} {v0 v1 v2 : Value} {xs : List Int} (hz : OwnArr x g 26 [v0, v1, v2]) (hb : Below B wr x) (ho : Out B x (.slice (some q) k c) xs) (hg : B ≤ g) :
    OwnArr (x.setCell ⟨g, 2, none⟩ (.slice (some q) k c)) g 26 [v0, v1, .slice (some q) k c] ∧ Out B (x.setCell ⟨g, 2, none⟩ (.slice (some q) k c)) (.slice (some q) k c) xs ∧ Below B wr (x.setCell ⟨g, 2, none⟩ (.slice (some q) k c)) :=
  ⟨hz.set 2 _, ho.other (a := ⟨g, 2, none⟩) (own_ne ho hz) _, hb.setCell (p := ⟨g, 2, none⟩) hg _⟩

set_option maxRecDepth 4000 in
set_option maxHeartbeats 1600000 in
theorem joinS_bad (s1 : Int) (r1 : Bool) (p1 : Option Addr) (c1 : Nat) (xs1 : List Int) (s2 : Int) (r2 : Bool) (p2 : Option Addr) (c2 : Nat) (xs2 : List Int) (w : World) (lo1 hi1 lo2 hi2 : Nat) (in1 : Ri lo1 hi1 w p1 xs1) (in2 : Ri lo2 hi2 w p2 xs2) (hl1 : xs1.length ≤ 1048576) (hl2 : xs2.length ≤ 1048576) (h : NoJoin s1 r1 xs1 s2 r2 xs2) :
    Calls Try.prog 10 #[rowV s1 r1 p1 xs1.length c1, rowV s2 r2 p2 xs2.length c2] w (MadeRow w 0 false [] false) := by
  have hE := Beg2.start w s1 r1 p1 xs1.length c1 s2 r2 p2 xs2.length c2
  have R1 := fun (w' : World) (h' : Below w.heap.size w w') => l2Row_any s1 r1 p1 c1 xs1 w' lo1 hi1 (in1.below h' in1.top) hl1
  have R2 := fun (w' : World) (h' : Below w.heap.size w w') => l2Row_any s2 r2 p2 c2 xs2 w' lo2 hi2 (in2.below h' in2.top) hl2
  have HE := Lib.hid hE
  obtain ⟨m1, hm1⟩ : ∃ m, xs1.length = m := ⟨_, rfl⟩
  obtain ⟨m2, hm2⟩ : ∃ m, xs2.length = m := ⟨_, rfl⟩
  rw [hm1] at R1 HE ⊢
  rw [hm2] at R2 HE ⊢
  clear hE in1 in2 hm1 hm2
  unfold MadeRow
  cases h with
  | a h =>
    rw [h] at R1
    replace R1 := Lib.hid R1
    clear h R2
    go_enter Try.func10, Try.ntmps10
    go_wp2_with fail
    refine (R1.out _ HE.out.bel).mono ?_
    rintro e w1 ⟨rfl, hb1⟩
    have HE1 := Lib.hid (HE.out.next hb1)
    obtain ⟨z0, z1, z2, y0, y1, y2⟩ := HE1.out.res.three
    clear HE hb1 R1
    go_wp2_with fail
    exact ret_row2 Try.results10 rfl rfl (HE1.out.out _ _ _).1 rfl ⟨_, rfl, Out.none _ _, (HE1.out.out _ _ _).2⟩
  | b h h' =>
    rw [h] at R1
    rw [h'] at R2
    replace R1 := Lib.hid R1
    replace R2 := Lib.hid R2
    clear h h'
    go_enter Try.func10, Try.ntmps10
    go_wp2_with fail
    refine (R1.out _ HE.out.bel).mono ?_
    rintro e w1 ⟨rfl, hb1⟩
    have HE1 := Lib.hid (HE.out.next hb1)
    obtain ⟨d0, d1, d2, -⟩ := HE1.out.two.three
    clear HE hb1 R1
    go_wp2_with fail
    refine (R2.out _ HE1.out.bel).mono ?_
    rintro e w2 ⟨rfl, hb2⟩
    have HE2 := Lib.hid (HE1.out.next hb2)
    obtain ⟨z0, z1, z2, y0, y1, y2⟩ := HE2.out.res.three
    clear HE1 hb2 R2 d0 d1 d2
    go_wp2_with fail
    exact ret_row2 Try.results10 rfl rfl (HE2.out.out _ _ _).1 rfl ⟨_, rfl, Out.none _ _, (HE2.out.out _ _ _).2⟩
  | c h h' h1 =>
    subst h1
    rw [h] at R1
    rw [h'] at R2
    replace R1 := Lib.hid R1
    replace R2 := Lib.hid R2
    clear h h'
    go_enter Try.func10, Try.ntmps10
    go_wp2_with fail
    refine (R1.out _ HE.out.bel).mono ?_
    rintro e w1 ⟨rfl, hb1⟩
    have HE1 := Lib.hid (HE.out.next hb1)
    obtain ⟨d0, d1, d2, -⟩ := HE1.out.two.three
    clear HE hb1 R1
    go_wp2_with fail
    refine (R2.out _ HE1.out.bel).mono ?_
    rintro e w2 ⟨rfl, hb2⟩
    have HE2 := Lib.hid (HE1.out.next hb2)
    clear HE1 hb2 R2 d0 d1 d2
    obtain ⟨z0, z1, z2, y0, y1, y2⟩ := HE2.out.res.three
    obtain ⟨d0, d1, d2, -⟩ := HE2.out.one.three
    go_wp2_with fail
    exact ret_row2 Try.results10 rfl rfl (HE2.out.out _ _ _).1 rfl ⟨_, rfl, Out.none _ _, (HE2.out.out _ _ _).2⟩
  | d h h' h1 h2 =>
    subst h1
    subst h2
    rw [h] at R1
    rw [h'] at R2
    replace R1 := Lib.hid R1
    replace R2 := Lib.hid R2
    clear h h'
    go_enter Try.func10, Try.ntmps10
    go_wp2_with fail
    refine (R1.out _ HE.out.bel).mono ?_
    rintro e w1 ⟨rfl, hb1⟩
    have HE1 := Lib.hid (HE.out.next hb1)
    obtain ⟨d0, d1, d2, -⟩ := HE1.out.two.three
    clear HE hb1 R1
    go_wp2_with fail
    refine (R2.out _ HE1.out.bel).mono ?_
    rintro e w2 ⟨rfl, hb2⟩
    have HE2 := Lib.hid (HE1.out.next hb2)
    clear HE1 hb2 R2 d0 d1 d2
    obtain ⟨z0, z1, z2, y0, y1, y2⟩ := HE2.out.res.three
    obtain ⟨d0, d1, d2, -⟩ := HE2.out.one.three
    obtain ⟨e0, e1, e2, -⟩ := HE2.out.two.three
    go_wp2_with fail
    exact ret_row2 Try.results10 rfl rfl (HE2.out.out _ _ _).1 rfl ⟨_, rfl, Out.none _ _, (HE2.out.out _ _ _).2⟩

set_option maxRecDepth 4000 in
set_option maxHeartbeats 4000000 in
theorem joinS_yes (a b : Nat) (p1 : Option Addr) (c1 : Nat) (p2 : Option Addr) (c2 : Nat) (S T : Nat → Bool) (w : World) (lo1 hi1 lo2 hi2 : Nat) (in1 : Ri lo1 hi1 w p1 (ints (tk a S))) (in2 : Ri lo2 hi2 w p2 (ints (tk b T))) (ha : 2 ≤ a) (ha' : a ≤ 24) (hb : 2 ≤ b) (hb' : b ≤ 24) (hV : decide (a + b ≤ 24) = true) :
    Calls Try.prog 10 #[rowV a false p1 (ints (tk a S)).length c1, rowV b false p2 (ints (tk b T)).length c2] w (MadeRow w ((a + b : Nat) : Int) false (ints (tk (a + b) (joinS a S T))) true) := by
  unfold MadeRow
  have hl1 := ints_tk_len a S
  have hl2 := ints_tk_len b T
  have hE := Beg2.start w a false p1 (ints (tk a S)).length c1 b false p2 (ints (tk b T)).length c2
  have R1 := fun (w' : World) (h' : Below w.heap.size w w') => l2Row_any a false p1 c1 (ints (tk a S)) w' lo1 hi1 (in1.below h' in1.top) (by omega)
  have R2 := fun (w' : World) (h' : Below w.heap.size w w') => l2Row_any b false p2 c2 (ints (tk b T)) w' lo2 hi2 (in2.below h' in2.top) (by omega)
  rw [rowB_of ha ha' (fun e => absurd e (by simp))] at R1
  rw [rowB_of hb hb' (fun e => absurd e (by simp))] at R2
  have OW := Lib.hid (fun (w' : World) (h' : Below w.heap.size w w') => l1Own_any p1 c1 (ints (tk a S)) w' lo1 hi1 (in1.below h' in1.top) (by omega))
  have HJ0 := Lib.hid (join_spec (a := a) (b := b) (S := S) (T := T))
  have HRB : Hid (rowB ((a : Int) + (b : Int)) false (ints (tk (a + b) (joinS a S T))) = true) := by
    show _ = _
    rw [show (a : Int) + (b : Int) = ((a + b : Nat) : Int) by omega, joinB ha, hV]
  have HI := Lib.hid in2
  have HL : Hid (∀ x ∈ tk b T, x < b) := by show ∀ _, _; exact fun x hx => (mem_tk.1 hx).1
  have HLN := Lib.hid (ints_tk_len (a + b) (joinS a S T))
  obtain ⟨L, hL⟩ : ∃ L, ints (tk (a + b) (joinS a S T)) = L := ⟨_, rfl⟩
  have HJ : Hid (ints (tk a S) ++ (ints (tk b T)).map (fun x => (a : Int) + x) = L) := by
    show _ = _
    rw [HJ0.out, ← hL]; rfl
  rw [hL] at HRB HLN ⊢
  replace R1 := Lib.hid R1
  replace R2 := Lib.hid R2
  have HE := Lib.hid hE
  clear hE in1 hV HJ0 hL
  obtain ⟨L1, hL1⟩ : ∃ L1, ints (tk a S) = L1 := ⟨_, rfl⟩
  rw [hL1] at HE R1 OW HJ hl1 ⊢
  obtain ⟨l, hl⟩ : ∃ l, tk b T = l := ⟨_, rfl⟩
  rw [hl] at HE R2 HJ HI HL hl2 in2 ⊢
  obtain ⟨m1, hm1⟩ : ∃ m, L1.length = m := ⟨_, rfl⟩
  rw [hm1] at HE R1 OW hl1 ⊢
  obtain ⟨m2, hm2⟩ : ∃ m, (ints l).length = m := ⟨_, rfl⟩
  rw [hm2] at HE R2 hl2 ⊢
  have HM1 := Lib.hid hm1
  have HM2 := Lib.hid hm2
  have e1 : IntKind.i64.wrap ((a : Int) + (b : Int)) = (a : Int) + (b : Int) := IntWalk.i64_in _ (by omega)
  clear hL1 hl hm1 hm2 in2
  go_enter Try.func10, Try.ntmps10
  go_wp2_with fail
  refine (R1.out _ HE.out.bel).mono ?_
  rintro e w1 ⟨rfl, hb1⟩
  have HE1 := Lib.hid (HE.out.next hb1)
  obtain ⟨d0, d1, d2, -⟩ := HE1.out.two.three
  clear HE hb1 R1
  go_wp2_with fail
  refine (R2.out _ HE1.out.bel).mono ?_
  rintro e wb ⟨rfl, hb2⟩
  have HE2 := Lib.hid (HE1.out.next hb2)
  clear HE1 hb2 R2 d0 d1 d2
  obtain ⟨d0, d1, d2, -⟩ := HE2.out.one.three
  obtain ⟨e0, e1', e2, -⟩ := HE2.out.two.three
  have HEd := Lib.hid (HE2.out.drew)
  have hwb : w.heap.size + 3 ≤ wb.heap.size := by have := HE2.out.res.lt; omega
  have HD0 := Lib.hid ((Below.refl (w.heap.size + 3) wb).drew)
  have HSB := Lib.hid hwb
  clear hwb
  go_upto_region 3 with fail
  go_cut [6] (fun v wx => ∃ g q c, v = .pointer (some ⟨g, 0, none⟩) ∧ Hid (w.heap.size + 3 ≤ g) ∧ Hid (OwnArr wx g 26 [.int .i64 ((a : Int) + (b : Int)), .bool false, .slice (some q) m1 c]) ∧ Hid (Out (w.heap.size + 3) wx (.slice (some q) m1 c) L1) ∧ Hid (Below (w.heap.size + 3) wb wx))
  case first =>
    go_region_held3 (fun w' => w'.cell? ⟨w.heap.size, 0, none⟩ = some (.int .i64 a) ∧ w'.cell? ⟨w.heap.size, 1, none⟩ = some (.bool false) ∧ w'.cell? ⟨w.heap.size, 2, none⟩ = some (.slice p1 m1 c1) ∧ w'.cell? ⟨w.heap.size + 1, 0, none⟩ = some (.int .i64 b) ∧ w'.cell? ⟨w.heap.size + 1, 1, none⟩ = some (.bool false) ∧ w'.cell? ⟨w.heap.size + 1, 2, none⟩ = some (.slice p2 m2 c2)) ((first | with_reducible exact ⟨d0, d1, d2, e0, e1', e2⟩ | with_reducible exact ⟨f0, f1, f2, g0, g1, g2⟩ | (obtain ⟨s0, s1, s2, s3, s4, s5⟩ := (by assumption : _ ∧ _ ∧ _ ∧ _ ∧ _ ∧ _); with_reducible exact ⟨cell_allocJ s0, cell_allocJ s1, cell_allocJ s2, cell_allocJ s3, cell_allocJ s4, cell_allocJ s5⟩) | (obtain ⟨s0, s1, s2, s3, s4, s5⟩ := (by assumption : _ ∧ _ ∧ _ ∧ _ ∧ _ ∧ _); have hne := HNE1.out; have hne' := HNE2.out; with_reducible exact ⟨cell_set3J s0 hne, cell_set3J s1 hne, cell_set3J s2 hne, cell_set3J s3 hne', cell_set3J s4 hne', cell_set3J s5 hne'⟩) | (obtain ⟨s0, s1, s2, s3, s4, s5⟩ := (by assumption : _ ∧ _ ∧ _ ∧ _ ∧ _ ∧ _); have hne := HNE3.out; have hne' := HNE4.out; with_reducible exact ⟨cell_set3J s0 hne, cell_set3J s1 hne, cell_set3J s2 hne, cell_set3J s3 hne', cell_set3J s4 hne', cell_set3J s5 hne'⟩) | go_keep)) (first | (go_at_call 38; refine (OW.out _ (by first | exact HEd.out.bel | exact HEd.out.bel.alloc HEd.out.bel.size _)).mono ?_; rintro e wm ⟨g, kk, rfl, hg, hk1, hk2, hO, hbm⟩; have HEm : Hid (Beg2 w (rowL a false p1 m1 c1) (rowL b false p2 m2 c2) wm) := (by show Beg2 _ _ _ _; first | exact HEd.out.next hbm | exact (HEd.out.next ((Below.refl _ _).alloc (Nat.le_refl _) _)).next hbm); have HBm : Hid (Below (w.heap.size + 3) wb wm) := (by show Below _ _ _; have hs := HSB.out; have hs2 : wb.drew.heap.size = wb.heap.size := rfl; first | exact HD0.out.trans (hbm.mono (by omega)) | exact (HD0.out.alloc (by omega) _).trans (hbm.mono (by simp; omega))); have HOm : Hid (Out (w.heap.size + 3) wm (.slice (some ⟨g, 0, none⟩) m1 kk) L1) := (by show Out _ _ _ _; have hs := HSB.out; have hs2 : wb.drew.heap.size = wb.heap.size := rfl; first | exact hO.mono (by omega) | exact hO.mono (by simp; omega)); obtain ⟨f0, f1, f2, -⟩ := HEm.out.one.three; obtain ⟨g0, g1, g2, -⟩ := HEm.out.two.three; have HNE1 : Hid (w.heap.size ≠ wb.heap.size) := (by show _ ≠ _; have := HSB.out; omega); have HNE2 : Hid (w.heap.size + 1 ≠ wb.heap.size) := (by show _ ≠ _; have := HSB.out; omega); have HNE3 : Hid (w.heap.size ≠ wm.heap.size) := (by show _ ≠ _; have := HSB.out; have := HBm.out.size; omega); have HNE4 : Hid (w.heap.size + 1 ≠ wm.heap.size) := (by show _ ≠ _; have := HSB.out; have := HBm.out.size; omega); clear hg hO hk1 hk2; (try (have hz : Below (wb.alloc (.cells #[.int .i64 0, .bool false, .slice none 0 0] 26)).drew.heap.size (wb.alloc (.cells #[.int .i64 0, .bool false, .slice none 0 0] 26)).drew wm := (by with_reducible exact hbm); have HZ := Lib.hid (z_oneJ hz))); (try obtain ⟨z0, z1, z2, y0, y1, y2⟩ := HZ.out.three)))
    · go_wp2_with fail
      go_meet
      have hg : w.heap.size + 3 ≤ wm.heap.size := by have := HSB.out; have := HBm.out.size; omega
      exact ⟨_, ⟨g, 0, none⟩, kk, rfl, Lib.hid hg, Lib.hid (OwnArr.made wm 26 [.int .i64 ((a : Int) + (b : Int)), .bool false, .slice (some ⟨g, 0, none⟩) m1 kk]), Lib.hid (World.ownsRow.alloc HOm.out _), Lib.hid (HBm.out.alloc hg _)⟩
    · go_wp2_with fail
      go_meet
      have hg : w.heap.size + 3 ≤ wb.heap.size := HSB.out
      obtain ⟨f1, f2, f3⟩ := fin_boxJ (.int .i64 ((a : Int) + (b : Int))) (.bool false) (.slice (some ⟨g, 0, none⟩) m1 kk) HZ.out rfl hg HOm.out HBm.out
      exact ⟨_, ⟨g, 0, none⟩, kk, rfl, Lib.hid hg, Lib.hid f1, Lib.hid f2, Lib.hid f3⟩
  case rest =>
    obtain ⟨g, q0, c0, rfl, HG, HX0, HU0, HB⟩ := hcut
    have HE0 := Lib.hid (HE2.out.next3 HB.out)
    have hgl := HG.out
    clear HEd HD0 OW HB HE2 HG HSB d0 d1 d2 e0 e1' e2
    go_wp2_with fail
    go_loopw [7] (fun i wr => ∃ (j : Nat) (q : Addr) (c k : Nat), j ≤ m2 ∧ i = .int .i64 j ∧ Hid (k = m1 + j) ∧ Hid (Beg2 w (rowL a false p1 m1 c1) (rowL b false p2 m2 c2) wr) ∧ Hid (OwnArr wr g 26 [.int .i64 ((a : Int) + (b : Int)), .bool false, .slice (some q) k c]) ∧ Hid (Out (w.heap.size + 3) wr (.slice (some q) k c) (L1 ++ ((ints l).take j).map (fun x => (a : Int) + x)))) (fun i _ => m2 - (intOf i).toNat)
    case atStart => exact ⟨0, q0, c0, m1, Nat.zero_le _, rfl, Lib.hid rfl, HE0, HX0, by show Out _ _ _ _; simpa using HU0.out⟩
    case round =>
      obtain ⟨j, q, c, k, hj, rfl, HK, HE, HX, HO⟩ := hrel
      clear HE0 HX0 HU0
      obtain ⟨d0, d1, d2, -⟩ := HE.out.one.three
      obtain ⟨e0, e1', e2, -⟩ := HE.out.two.three
      obtain ⟨x0, x1, x2, f0, f1, f2⟩ := HX.out.three
      by_cases hlt : j < m2
      · have hjl : j < l.length := by have := HM2.out; rw [ints_length] at this; omega
        obtain ⟨bb, off, rfl, -, -, hbw, hc⟩ := HI.out.int (by rw [ints_length]; omega)
        have h0 := (HE.out.bel.cell (p := ⟨bb, off + j, none⟩) hbw).trans (hc j (by rw [ints_length]; exact hjl))
        rw [ints_get hjl] at h0
        have hyn := HL.out _ (nat_mem hjl)
        have hst : (ints l).take (j + 1) = (ints l).take j ++ [(ints l)[j]?.getD 0] := by
          rw [List.take_succ_eq_append_getElem (by rw [ints_length]; exact hjl), List.getElem?_eq_getElem (by rw [ints_length]; exact hjl)]; rfl
        rw [ints_get hjl] at hst
        obtain ⟨y, hy⟩ : ∃ y, l[j]?.getD 0 = y := ⟨_, rfl⟩
        rw [hy] at h0 hyn hst
        have ht0 : (0 : Int) ≤ (j : Int) := by omega
        have ht1 : (j : Int) < (m2 : Int) := by omega
        have HT : Hid (L1 ++ ((ints l).take (j + 1)).map (fun x => (a : Int) + x) = L1 ++ ((ints l).take j).map (fun x => (a : Int) + x) ++ [(a : Int) + (y : Int)]) := by
          show _ = _
          rw [hst, List.map_append, List.append_assoc]; rfl
        obtain ⟨C, hC⟩ : ∃ C, L1 ++ ((ints l).take j).map (fun x => (a : Int) + x) = C := ⟨_, rfl⟩
        rw [hC] at HT HO
        have HCL : Hid (C.length = k) := by
          show _ = _
          rw [← hC, List.length_append, List.length_map, List.length_take, HK.out, HM1.out, ints_length]
          have := HM2.out; rw [ints_length] at this
          omega
        have HTL : Hid ((L1 ++ ((ints l).take (j + 1)).map (fun x => (a : Int) + x)).length = k + 1) := by
          show _ = _
          rw [HT.out, List.length_append, HCL.out]; rfl
        have hk24 : k ≤ 48 := by have := HK.out; omega
        have e2x : IntKind.i64.wrap ((a : Int) + (y : Int)) = (a : Int) + (y : Int) := IntWalk.i64_in _ (by omega)
        have hb0 : Below (w.heap.size + 3) wr ((wr.alloc (.cells #[.int .i64 ((a : Int) + (y : Int))] 3)).drew) := ((Below.refl _ wr).alloc (by have := HE.out.res.lt; omega) _).drew
        have HOA : Hid (Out (w.heap.size + 3) (wr.alloc (.cells #[.int .i64 ((a : Int) + (y : Int))] 3)).drew (.slice (some q) k c) C) := World.ownsRow.alloc HO.out _
        have HLA : Hid (OwnArr (wr.alloc (.cells #[.int .i64 ((a : Int) + (y : Int))] 3)).drew wr.heap.size 3 [.int .i64 ((a : Int) + (y : Int))]) := OwnArr.made wr _ [_]
        have HXA : Hid (OwnArr (wr.alloc (.cells #[.int .i64 ((a : Int) + (y : Int))] 3)).drew g 26 [.int .i64 ((a : Int) + (b : Int)), .bool false, .slice (some q) k c]) := HX.out.alloc _
        have HNX := Lib.hid (own_ne HOA.out HXA.out)
        have HBK := Lib.hid (own_block HO.out)
        have HB0 := Lib.hid hb0
        have hsz := HE.out.res.lt
        have hgw := HX.out.lt
        have hgne : g ≠ wr.heap.size := by omega
        have HEK := HE
        clear hc hy hst hC hb0
        go_wp2_with fail
        go_region_law (refine step_app rfl (.tmp 42) (.tmp 51) rfl (w.heap.size + 3) (.slice (some q) k c) C (by simp [Act.eval]) HOA.out _ 1 1 0 (wr.heap.size + 1) [(a : Int) + (y : Int)] (by simp [Act.eval]) (lit_one HLA.out _ (Nat.lt_succ_self _) (by simp)) rfl (by have := HCL.out; omega) (by simp; omega) ?_; intro v1 w2 hO2 hg2 hn2; rw [← HT.out] at hO2; obtain ⟨gv, cv, ev, -⟩ := hO2.some' (by intro h; have := hn2.1 h; simp at this); rw [HTL.out] at ev; subst ev; have HX2 := Lib.hid (OwnArr.grown HXA.out hg2 HNX.out); have HG2 := Lib.hid (HB0.out.grown hg2 (by have := HB0.out.size; have := HE.out.res.lt; omega) (fun k' h' => by have := HBK.out k' h'; omega)); have HO2 := Lib.hid hO2; obtain ⟨y0, y1, y2, z0, z1, z2⟩ := HX2.out.three; clear hO2 hg2 hn2)
        all_goals
          obtain ⟨r1, r2, r3⟩ := fin2J HX2.out HG2.out HO2.out hgl
          have HX6 := Lib.hid r1
          have HE6 := Lib.hid (HEK.out.next3 r3)
          have HO6 := Lib.hid r2
          clear r1 r2 r3 HX2 HG2 HO2 HX HO HE
          go_wp2_with fail
          go_roundw
          case rel => exact ⟨j + 1, _, _, k + 1, by omega, by go_num, by show _ = _; have := HK.out; omega, HE6, HX6, HO6⟩
          case measure => simp [intOf]; omega
      · have hjq : j = m2 := by omega
        subst hjq
        have hto : (ints l).take j = ints l := List.take_of_length_le (by have := HM2.out; omega)
        have hO := HO.out
        rw [hto, HJ.out] at hO
        have HO2 := Lib.hid hO
        clear hto hO HO
        have hkk : L.length = k := by
          obtain ⟨p', c', e, -⟩ := HO2.out.rd
          simp only [Value.slice.injEq] at e
          exact e.2.1.symm
        have hk24 : k ≤ 1048576 := by rw [← hkk]; have := HLN.out; omega
        have K := kept_any ((a : Int) + (b : Int)) false (some q) c L wr _ _ (by obtain ⟨p', c', e, -, -, h, -⟩ := HO2.out.rd; simp only [Value.slice.injEq] at e; obtain ⟨rfl, -⟩ := e; exact h) (by omega) _ hkk true HRB.out
        simp only [if_true] at K
        replace K := Lib.hid K
        clear x0 x1 x2 f0 f1 f2
        obtain ⟨x0, x1, x2, -⟩ := HX.out.three
        go_wp2_with fail
        refine K.out.mono ?_
        rintro e w9 ⟨rfl, hb9⟩
        have HE9 := Lib.hid (HE.out.next hb9)
        have HO9 := Lib.hid (HO2.out.below hb9)
        obtain ⟨z0, z1, z2, y0, y1, y2⟩ := HE9.out.res.three
        clear x0 x1 x2 HE HX HO2 hb9 d0 d1 d2 e0 e1' e2
        go_wp2_with fail
        exact ret_row2 Try.results10 rfl rfl (HE9.out.out _ _ _).1 rfl ⟨_, rfl, (HO9.out.boxed HE9.out.res _ _ _).mono (by omega), (HE9.out.out _ _ _).2⟩

set_option maxRecDepth 4000 in
set_option maxHeartbeats 4000000 in
theorem joinS_no (a b : Nat) (p1 : Option Addr) (c1 : Nat) (p2 : Option Addr) (c2 : Nat) (S T : Nat → Bool) (w : World) (lo1 hi1 lo2 hi2 : Nat) (in1 : Ri lo1 hi1 w p1 (ints (tk a S))) (in2 : Ri lo2 hi2 w p2 (ints (tk b T))) (ha : 2 ≤ a) (ha' : a ≤ 24) (hb : 2 ≤ b) (hb' : b ≤ 24) (hV : decide (a + b ≤ 24) = false) :
    Calls Try.prog 10 #[rowV a false p1 (ints (tk a S)).length c1, rowV b false p2 (ints (tk b T)).length c2] w (MadeRow w 0 false [] false) := by
  unfold MadeRow
  have hl1 := ints_tk_len a S
  have hl2 := ints_tk_len b T
  have hE := Beg2.start w a false p1 (ints (tk a S)).length c1 b false p2 (ints (tk b T)).length c2
  have R1 := fun (w' : World) (h' : Below w.heap.size w w') => l2Row_any a false p1 c1 (ints (tk a S)) w' lo1 hi1 (in1.below h' in1.top) (by omega)
  have R2 := fun (w' : World) (h' : Below w.heap.size w w') => l2Row_any b false p2 c2 (ints (tk b T)) w' lo2 hi2 (in2.below h' in2.top) (by omega)
  rw [rowB_of ha ha' (fun e => absurd e (by simp))] at R1
  rw [rowB_of hb hb' (fun e => absurd e (by simp))] at R2
  have OW := Lib.hid (fun (w' : World) (h' : Below w.heap.size w w') => l1Own_any p1 c1 (ints (tk a S)) w' lo1 hi1 (in1.below h' in1.top) (by omega))
  have HJ0 := Lib.hid (join_spec (a := a) (b := b) (S := S) (T := T))
  have HRB : Hid (rowB ((a : Int) + (b : Int)) false (ints (tk (a + b) (joinS a S T))) = false) := by
    show _ = _
    rw [show (a : Int) + (b : Int) = ((a + b : Nat) : Int) by omega, joinB ha, hV]
  have HI := Lib.hid in2
  have HL : Hid (∀ x ∈ tk b T, x < b) := by show ∀ _, _; exact fun x hx => (mem_tk.1 hx).1
  have HLN := Lib.hid (ints_tk_len (a + b) (joinS a S T))
  obtain ⟨L, hL⟩ : ∃ L, ints (tk (a + b) (joinS a S T)) = L := ⟨_, rfl⟩
  have HJ : Hid (ints (tk a S) ++ (ints (tk b T)).map (fun x => (a : Int) + x) = L) := by
    show _ = _
    rw [HJ0.out, ← hL]; rfl
  rw [hL] at HRB HLN
  replace R1 := Lib.hid R1
  replace R2 := Lib.hid R2
  have HE := Lib.hid hE
  clear hE in1 hV HJ0 hL
  obtain ⟨L1, hL1⟩ : ∃ L1, ints (tk a S) = L1 := ⟨_, rfl⟩
  rw [hL1] at HE R1 OW HJ hl1 ⊢
  obtain ⟨l, hl⟩ : ∃ l, tk b T = l := ⟨_, rfl⟩
  rw [hl] at HE R2 HJ HI HL hl2 in2 ⊢
  obtain ⟨m1, hm1⟩ : ∃ m, L1.length = m := ⟨_, rfl⟩
  rw [hm1] at HE R1 OW hl1 ⊢
  obtain ⟨m2, hm2⟩ : ∃ m, (ints l).length = m := ⟨_, rfl⟩
  rw [hm2] at HE R2 hl2 ⊢
  have HM1 := Lib.hid hm1
  have HM2 := Lib.hid hm2
  have e1 : IntKind.i64.wrap ((a : Int) + (b : Int)) = (a : Int) + (b : Int) := IntWalk.i64_in _ (by omega)
  clear hL1 hl hm1 hm2 in2
  go_enter Try.func10, Try.ntmps10
  go_wp2_with fail
  refine (R1.out _ HE.out.bel).mono ?_
  rintro e w1 ⟨rfl, hb1⟩
  have HE1 := Lib.hid (HE.out.next hb1)
  obtain ⟨d0, d1, d2, -⟩ := HE1.out.two.three
  clear HE hb1 R1
  go_wp2_with fail
  refine (R2.out _ HE1.out.bel).mono ?_
  rintro e wb ⟨rfl, hb2⟩
  have HE2 := Lib.hid (HE1.out.next hb2)
  clear HE1 hb2 R2 d0 d1 d2
  obtain ⟨d0, d1, d2, -⟩ := HE2.out.one.three
  obtain ⟨e0, e1', e2, -⟩ := HE2.out.two.three
  have HEd := Lib.hid (HE2.out.drew)
  have hwb : w.heap.size + 3 ≤ wb.heap.size := by have := HE2.out.res.lt; omega
  have HD0 := Lib.hid ((Below.refl (w.heap.size + 3) wb).drew)
  have HSB := Lib.hid hwb
  clear hwb
  go_upto_region 3 with fail
  go_cut [6] (fun v wx => ∃ g q c, v = .pointer (some ⟨g, 0, none⟩) ∧ Hid (w.heap.size + 3 ≤ g) ∧ Hid (OwnArr wx g 26 [.int .i64 ((a : Int) + (b : Int)), .bool false, .slice (some q) m1 c]) ∧ Hid (Out (w.heap.size + 3) wx (.slice (some q) m1 c) L1) ∧ Hid (Below (w.heap.size + 3) wb wx))
  case first =>
    go_region_held3 (fun w' => w'.cell? ⟨w.heap.size, 0, none⟩ = some (.int .i64 a) ∧ w'.cell? ⟨w.heap.size, 1, none⟩ = some (.bool false) ∧ w'.cell? ⟨w.heap.size, 2, none⟩ = some (.slice p1 m1 c1) ∧ w'.cell? ⟨w.heap.size + 1, 0, none⟩ = some (.int .i64 b) ∧ w'.cell? ⟨w.heap.size + 1, 1, none⟩ = some (.bool false) ∧ w'.cell? ⟨w.heap.size + 1, 2, none⟩ = some (.slice p2 m2 c2)) ((first | with_reducible exact ⟨d0, d1, d2, e0, e1', e2⟩ | with_reducible exact ⟨f0, f1, f2, g0, g1, g2⟩ | (obtain ⟨s0, s1, s2, s3, s4, s5⟩ := (by assumption : _ ∧ _ ∧ _ ∧ _ ∧ _ ∧ _); with_reducible exact ⟨cell_allocJ s0, cell_allocJ s1, cell_allocJ s2, cell_allocJ s3, cell_allocJ s4, cell_allocJ s5⟩) | (obtain ⟨s0, s1, s2, s3, s4, s5⟩ := (by assumption : _ ∧ _ ∧ _ ∧ _ ∧ _ ∧ _); have hne := HNE1.out; have hne' := HNE2.out; with_reducible exact ⟨cell_set3J s0 hne, cell_set3J s1 hne, cell_set3J s2 hne, cell_set3J s3 hne', cell_set3J s4 hne', cell_set3J s5 hne'⟩) | (obtain ⟨s0, s1, s2, s3, s4, s5⟩ := (by assumption : _ ∧ _ ∧ _ ∧ _ ∧ _ ∧ _); have hne := HNE3.out; have hne' := HNE4.out; with_reducible exact ⟨cell_set3J s0 hne, cell_set3J s1 hne, cell_set3J s2 hne, cell_set3J s3 hne', cell_set3J s4 hne', cell_set3J s5 hne'⟩) | go_keep)) (first | (go_at_call 38; refine (OW.out _ (by first | exact HEd.out.bel | exact HEd.out.bel.alloc HEd.out.bel.size _)).mono ?_; rintro e wm ⟨g, kk, rfl, hg, hk1, hk2, hO, hbm⟩; have HEm : Hid (Beg2 w (rowL a false p1 m1 c1) (rowL b false p2 m2 c2) wm) := (by show Beg2 _ _ _ _; first | exact HEd.out.next hbm | exact (HEd.out.next ((Below.refl _ _).alloc (Nat.le_refl _) _)).next hbm); have HBm : Hid (Below (w.heap.size + 3) wb wm) := (by show Below _ _ _; have hs := HSB.out; have hs2 : wb.drew.heap.size = wb.heap.size := rfl; first | exact HD0.out.trans (hbm.mono (by omega)) | exact (HD0.out.alloc (by omega) _).trans (hbm.mono (by simp; omega))); have HOm : Hid (Out (w.heap.size + 3) wm (.slice (some ⟨g, 0, none⟩) m1 kk) L1) := (by show Out _ _ _ _; have hs := HSB.out; have hs2 : wb.drew.heap.size = wb.heap.size := rfl; first | exact hO.mono (by omega) | exact hO.mono (by simp; omega)); obtain ⟨f0, f1, f2, -⟩ := HEm.out.one.three; obtain ⟨g0, g1, g2, -⟩ := HEm.out.two.three; have HNE1 : Hid (w.heap.size ≠ wb.heap.size) := (by show _ ≠ _; have := HSB.out; omega); have HNE2 : Hid (w.heap.size + 1 ≠ wb.heap.size) := (by show _ ≠ _; have := HSB.out; omega); have HNE3 : Hid (w.heap.size ≠ wm.heap.size) := (by show _ ≠ _; have := HSB.out; have := HBm.out.size; omega); have HNE4 : Hid (w.heap.size + 1 ≠ wm.heap.size) := (by show _ ≠ _; have := HSB.out; have := HBm.out.size; omega); clear hg hO hk1 hk2; (try (have hz : Below (wb.alloc (.cells #[.int .i64 0, .bool false, .slice none 0 0] 26)).drew.heap.size (wb.alloc (.cells #[.int .i64 0, .bool false, .slice none 0 0] 26)).drew wm := (by with_reducible exact hbm); have HZ := Lib.hid (z_oneJ hz))); (try obtain ⟨z0, z1, z2, y0, y1, y2⟩ := HZ.out.three)))
    · go_wp2_with fail
      go_meet
      have hg : w.heap.size + 3 ≤ wm.heap.size := by have := HSB.out; have := HBm.out.size; omega
      exact ⟨_, ⟨g, 0, none⟩, kk, rfl, Lib.hid hg, Lib.hid (OwnArr.made wm 26 [.int .i64 ((a : Int) + (b : Int)), .bool false, .slice (some ⟨g, 0, none⟩) m1 kk]), Lib.hid (World.ownsRow.alloc HOm.out _), Lib.hid (HBm.out.alloc hg _)⟩
    · go_wp2_with fail
      go_meet
      have hg : w.heap.size + 3 ≤ wb.heap.size := HSB.out
      obtain ⟨f1, f2, f3⟩ := fin_boxJ (.int .i64 ((a : Int) + (b : Int))) (.bool false) (.slice (some ⟨g, 0, none⟩) m1 kk) HZ.out rfl hg HOm.out HBm.out
      exact ⟨_, ⟨g, 0, none⟩, kk, rfl, Lib.hid hg, Lib.hid f1, Lib.hid f2, Lib.hid f3⟩
  case rest =>
    obtain ⟨g, q0, c0, rfl, HG, HX0, HU0, HB⟩ := hcut
    have HE0 := Lib.hid (HE2.out.next3 HB.out)
    have hgl := HG.out
    clear HEd HD0 OW HB HE2 HG HSB d0 d1 d2 e0 e1' e2
    go_wp2_with fail
    go_loopw [7] (fun i wr => ∃ (j : Nat) (q : Addr) (c k : Nat), j ≤ m2 ∧ i = .int .i64 j ∧ Hid (k = m1 + j) ∧ Hid (Beg2 w (rowL a false p1 m1 c1) (rowL b false p2 m2 c2) wr) ∧ Hid (OwnArr wr g 26 [.int .i64 ((a : Int) + (b : Int)), .bool false, .slice (some q) k c]) ∧ Hid (Out (w.heap.size + 3) wr (.slice (some q) k c) (L1 ++ ((ints l).take j).map (fun x => (a : Int) + x)))) (fun i _ => m2 - (intOf i).toNat)
    case atStart => exact ⟨0, q0, c0, m1, Nat.zero_le _, rfl, Lib.hid rfl, HE0, HX0, by show Out _ _ _ _; simpa using HU0.out⟩
    case round =>
      obtain ⟨j, q, c, k, hj, rfl, HK, HE, HX, HO⟩ := hrel
      clear HE0 HX0 HU0
      obtain ⟨d0, d1, d2, -⟩ := HE.out.one.three
      obtain ⟨e0, e1', e2, -⟩ := HE.out.two.three
      obtain ⟨x0, x1, x2, f0, f1, f2⟩ := HX.out.three
      by_cases hlt : j < m2
      · have hjl : j < l.length := by have := HM2.out; rw [ints_length] at this; omega
        obtain ⟨bb, off, rfl, -, -, hbw, hc⟩ := HI.out.int (by rw [ints_length]; omega)
        have h0 := (HE.out.bel.cell (p := ⟨bb, off + j, none⟩) hbw).trans (hc j (by rw [ints_length]; exact hjl))
        rw [ints_get hjl] at h0
        have hyn := HL.out _ (nat_mem hjl)
        have hst : (ints l).take (j + 1) = (ints l).take j ++ [(ints l)[j]?.getD 0] := by
          rw [List.take_succ_eq_append_getElem (by rw [ints_length]; exact hjl), List.getElem?_eq_getElem (by rw [ints_length]; exact hjl)]; rfl
        rw [ints_get hjl] at hst
        obtain ⟨y, hy⟩ : ∃ y, l[j]?.getD 0 = y := ⟨_, rfl⟩
        rw [hy] at h0 hyn hst
        have ht0 : (0 : Int) ≤ (j : Int) := by omega
        have ht1 : (j : Int) < (m2 : Int) := by omega
        have HT : Hid (L1 ++ ((ints l).take (j + 1)).map (fun x => (a : Int) + x) = L1 ++ ((ints l).take j).map (fun x => (a : Int) + x) ++ [(a : Int) + (y : Int)]) := by
          show _ = _
          rw [hst, List.map_append, List.append_assoc]; rfl
        obtain ⟨C, hC⟩ : ∃ C, L1 ++ ((ints l).take j).map (fun x => (a : Int) + x) = C := ⟨_, rfl⟩
        rw [hC] at HT HO
        have HCL : Hid (C.length = k) := by
          show _ = _
          rw [← hC, List.length_append, List.length_map, List.length_take, HK.out, HM1.out, ints_length]
          have := HM2.out; rw [ints_length] at this
          omega
        have HTL : Hid ((L1 ++ ((ints l).take (j + 1)).map (fun x => (a : Int) + x)).length = k + 1) := by
          show _ = _
          rw [HT.out, List.length_append, HCL.out]; rfl
        have hk24 : k ≤ 48 := by have := HK.out; omega
        have e2x : IntKind.i64.wrap ((a : Int) + (y : Int)) = (a : Int) + (y : Int) := IntWalk.i64_in _ (by omega)
        have hb0 : Below (w.heap.size + 3) wr ((wr.alloc (.cells #[.int .i64 ((a : Int) + (y : Int))] 3)).drew) := ((Below.refl _ wr).alloc (by have := HE.out.res.lt; omega) _).drew
        have HOA : Hid (Out (w.heap.size + 3) (wr.alloc (.cells #[.int .i64 ((a : Int) + (y : Int))] 3)).drew (.slice (some q) k c) C) := World.ownsRow.alloc HO.out _
        have HLA : Hid (OwnArr (wr.alloc (.cells #[.int .i64 ((a : Int) + (y : Int))] 3)).drew wr.heap.size 3 [.int .i64 ((a : Int) + (y : Int))]) := OwnArr.made wr _ [_]
        have HXA : Hid (OwnArr (wr.alloc (.cells #[.int .i64 ((a : Int) + (y : Int))] 3)).drew g 26 [.int .i64 ((a : Int) + (b : Int)), .bool false, .slice (some q) k c]) := HX.out.alloc _
        have HNX := Lib.hid (own_ne HOA.out HXA.out)
        have HBK := Lib.hid (own_block HO.out)
        have HB0 := Lib.hid hb0
        have hsz := HE.out.res.lt
        have hgw := HX.out.lt
        have hgne : g ≠ wr.heap.size := by omega
        have HEK := HE
        clear hc hy hst hC hb0
        go_wp2_with fail
        go_region_law (refine step_app rfl (.tmp 42) (.tmp 51) rfl (w.heap.size + 3) (.slice (some q) k c) C (by simp [Act.eval]) HOA.out _ 1 1 0 (wr.heap.size + 1) [(a : Int) + (y : Int)] (by simp [Act.eval]) (lit_one HLA.out _ (Nat.lt_succ_self _) (by simp)) rfl (by have := HCL.out; omega) (by simp; omega) ?_; intro v1 w2 hO2 hg2 hn2; rw [← HT.out] at hO2; obtain ⟨gv, cv, ev, -⟩ := hO2.some' (by intro h; have := hn2.1 h; simp at this); rw [HTL.out] at ev; subst ev; have HX2 := Lib.hid (OwnArr.grown HXA.out hg2 HNX.out); have HG2 := Lib.hid (HB0.out.grown hg2 (by have := HB0.out.size; have := HE.out.res.lt; omega) (fun k' h' => by have := HBK.out k' h'; omega)); have HO2 := Lib.hid hO2; obtain ⟨y0, y1, y2, z0, z1, z2⟩ := HX2.out.three; clear hO2 hg2 hn2)
        all_goals
          obtain ⟨r1, r2, r3⟩ := fin2J HX2.out HG2.out HO2.out hgl
          have HX6 := Lib.hid r1
          have HE6 := Lib.hid (HEK.out.next3 r3)
          have HO6 := Lib.hid r2
          clear r1 r2 r3 HX2 HG2 HO2 HX HO HE
          go_wp2_with fail
          go_roundw
          case rel => exact ⟨j + 1, _, _, k + 1, by omega, by go_num, by show _ = _; have := HK.out; omega, HE6, HX6, HO6⟩
          case measure => simp [intOf]; omega
      · have hjq : j = m2 := by omega
        subst hjq
        have hto : (ints l).take j = ints l := List.take_of_length_le (by have := HM2.out; omega)
        have hO := HO.out
        rw [hto, HJ.out] at hO
        have HO2 := Lib.hid hO
        clear hto hO HO
        have hkk : L.length = k := by
          obtain ⟨p', c', e, -⟩ := HO2.out.rd
          simp only [Value.slice.injEq] at e
          exact e.2.1.symm
        have hk24 : k ≤ 1048576 := by rw [← hkk]; have := HLN.out; omega
        have K := kept_any ((a : Int) + (b : Int)) false (some q) c L wr _ _ (by obtain ⟨p', c', e, -, -, h, -⟩ := HO2.out.rd; simp only [Value.slice.injEq] at e; obtain ⟨rfl, -⟩ := e; exact h) (by omega) _ hkk false HRB.out
        simp only [Bool.false_eq_true, if_false] at K
        replace K := Lib.hid K
        clear x0 x1 x2 f0 f1 f2
        obtain ⟨x0, x1, x2, -⟩ := HX.out.three
        go_wp2_with fail
        refine K.out.mono ?_
        rintro e w9 ⟨rfl, hb9⟩
        have HE9 := Lib.hid (HE.out.next hb9)
        have HO9 := Lib.hid (HO2.out.below hb9)
        obtain ⟨z0, z1, z2, y0, y1, y2⟩ := HE9.out.res.three
        clear x0 x1 x2 HE HX HO2 hb9 d0 d1 d2 e0 e1' e2
        go_wp2_with fail
        exact ret_row2 Try.results10 rfl rfl (HE9.out.out _ _ _).1 rfl ⟨_, rfl, Out.none _ _, (HE9.out.out _ _ _).2⟩

/-- two Rows that can't be joined, or two lines -/
theorem joinCases (s1 : Int) (r1 : Bool) (xs1 : List Int) (s2 : Int) (r2 : Bool) (xs2 : List Int) : NoJoin s1 r1 xs1 s2 r2 xs2 ∨ ∃ (a b : Nat) (S T : Nat → Bool), s1 = a ∧ r1 = false ∧ xs1 = ints (tk a S) ∧ s2 = b ∧ r2 = false ∧ xs2 = ints (tk b T) ∧ 2 ≤ a ∧ a ≤ 24 ∧ 2 ≤ b ∧ b ≤ 24 := by
  cases h1 : rowB s1 r1 xs1 with
  | false => exact .inl (.a h1)
  | true =>
    cases h2 : rowB s2 r2 xs2 with
    | false => exact .inl (.b h1 h2)
    | true =>
      cases r1 with
      | true => exact .inl (.c h1 h2 rfl)
      | false =>
        cases r2 with
        | true => exact .inl (.d h1 h2 rfl rfl)
        | false =>
          obtain ⟨a, S, e1, e2, i1, i2, -⟩ := rowB_is h1
          obtain ⟨b, T, e3, e4, i3, i4, -⟩ := rowB_is h2
          exact .inr ⟨a, b, S, T, e1, rfl, e2, e3, rfl, e4, i1, i2, i3, i4⟩
end Go.Proofs.Ytidiljnonbkpjaa
