/- FnExactJoinSeats's walk: for all two Rows both functions give the same Row, in memory of the call's own. -/
import Derived.Test.YtidiljnonbkpjaaJoinB
import Derived.Test.YtidiljnonbkpjaaRowLaw
import Derived.Test.YtidiljnonbkpjaaHeldRow
import Derived.Test.YtidiljnonbkpjaaTwo
import Derived.Deep.RegionHeld3
import Derived.Deep.DeepCutAuto
namespace Go.Proofs.Ytidiljnonbkpjaa.joinSeats
open Go.RowKit

set_option maxRecDepth 4000 in
set_option maxHeartbeats 8000000 in
theorem walk (s1 : Int) (r1 : Bool) (p1 : Option Addr) (c1 : Nat) (xs1 : List Int) (s2 : Int) (r2 : Bool) (p2 : Option Addr) (c2 : Nat) (xs2 : List Int) (w : World) (in1 : Ri 0 w.heap.size w p1 xs1) (len1 : xs1.length ≤ 9223372036854775807) (_ : -9223372036854775808 ≤ s1 ∧ s1 ≤ 9223372036854775807) (_ : ∀ x ∈ xs1, -9223372036854775808 ≤ x ∧ x ≤ 9223372036854775807) (in2 : Ri 0 w.heap.size w p2 xs2) (len2 : xs2.length ≤ 9223372036854775807) (_ : -9223372036854775808 ≤ s2 ∧ s2 ≤ 9223372036854775807) (_ : ∀ x ∈ xs2, -9223372036854775808 ≤ x ∧ x ≤ 9223372036854775807) :
    Calls Try.prog 3 #[rowV s1 r1 p1 xs1.length c1, rowV s2 r2 p2 xs2.length c2] w fun e w' => e = .returned (.bool true) ∧ Below w.heap.size w w' := by
  obtain ⟨E00, F00⟩ := Env.start2 (s := s1) (ring := r1) (cap := c1) (s2 := s2) (ring2 := r2) (cap2 := c2) in1 in2
  have SZ := fun w' => szRow_any s1 r1 p1 xs1.length c1 w' len1
  have E0 := Lib.hid E00
  have F0 := Lib.hid F00
  clear E00 F00 in1 in2
  by_cases hl1 : xs1.length ≤ 1048576
  case neg =>
    rw [if_neg hl1] at SZ
    replace SZ := Lib.hid SZ
    go_enter Try.func3, Try.ntmps3
    go_wp2_with fail
    refine (SZ.out _).mono ?_
    rintro e w1 ⟨rfl, hb1⟩
    have E1 := Lib.hid (E0.out.next hb1)
    go_wp2_with fail
    go_ret
    exact ⟨rfl, E1.out.bel⟩
  rw [if_pos hl1] at SZ
  have SZ2 := fun w' => szRow2_any s2 r2 p2 xs2.length c2 (1048576 - xs1.length) w' len2 (by omega)
  have hsub : ((1048576 - xs1.length : Nat) : Int) = 1048576 - (xs1.length : Int) := by omega
  rw [hsub] at SZ2
  have h0 : ¬ (1048576 - (xs1.length : Int) < 0) := by omega
  by_cases hl2 : xs2.length ≤ 1048576 - xs1.length
  case neg =>
    rw [if_neg hl2] at SZ2
    replace SZ := Lib.hid SZ
    replace SZ2 := Lib.hid SZ2
    clear hsub
    go_enter Try.func3, Try.ntmps3
    go_wp2_with fail
    refine (SZ.out _).mono ?_
    rintro e w1 ⟨rfl, hb1⟩
    have E1 := Lib.hid (E0.out.next hb1)
    have F1 := Lib.hid (F0.out.next hb1)
    obtain ⟨b0, b1, b2, -⟩ := F1.out.box.three
    clear E0 F0 SZ hb1
    go_wp2_with fail
    refine (SZ2.out _).mono ?_
    rintro e w2 ⟨rfl, hb2⟩
    have E2 := Lib.hid (E1.out.next hb2)
    go_wp2_with fail
    go_ret
    exact ⟨rfl, E2.out.bel⟩
  rw [if_pos hl2] at SZ2
  have hl2' : xs2.length ≤ 1048576 := by omega
  have h00 : ¬ (1048576 - (xs1.length : Int) - (xs2.length : Int) < 0) := by omega
  obtain ⟨s', ring', L, B, hL, S, I⟩ := joinSeats_both s1 r1 xs1 s2 r2 xs2
  unfold MadeRow at S I
  replace S := Lib.hid S
  replace I := Lib.hid I
  replace SZ := Lib.hid SZ
  replace SZ2 := Lib.hid SZ2
  obtain ⟨n, hn⟩ : ∃ n, L.length = n := ⟨_, rfl⟩
  rw [hn] at hL
  replace hn := Lib.hid hn
  clear hsub
  go_enter Try.func3, Try.ntmps3
  go_wp2_with fail
  refine (SZ.out _).mono ?_
  rintro e w1 ⟨rfl, hb1⟩
  have E1 := Lib.hid (E0.out.next hb1)
  have F1 := Lib.hid (F0.out.next hb1)
  obtain ⟨b0, b1, b2, -⟩ := F1.out.box.three
  clear E0 F0 SZ hb1
  go_wp2_with fail
  refine (SZ2.out _).mono ?_
  rintro e w2 ⟨rfl, hb2⟩
  have E2 := Lib.hid (E1.out.next hb2)
  have F2 := Lib.hid (F1.out.next hb2)
  clear E1 F1 SZ2 hb2 b0 b1 b2
  obtain ⟨a0, a1, a2, -⟩ := E2.out.box.three
  obtain ⟨b0, b1, b2, -⟩ := F2.out.box.three
  go_upto_region 8 with fail
  go_cut [6, 7] (fun v u wx => ∃ g q1 k1, v = .pointer (some ⟨g, 0, none⟩) ∧ u = .bool B ∧ Hid (w2.heap.size ≤ g) ∧ Hid (OwnArr wx g 26 [.int .i64 s', .bool ring', .slice q1 n k1]) ∧ Hid (Out w2.heap.size wx (.slice q1 n k1) L) ∧ Hid (Below w2.heap.size w2 wx))
  case first =>
    have HD0 := Lib.hid ((Below.refl w2.heap.size w2).drew)
    have HDZ : Hid (Below w2.heap.size w2 (w2.alloc (.cells #[.int .i64 0, .bool false, .slice none 0 0] 26)).drew) := by show Below _ _ _; exact ((Below.refl _ _).alloc (Nat.le_refl _) _).drew
    have HSZ : Hid (w.heap.size + 2 ≤ w2.heap.size) := by show _ ≤ _; have := F2.out.box.lt; omega
    have TA := Lib.hid (fun (w' : World) (h' : Below w2.heap.size w2 w') => toRow_any s1 r1 p1 c1 xs1 w' _ _ (E2.out.next h').inn hl1)
    have TB := Lib.hid (fun (w' : World) (h' : Below w2.heap.size w2 w') => toRow_any s2 r2 p2 c2 xs2 w' _ _ (F2.out.next h').inn hl2')
    go_region_held3 (fun w' => w'.cell? ⟨w.heap.size, 0, none⟩ = some (.int .i64 s1) ∧ w'.cell? ⟨w.heap.size, 1, none⟩ = some (.bool r1) ∧ w'.cell? ⟨w.heap.size, 2, none⟩ = some (.slice p1 xs1.length c1) ∧ w'.cell? ⟨w.heap.size + 1, 0, none⟩ = some (.int .i64 s2) ∧ w'.cell? ⟨w.heap.size + 1, 1, none⟩ = some (.bool r2) ∧ w'.cell? ⟨w.heap.size + 1, 2, none⟩ = some (.slice p2 xs2.length c2)) ((first | with_reducible exact ⟨a0, a1, a2, b0, b1, b2⟩ | with_reducible exact ⟨d0, d1, d2, e0, e1, e2⟩ | with_reducible exact ⟨f0, f1, f2, g0, g1, g2⟩ | with_reducible exact ⟨h0, h1, h2, i0, i1, i2⟩ | (obtain ⟨s0, s1, s2, s3, s4, s5⟩ := (by assumption : _ ∧ _ ∧ _ ∧ _ ∧ _ ∧ _); with_reducible exact ⟨cell_allocJ s0, cell_allocJ s1, cell_allocJ s2, cell_allocJ s3, cell_allocJ s4, cell_allocJ s5⟩) | (obtain ⟨s0, s1, s2, s3, s4, s5⟩ := (by assumption : _ ∧ _ ∧ _ ∧ _ ∧ _ ∧ _); have hne := N0a.out; have hne' := N0b.out; with_reducible exact ⟨cell_set3J s0 hne, cell_set3J s1 hne, cell_set3J s2 hne, cell_set3J s3 hne', cell_set3J s4 hne', cell_set3J s5 hne'⟩) | (obtain ⟨s0, s1, s2, s3, s4, s5⟩ := (by assumption : _ ∧ _ ∧ _ ∧ _ ∧ _ ∧ _); have hne := N1a.out; have hne' := N1b.out; with_reducible exact ⟨cell_set3J s0 hne, cell_set3J s1 hne, cell_set3J s2 hne, cell_set3J s3 hne', cell_set3J s4 hne', cell_set3J s5 hne'⟩) | (obtain ⟨s0, s1, s2, s3, s4, s5⟩ := (by assumption : _ ∧ _ ∧ _ ∧ _ ∧ _ ∧ _); have hne := N2a.out; have hne' := N2b.out; with_reducible exact ⟨cell_set3J s0 hne, cell_set3J s1 hne, cell_set3J s2 hne, cell_set3J s3 hne', cell_set3J s4 hne', cell_set3J s5 hne'⟩) | go_keep)) (first
      | (go_at_call 11; refine (TA.out _ (by first | with_reducible exact HD0.out | with_reducible exact HDZ.out)).mono ?_; rintro e wAx ⟨bA, hmA, hnA, rfl, hoA, hbA⟩; have HB1 : Hid (Below w2.heap.size w2 wAx) := (by show Below _ _ _; first | with_reducible exact HD0.out.trans (hbA.mono HD0.out.size) | with_reducible exact HDZ.out.trans (hbA.mono HDZ.out.size)); have PA := Lib.hid (Rd.of_own hoA (Nat.zero_le _) hnA (Nat.le_refl _) xs1.length); rw [List.take_of_length_le (by rw [iv_length]; exact Nat.le_refl _)] at PA; have EA := Lib.hid (E2.out.next HB1.out); have FA := Lib.hid (F2.out.next HB1.out); obtain ⟨d0, d1, d2, -⟩ := EA.out.box.three; obtain ⟨e0, e1, e2, -⟩ := FA.out.box.three; have N0a : Hid (w.heap.size ≠ w2.heap.size) := (by show _ ≠ _; have := HSZ.out; omega); have N0b : Hid (w.heap.size + 1 ≠ w2.heap.size) := (by show _ ≠ _; have := HSZ.out; omega); have N1a : Hid (w.heap.size ≠ wAx.heap.size) := (by show _ ≠ _; have := HSZ.out; have := HB1.out.size; omega); have N1b : Hid (w.heap.size + 1 ≠ wAx.heap.size) := (by show _ ≠ _; have := HSZ.out; have := HB1.out.size; omega); clear hmA hoA TA; (first | (have hz : Below (w2.alloc (.cells #[.int .i64 0, .bool false, .slice none 0 0] 26)).drew.heap.size (w2.alloc (.cells #[.int .i64 0, .bool false, .slice none 0 0] 26)).drew wAx := (by with_reducible exact hbA); have HZ := Lib.hid (z_oneJ hz)) | skip))
      | (go_at_call 11; refine (TB.out _ (by first | with_reducible exact HB1.out | with_reducible exact HB1.out.alloc HB1.out.size _)).mono ?_; rintro e wBx ⟨bB, hmB, hnB, rfl, hoB, hbB⟩; have HB2 : Hid (Below w2.heap.size w2 wBx) := (by show Below _ _ _; first | with_reducible exact HB1.out.trans (hbB.mono HB1.out.size) | with_reducible exact (HB1.out.alloc HB1.out.size _).trans (hbB.mono (HB1.out.alloc HB1.out.size _).size)); have PB := Lib.hid (Rd.of_own hoB (Nat.zero_le _) hnB (Nat.le_refl _) xs2.length); rw [List.take_of_length_le (by rw [iv_length]; exact Nat.le_refl _)] at PB; have PA2 : Hid (Ri 0 wAx.heap.size wBx (some ⟨bA, 0, none⟩) xs1) := (by show Ri _ _ _ _ _; first | with_reducible exact PA.out.bel hbB | with_reducible exact (PA.out.bel ((Below.refl _ _).alloc (Nat.le_refl _) _)).bel hbB); have EB := Lib.hid (E2.out.next HB2.out); have FB := Lib.hid (F2.out.next HB2.out); obtain ⟨f0, f1, f2, -⟩ := EB.out.box.three; obtain ⟨g0, g1, g2, -⟩ := FB.out.box.three; have N2a : Hid (w.heap.size ≠ wBx.heap.size) := (by show _ ≠ _; have := HSZ.out; have := HB2.out.size; omega); have N2b : Hid (w.heap.size + 1 ≠ wBx.heap.size) := (by show _ ≠ _; have := HSZ.out; have := HB2.out.size; omega); clear hmB hoB TB PA EA FA; (first | (have HZ := Lib.hid (HZ.out.below hbB HZ.out.lt)) | (have hz : Below (wAx.alloc (.cells #[.int .i64 0, .bool false, .slice none 0 0] 26)).heap.size (wAx.alloc (.cells #[.int .i64 0, .bool false, .slice none 0 0] 26)) wBx := (by with_reducible exact hbB); have HZ := Lib.hid (z_twoJ hz)) | skip))
      | (go_at_call 10; refine (S.out _ _ _ _ _ _ _ _ _ (by first | with_reducible exact PA2.out | with_reducible exact PA2.out.bel ((Below.refl _ _).alloc (Nat.le_refl _) _)) (by first | with_reducible exact PB.out | with_reducible exact PB.out.bel ((Below.refl _ _).alloc (Nat.le_refl _) _)) hl1 hl2').mono ?_; rintro e wCx ⟨v1, rfl, hO1, hbC⟩; obtain ⟨q1, k1, rfl, -⟩ := hO1.rd; rw [hn.out] at hO1 ⊢; have HB3 : Hid (Below w2.heap.size w2 wCx) := (by show Below _ _ _; first | with_reducible exact HB2.out.trans (hbC.mono HB2.out.size) | with_reducible exact (HB2.out.alloc HB2.out.size _).trans (hbC.mono (HB2.out.alloc HB2.out.size _).size)); have HO1 : Hid (Out w2.heap.size wCx (.slice q1 n k1) L) := (by show Out _ _ _ _; first | with_reducible exact hO1.mono HB2.out.size | with_reducible exact hO1.mono (HB2.out.alloc HB2.out.size _).size); have EC := Lib.hid (E2.out.next HB3.out); have FC := Lib.hid (F2.out.next HB3.out); obtain ⟨h0, h1, h2, -⟩ := EC.out.box.three; obtain ⟨i0, i1, i2, -⟩ := FC.out.box.three; (first | (have HZ := Lib.hid (HZ.out.below hbC HZ.out.lt)) | (have hz : Below (wBx.alloc (.cells #[.int .i64 0, .bool false, .slice none 0 0] 26)).heap.size (wBx.alloc (.cells #[.int .i64 0, .bool false, .slice none 0 0] 26)) wCx := (by with_reducible exact hbC); have HZ := Lib.hid (z_twoJ hz)) | skip); (try obtain ⟨z0, z1, z2, y0, y1, y2⟩ := HZ.out.three); clear hO1 PA2 PB EB FB))
    all_goals
      go_wp2_with fail
      go_meet
      first
        | (obtain ⟨f1, f2, f3⟩ := fin_boxJ (.int .i64 s') (.bool ring') (.slice q1 n k1) HZ.out rfl (by first | exact Nat.le_refl _ | exact HB1.out.size | exact HB2.out.size) HO1.out HB3.out; exact ⟨_, q1, k1, rfl, rfl, Lib.hid (by first | exact Nat.le_refl _ | exact HB1.out.size | exact HB2.out.size), Lib.hid f1, Lib.hid f2, Lib.hid f3⟩)
        | exact ⟨_, q1, k1, rfl, rfl, Lib.hid HB3.out.size, Lib.hid (OwnArr.made wCx 26 [.int .i64 s', .bool ring', .slice q1 n k1]), Lib.hid (World.ownsRow.alloc HO1.out _), Lib.hid (HB3.out.alloc HB3.out.size _)⟩
  case rest =>
  obtain ⟨g1, q1, k1, rfl, rfl, HG3, W3, RO3, HB3⟩ := hcut
  obtain ⟨w3, rfl⟩ : ∃ w3 : World, w3 = wc := ⟨_, rfl⟩
  obtain ⟨_, _, e1, -, -, hR1, -⟩ := RO3.out.rd
  simp only [Value.slice.injEq] at e1
  obtain ⟨rfl, -, rfl⟩ := e1
  have R3 := Lib.hid hR1
  have E3 := Lib.hid (E2.out.next HB3.out)
  have F3 := Lib.hid (F2.out.next HB3.out)
  clear E2 F2 HB3 S RO3 hR1 a0 a1 a2 b0 b1 b2
  obtain ⟨a0, a1, a2, -⟩ := E3.out.box.three
  have hg1 : g1 < w3.heap.size := W3.out.lt
  have hw3 : w.heap.size + 1 < w3.heap.size := F3.out.box.lt
  go_wp2_with fail
  refine (toRow_any s1 r1 p1 c1 xs1 _ _ _ E3.out.inn hl1).mono ?_
  rintro e w4 ⟨b4, hm4, hn4, rfl, ho4, hb4⟩
  have C4 := Lib.hid (Cpy.made (s := s1) (ring := r1) ho4 hm4)
  have hbx := (Below.refl _ w4).alloc (Nat.le_refl _) (.cells #[.int .i64 s1, .bool r1, .slice (some ⟨b4, 0, none⟩) xs1.length xs1.length] 26)
  have E5 := Lib.hid ((E3.out.next hb4).next hbx)
  have F5 := Lib.hid ((F3.out.next hb4).next hbx)
  have R5 := Lib.hid ((R3.out.bel hb4).bel hbx)
  have W5 := Lib.hid ((W3.out.below hb4 W3.out.lt).alloc (.cells #[.int .i64 s1, .bool r1, .slice (some ⟨b4, 0, none⟩) xs1.length xs1.length] 26))
  have h43 : w3.heap.size ≤ w4.heap.size := hb4.size
  clear E3 F3 hb4 ho4 a0 a1 a2 hbx R3 W3 HG3
  obtain ⟨b0, b1, b2, -⟩ := F5.out.box.three
  go_wp2_with fail
  refine (toRow_any s2 r2 p2 c2 xs2 _ _ _ F5.out.inn hl2').mono ?_
  rintro e w6 ⟨b6, hm6, hn6, rfl, ho6, hb6⟩
  have D7 := Lib.hid (Cpy.made (s := s2) (ring := r2) ho6 hm6)
  have hbx := (Below.refl _ w6).alloc (Nat.le_refl _) (.cells #[.int .i64 s2, .bool r2, .slice (some ⟨b6, 0, none⟩) xs2.length xs2.length] 26)
  have E7 := Lib.hid ((E5.out.next hb6).next hbx)
  have F7 := Lib.hid ((F5.out.next hb6).next hbx)
  have R7 := Lib.hid ((R5.out.bel hb6).bel hbx)
  have C7 := Lib.hid ((C4.out.next hb6).next hbx)
  have W7 := Lib.hid ((W5.out.below hb6 W5.out.lt).alloc (.cells #[.int .i64 s2, .bool r2, .slice (some ⟨b6, 0, none⟩) xs2.length xs2.length] 26))
  have h64 : w4.heap.size + 1 ≤ w6.heap.size := by have := hb6.size; simpa using this
  clear E5 F5 hb6 ho6 b0 b1 b2 hbx R5 W5 C4
  obtain ⟨x0, x1, x2, -⟩ := C7.out.box.three
  go_wp2_with fail
  refine (I.out _ _ _ _ _ _ _ _ _ C7.out.ri D7.out.ri hl1 hl2').mono ?_
  rintro e w8 ⟨v2, rfl, hO2, hb8⟩
  obtain ⟨q2, k2, rfl, -, -, hR2, hW2⟩ := hO2.rd
  have hbG := (Below.refl _ w8).alloc (Nat.le_refl _) (.cells #[.int .i64 s', .bool ring', .slice q2 L.length k2] 26)
  have E9 := Lib.hid ((E7.out.next hb8).next hbG)
  have F9 := Lib.hid ((F7.out.next hb8).next hbG)
  have C9 := Lib.hid ((C7.out.next hb8).next hbG)
  have D9 := Lib.hid ((D7.out.next hb8).next hbG)
  have R9 := Lib.hid ((R7.out.bel hb8).bel hbG)
  have W9 := Lib.hid ((W7.out.below hb8 W7.out.lt).below hbG (W7.out.below hb8 W7.out.lt).lt)
  have Q9 := Lib.hid (hR2.bel hbG)
  have O9 := Lib.hid (hW2.bel hbG)
  have G9 := Lib.hid (OwnArr.made w8 26 [.int .i64 s', .bool ring', .slice q2 L.length k2])
  have h86 : w6.heap.size + 1 ≤ w8.heap.size := by have := hb8.size; simpa using this
  rw [hn.out] at E9 F9 C9 D9 R9 W9 Q9 O9 G9 ⊢
  clear E7 F7 C7 D7 hb8 hO2 hR2 hW2 R7 W7 hbG x0 x1 x2
  have EQ := Lib.hid (fun (qa qb : Option Addr) (ca cb : Nat) (w' : World) (l1 h1 l2 h2 : Nat) (x : Ri l1 h1 w' qa L) (y : Ri l2 h2 w' qb L) => eqRow_same s' ring' qa qb ca cb L w' l1 h1 l2 h2 x y (by rw [hn.out]; omega))
  rw [hn.out] at EQ
  obtain ⟨g0, g1', g2, -⟩ := G9.out.three
  obtain ⟨k0, k1', k2', -⟩ := W9.out.three
  go_wp2_with fail
  refine (EQ.out _ _ _ _ _ _ _ _ _ Q9.out R9.out).mono ?_
  rintro e w10 ⟨rfl, hb10⟩
  have E10 := Lib.hid (E9.out.next hb10)
  have F10 := Lib.hid (F9.out.next hb10)
  have C10 := Lib.hid (C9.out.next hb10)
  have D10 := Lib.hid (D9.out.next hb10)
  have R10 := Lib.hid (R9.out.bel hb10)
  have W10 := Lib.hid (W9.out.below hb10 W9.out.lt)
  have G10 := Lib.hid (G9.out.below hb10 G9.out.lt)
  have Q10 := Lib.hid (Q9.out.bel hb10)
  have O10 := Lib.hid (O9.out.bel hb10)
  clear g0 g1' g2 k0 k1' k2'
  obtain ⟨a0, a1, a2, -⟩ := E10.out.box.three
  obtain ⟨x0, x1, x2, -⟩ := C10.out.box.three
  clear E9 F9 C9 D9 R9 W9 G9 Q9 O9 hb10
  go_upto_region 14 with fail
  go_cut [58] (fun v wx => v = .bool false ∧ Hid (Below w10.heap.size w10 wx))
  case first =>
    have hE := E10.out.next ((Below.refl _ w10).drew)
    have hC := C10.out.next ((Below.refl _ w10).drew)
    have T6 := Lib.hid (toRow_any s1 r1 p1 c1 xs1 w10.drew _ _ hE.inn hl1)
    have HC := Lib.hid hC
    have HW := Lib.hid ((Below.refl w10.heap.size w10).drew)
    clear hE hC
    go_region_with (first
      | (go_at_call 11; refine T6.out.mono ?_; rintro e w8 ⟨b8, hm8, hn8, rfl, ho8, hb8⟩; have HW8 := Lib.hid (HW.out.trans hb8); have C8 := Lib.hid (HC.out.next hb8); have P8 := Lib.hid (Rd.of_own ho8 hm8 hn8 (Nat.le_refl _) xs1.length); rw [List.take_of_length_le (by rw [iv_length]; exact Nat.le_refl _)] at P8; obtain ⟨d0, d1, d2, -⟩ := C8.out.box.three; clear ho8 hb8)
      | (go_at_call 13; refine (eqRow_same s1 r1 _ _ _ _ xs1 _ _ _ _ _ C8.out.ri P8.out (by omega)).mono ?_; rintro e w9 ⟨rfl, hb9⟩; have HW9 := Lib.hid (HW8.out.trans (hb9.mono HW8.out.size))))
    all_goals
      go_wp2_with fail
      go_meet
      exact ⟨rfl, HW9⟩
  case rest =>
  obtain ⟨rfl, HW⟩ := hcut
  have E11 := Lib.hid (E10.out.next HW.out)
  have F11 := Lib.hid (F10.out.next HW.out)
  have C11 := Lib.hid (C10.out.next HW.out)
  have D11 := Lib.hid (D10.out.next HW.out)
  have R11 := Lib.hid (R10.out.bel HW.out)
  have W11 := Lib.hid (W10.out.below HW.out W10.out.lt)
  have G11 := Lib.hid (G10.out.below HW.out G10.out.lt)
  have Q11 := Lib.hid (Q10.out.bel HW.out)
  have O11 := Lib.hid (O10.out.bel HW.out)
  clear a0 a1 a2 x0 x1 x2 HW E10 F10 C10 D10 R10 W10 G10 Q10 O10
  obtain ⟨wd, rfl⟩ : ∃ wd : World, wd = wc := ⟨_, rfl⟩
  obtain ⟨b0, b1, b2, -⟩ := F11.out.box.three
  obtain ⟨x0, x1, x2, -⟩ := D11.out.box.three
  go_upto_region 16 with fail
  go_cut [63] (fun v wx => v = .bool false ∧ Hid (Below wd.heap.size wd wx))
  case first =>
    have hE := F11.out.next ((Below.refl _ wd).drew)
    have hC := D11.out.next ((Below.refl _ wd).drew)
    have T6 := Lib.hid (toRow_any s2 r2 p2 c2 xs2 wd.drew _ _ hE.inn hl2')
    have HC := Lib.hid hC
    have HW := Lib.hid ((Below.refl wd.heap.size wd).drew)
    clear hE hC
    go_region_with (first
      | (go_at_call 11; refine T6.out.mono ?_; rintro e w8 ⟨b8, hm8, hn8, rfl, ho8, hb8⟩; have HW8 := Lib.hid (HW.out.trans hb8); have C8 := Lib.hid (HC.out.next hb8); have P8 := Lib.hid (Rd.of_own ho8 hm8 hn8 (Nat.le_refl _) xs2.length); rw [List.take_of_length_le (by rw [iv_length]; exact Nat.le_refl _)] at P8; obtain ⟨d0, d1, d2, -⟩ := C8.out.box.three; clear ho8 hb8)
      | (go_at_call 13; refine (eqRow_same s2 r2 _ _ _ _ xs2 _ _ _ _ _ C8.out.ri P8.out (by omega)).mono ?_; rintro e w9 ⟨rfl, hb9⟩; have HW9 := Lib.hid (HW8.out.trans (hb9.mono HW8.out.size))))
    all_goals
      go_wp2_with fail
      go_meet
      exact ⟨rfl, HW9⟩
  case rest =>
  obtain ⟨rfl, HW⟩ := hcut
  have E12 := Lib.hid (E11.out.next HW.out)
  have F12 := Lib.hid (F11.out.next HW.out)
  have C12 := Lib.hid (C11.out.next HW.out)
  have D12 := Lib.hid (D11.out.next HW.out)
  have R12 := Lib.hid (R11.out.bel HW.out)
  have W12 := Lib.hid (W11.out.below HW.out W11.out.lt)
  have G12 := Lib.hid (G11.out.below HW.out G11.out.lt)
  have Q12 := Lib.hid (Q11.out.bel HW.out)
  have O12 := Lib.hid (O11.out.bel HW.out)
  clear b0 b1 b2 x0 x1 x2 HW E11 F11 C11 D11 R11 W11 G11 Q11 O11
  obtain ⟨w12, rfl⟩ : ∃ w12 : World, w12 = wc := ⟨_, rfl⟩
  obtain ⟨x0, x1, x2, -⟩ := C12.out.box.three
  have MR := Lib.hid (markRow_any s1 r1 (some ⟨b4, 0, none⟩) _ _ xs1.length xs1.length 1 w12 C12.out.own (by omega))
  obtain ⟨K, hK⟩ : ∃ K, 1 + xs1.length = K := ⟨_, rfl⟩
  rw [hK] at MR
  go_wp2_with fail
  refine MR.out.mono ?_
  rintro e w13 ⟨rfl, -, -, hk13⟩
  have E13 := Lib.hid (E12.out.keep hk13 (by omega))
  have F13 := Lib.hid (F12.out.keep hk13 (by omega))
  have D13 := Lib.hid (D12.out.keep hk13 (by simp) (by omega))
  have R13 := Lib.hid (R12.out.keep hk13 (.inl (by omega)))
  have W13 := Lib.hid (stayJ W12.out hk13 (.inl (by omega)))
  have G13 := Lib.hid (stayJ G12.out hk13 (.inr (by omega)))
  have Q13 := Lib.hid (Q12.out.keep hk13 (.inr (by simp; omega)))
  have O13 := Lib.hid (O12.out.keep hk13 (.inr (by simp; omega)))
  clear x0 x1 x2 C12 D12 E12 F12 R12 W12 G12 Q12 O12 MR hk13
  obtain ⟨x0, x1, x2, -⟩ := D13.out.box.three
  have MR := Lib.hid (markRow_any s2 r2 (some ⟨b6, 0, none⟩) _ _ xs2.length xs2.length K w13 D13.out.own (by omega))
  obtain ⟨K2, hK2⟩ : ∃ K2, K + xs2.length = K2 := ⟨_, rfl⟩
  rw [hK2] at MR
  have hK0 : ¬ (K2 : Int) < 0 := by omega
  go_wp2_with fail
  refine MR.out.mono ?_
  rintro e w14 ⟨rfl, -, -, hk14⟩
  have E14 := Lib.hid (E13.out.keep hk14 (by simp; omega))
  have F14 := Lib.hid (F13.out.keep hk14 (by simp; omega))
  have R14 := Lib.hid (R13.out.keep hk14 (.inl (by simp; omega)))
  have W14 := Lib.hid (stayJ W13.out hk14 (.inl (by simp; omega)))
  have G14 := Lib.hid (stayJ G13.out hk14 (.inr (by omega)))
  have Q14 := Lib.hid (Q13.out.keep hk14 (.inr (by simp)))
  have O14 := Lib.hid (O13.out.keep hk14 (.inr (by simp)))
  clear x0 x1 x2 D13 E13 F13 R13 W13 G13 Q13 O13 MR hk14
  obtain ⟨g0, g1', g2, -⟩ := G14.out.three
  obtain ⟨k0, k1', k2', -⟩ := W14.out.three
  go_wp2_with fail
  refine (EQ.out _ _ _ _ _ _ _ _ _ Q14.out R14.out).mono ?_
  rintro e w15 ⟨rfl, hb15⟩
  have E15 := Lib.hid (E14.out.next hb15)
  have F15 := Lib.hid (F14.out.next hb15)
  have R15 := Lib.hid (R14.out.bel hb15)
  have W15 := Lib.hid (W14.out.below hb15 W14.out.lt)
  have G15 := Lib.hid (G14.out.below hb15 G14.out.lt)
  have O15 := Lib.hid (O14.out.bel hb15)
  clear E14 F14 R14 Q14 O14 W14 G14 hb15 g0 g1' g2 k0 k1' k2'
  obtain ⟨g0, g1', g2, -⟩ := G15.out.three
  have MI := Lib.hid (markRow_any s' ring' q2 _ _ n k2 1 w15 O15.out (by omega))
  obtain ⟨M, hM⟩ : ∃ M, 1 + n = M := ⟨_, rfl⟩
  rw [hM] at MI
  have hM0 : ¬ (M : Int) < 0 := by omega
  go_wp2_with fail
  refine MI.out.mono ?_
  rintro e w16 ⟨rfl, hq16, -, hk16⟩
  have E16 := Lib.hid (E15.out.keep hk16 (by simp; omega))
  have F16 := Lib.hid (F15.out.keep hk16 (by simp; omega))
  have R16 := Lib.hid (R15.out.keep hk16 (.inl (by simp; omega)))
  have W16 := Lib.hid (stayJ W15.out hk16 (.inl (by simp; omega)))
  have G16 := Lib.hid (stayJ G15.out hk16 (.inr (Nat.le_refl _)))
  have Q16 := Lib.hid hq16
  clear E15 F15 R15 O15 W15 G15 MI hq16 hk16 g0 g1' g2
  have HI := Lib.hid (fun w' (la ha : Nat) (h : Ri la ha w' q2 (mk 1 n)) => heldRow_any s' ring' q2 la ha n k2 1 w' h (by omega))
  rw [hM] at HI
  obtain ⟨g0, g1', g2, -⟩ := G16.out.three
  go_wp2_with fail
  refine (HI.out _ _ _ Q16.out).mono ?_
  rintro e w17 ⟨rfl, hb17⟩
  have E17 := Lib.hid (E16.out.next hb17)
  have F17 := Lib.hid (F16.out.next hb17)
  have R17 := Lib.hid (R16.out.bel hb17)
  have W17 := Lib.hid (W16.out.below hb17 W16.out.lt)
  have G17 := Lib.hid (G16.out.below hb17 G16.out.lt)
  have Q17 := Lib.hid (Q16.out.bel hb17)
  clear E16 F16 R16 Q16 W16 G16 hb17 g0 g1' g2
  obtain ⟨a0, a1, a2, -⟩ := E17.out.box.three
  obtain ⟨b0, b1, b2, -⟩ := F17.out.box.three
  go_upto_region 31 with fail
  go_cut [15, 16] (fun v u wx => ∃ g q1 k1, v = .pointer (some ⟨g, 0, none⟩) ∧ u = .bool B ∧ Hid (w17.heap.size ≤ g) ∧ Hid (OwnArr wx g 26 [.int .i64 s', .bool ring', .slice q1 n k1]) ∧ Hid (Out w17.heap.size wx (.slice q1 n k1) L) ∧ Hid (Below w17.heap.size w17 wx))
  case first =>
    have HD0 := Lib.hid ((Below.refl w17.heap.size w17).drew)
    have HDZ : Hid (Below w17.heap.size w17 (w17.alloc (.cells #[.int .i64 0, .bool false, .slice none 0 0] 26)).drew) := by show Below _ _ _; exact ((Below.refl _ _).alloc (Nat.le_refl _) _).drew
    have HSZ : Hid (w.heap.size + 2 ≤ w17.heap.size) := by show _ ≤ _; have := F17.out.box.lt; omega
    have TA := Lib.hid (fun (w' : World) (h' : Below w17.heap.size w17 w') => toRow_any s1 r1 p1 c1 xs1 w' _ _ (E17.out.next h').inn hl1)
    have TB := Lib.hid (fun (w' : World) (h' : Below w17.heap.size w17 w') => toRow_any s2 r2 p2 c2 xs2 w' _ _ (F17.out.next h').inn hl2')
    go_region_held3 (fun w' => w'.cell? ⟨w.heap.size, 0, none⟩ = some (.int .i64 s1) ∧ w'.cell? ⟨w.heap.size, 1, none⟩ = some (.bool r1) ∧ w'.cell? ⟨w.heap.size, 2, none⟩ = some (.slice p1 xs1.length c1) ∧ w'.cell? ⟨w.heap.size + 1, 0, none⟩ = some (.int .i64 s2) ∧ w'.cell? ⟨w.heap.size + 1, 1, none⟩ = some (.bool r2) ∧ w'.cell? ⟨w.heap.size + 1, 2, none⟩ = some (.slice p2 xs2.length c2)) ((first | with_reducible exact ⟨a0, a1, a2, b0, b1, b2⟩ | with_reducible exact ⟨d0, d1, d2, e0, e1, e2⟩ | with_reducible exact ⟨f0, f1, f2, g0, g1, g2⟩ | with_reducible exact ⟨h0, h1, h2, i0, i1, i2⟩ | (obtain ⟨s0, s1, s2, s3, s4, s5⟩ := (by assumption : _ ∧ _ ∧ _ ∧ _ ∧ _ ∧ _); with_reducible exact ⟨cell_allocJ s0, cell_allocJ s1, cell_allocJ s2, cell_allocJ s3, cell_allocJ s4, cell_allocJ s5⟩) | (obtain ⟨s0, s1, s2, s3, s4, s5⟩ := (by assumption : _ ∧ _ ∧ _ ∧ _ ∧ _ ∧ _); have hne := N0a.out; have hne' := N0b.out; with_reducible exact ⟨cell_set3J s0 hne, cell_set3J s1 hne, cell_set3J s2 hne, cell_set3J s3 hne', cell_set3J s4 hne', cell_set3J s5 hne'⟩) | (obtain ⟨s0, s1, s2, s3, s4, s5⟩ := (by assumption : _ ∧ _ ∧ _ ∧ _ ∧ _ ∧ _); have hne := N1a.out; have hne' := N1b.out; with_reducible exact ⟨cell_set3J s0 hne, cell_set3J s1 hne, cell_set3J s2 hne, cell_set3J s3 hne', cell_set3J s4 hne', cell_set3J s5 hne'⟩) | (obtain ⟨s0, s1, s2, s3, s4, s5⟩ := (by assumption : _ ∧ _ ∧ _ ∧ _ ∧ _ ∧ _); have hne := N2a.out; have hne' := N2b.out; with_reducible exact ⟨cell_set3J s0 hne, cell_set3J s1 hne, cell_set3J s2 hne, cell_set3J s3 hne', cell_set3J s4 hne', cell_set3J s5 hne'⟩) | go_keep)) (first
      | (go_at_call 11; refine (TA.out _ (by first | with_reducible exact HD0.out | with_reducible exact HDZ.out)).mono ?_; rintro e wAy ⟨bA, hmA, hnA, rfl, hoA, hbA⟩; have HB1 : Hid (Below w17.heap.size w17 wAy) := (by show Below _ _ _; first | with_reducible exact HD0.out.trans (hbA.mono HD0.out.size) | with_reducible exact HDZ.out.trans (hbA.mono HDZ.out.size)); have PA := Lib.hid (Rd.of_own hoA (Nat.zero_le _) hnA (Nat.le_refl _) xs1.length); rw [List.take_of_length_le (by rw [iv_length]; exact Nat.le_refl _)] at PA; have EA := Lib.hid (E17.out.next HB1.out); have FA := Lib.hid (F17.out.next HB1.out); obtain ⟨d0, d1, d2, -⟩ := EA.out.box.three; obtain ⟨e0, e1, e2, -⟩ := FA.out.box.three; have N0a : Hid (w.heap.size ≠ w17.heap.size) := (by show _ ≠ _; have := HSZ.out; omega); have N0b : Hid (w.heap.size + 1 ≠ w17.heap.size) := (by show _ ≠ _; have := HSZ.out; omega); have N1a : Hid (w.heap.size ≠ wAy.heap.size) := (by show _ ≠ _; have := HSZ.out; have := HB1.out.size; omega); have N1b : Hid (w.heap.size + 1 ≠ wAy.heap.size) := (by show _ ≠ _; have := HSZ.out; have := HB1.out.size; omega); clear hmA hoA TA; (first | (have hz : Below (w17.alloc (.cells #[.int .i64 0, .bool false, .slice none 0 0] 26)).drew.heap.size (w17.alloc (.cells #[.int .i64 0, .bool false, .slice none 0 0] 26)).drew wAy := (by with_reducible exact hbA); have HZ := Lib.hid (z_oneJ hz)) | skip))
      | (go_at_call 11; refine (TB.out _ (by first | with_reducible exact HB1.out | with_reducible exact HB1.out.alloc HB1.out.size _)).mono ?_; rintro e wBy ⟨bB, hmB, hnB, rfl, hoB, hbB⟩; have HB2 : Hid (Below w17.heap.size w17 wBy) := (by show Below _ _ _; first | with_reducible exact HB1.out.trans (hbB.mono HB1.out.size) | with_reducible exact (HB1.out.alloc HB1.out.size _).trans (hbB.mono (HB1.out.alloc HB1.out.size _).size)); have PB := Lib.hid (Rd.of_own hoB (Nat.zero_le _) hnB (Nat.le_refl _) xs2.length); rw [List.take_of_length_le (by rw [iv_length]; exact Nat.le_refl _)] at PB; have PA2 : Hid (Ri 0 wAy.heap.size wBy (some ⟨bA, 0, none⟩) xs1) := (by show Ri _ _ _ _ _; first | with_reducible exact PA.out.bel hbB | with_reducible exact (PA.out.bel ((Below.refl _ _).alloc (Nat.le_refl _) _)).bel hbB); have EB := Lib.hid (E17.out.next HB2.out); have FB := Lib.hid (F17.out.next HB2.out); obtain ⟨f0, f1, f2, -⟩ := EB.out.box.three; obtain ⟨g0, g1, g2, -⟩ := FB.out.box.three; have N2a : Hid (w.heap.size ≠ wBy.heap.size) := (by show _ ≠ _; have := HSZ.out; have := HB2.out.size; omega); have N2b : Hid (w.heap.size + 1 ≠ wBy.heap.size) := (by show _ ≠ _; have := HSZ.out; have := HB2.out.size; omega); clear hmB hoB TB PA EA FA; (first | (have HZ := Lib.hid (HZ.out.below hbB HZ.out.lt)) | (have hz : Below (wAy.alloc (.cells #[.int .i64 0, .bool false, .slice none 0 0] 26)).heap.size (wAy.alloc (.cells #[.int .i64 0, .bool false, .slice none 0 0] 26)) wBy := (by with_reducible exact hbB); have HZ := Lib.hid (z_twoJ hz)) | skip))
      | (go_at_call 12; refine (I.out _ _ _ _ _ _ _ _ _ (by first | with_reducible exact PA2.out | with_reducible exact PA2.out.bel ((Below.refl _ _).alloc (Nat.le_refl _) _)) (by first | with_reducible exact PB.out | with_reducible exact PB.out.bel ((Below.refl _ _).alloc (Nat.le_refl _) _)) hl1 hl2').mono ?_; rintro e wCy ⟨v1, rfl, hO1, hbC⟩; obtain ⟨q1, k1, rfl, -⟩ := hO1.rd; rw [hn.out] at hO1 ⊢; have HB3 : Hid (Below w17.heap.size w17 wCy) := (by show Below _ _ _; first | with_reducible exact HB2.out.trans (hbC.mono HB2.out.size) | with_reducible exact (HB2.out.alloc HB2.out.size _).trans (hbC.mono (HB2.out.alloc HB2.out.size _).size)); have HO1 : Hid (Out w17.heap.size wCy (.slice q1 n k1) L) := (by show Out _ _ _ _; first | with_reducible exact hO1.mono HB2.out.size | with_reducible exact hO1.mono (HB2.out.alloc HB2.out.size _).size); have EC := Lib.hid (E17.out.next HB3.out); have FC := Lib.hid (F17.out.next HB3.out); obtain ⟨h0, h1, h2, -⟩ := EC.out.box.three; obtain ⟨i0, i1, i2, -⟩ := FC.out.box.three; (first | (have HZ := Lib.hid (HZ.out.below hbC HZ.out.lt)) | (have hz : Below (wBy.alloc (.cells #[.int .i64 0, .bool false, .slice none 0 0] 26)).heap.size (wBy.alloc (.cells #[.int .i64 0, .bool false, .slice none 0 0] 26)) wCy := (by with_reducible exact hbC); have HZ := Lib.hid (z_twoJ hz)) | skip); (try obtain ⟨z0, z1, z2, y0, y1, y2⟩ := HZ.out.three); clear hO1 PA2 PB EB FB))
    all_goals
      go_wp2_with fail
      go_meet
      first
        | (obtain ⟨f1, f2, f3⟩ := fin_boxJ (.int .i64 s') (.bool ring') (.slice q1 n k1) HZ.out rfl (by first | exact Nat.le_refl _ | exact HB1.out.size | exact HB2.out.size) HO1.out HB3.out; exact ⟨_, q1, k1, rfl, rfl, Lib.hid (by first | exact Nat.le_refl _ | exact HB1.out.size | exact HB2.out.size), Lib.hid f1, Lib.hid f2, Lib.hid f3⟩)
        | exact ⟨_, q1, k1, rfl, rfl, Lib.hid HB3.out.size, Lib.hid (OwnArr.made wCy 26 [.int .i64 s', .bool ring', .slice q1 n k1]), Lib.hid (World.ownsRow.alloc HO1.out _), Lib.hid (HB3.out.alloc HB3.out.size _)⟩
  case rest =>
  obtain ⟨g3, q3, k3, rfl, rfl, HG18, P18, PO18, HB18⟩ := hcut
  obtain ⟨w18, rfl⟩ : ∃ w18 : World, w18 = wc := ⟨_, rfl⟩
  obtain ⟨_, _, e3, -, -, hR3, -⟩ := PO18.out.rd
  simp only [Value.slice.injEq] at e3
  obtain ⟨rfl, -, rfl⟩ := e3
  have T18 := Lib.hid hR3
  have E18 := Lib.hid (E17.out.next HB18.out)
  have R18 := Lib.hid (R17.out.bel HB18.out)
  have W18 := Lib.hid (W17.out.below HB18.out W17.out.lt)
  have G18 := Lib.hid (G17.out.below HB18.out G17.out.lt)
  have Q18 := Lib.hid (Q17.out.bel HB18.out)
  clear E17 F17 R17 W17 G17 Q17 HB18 I PO18 hR3 a0 a1 a2 b0 b1 b2
  obtain ⟨k0, k1', k2', -⟩ := W18.out.three
  obtain ⟨m0, m1, m2, -⟩ := P18.out.three
  go_wp2_with fail
  refine (EQ.out _ _ _ _ _ _ _ _ _ T18.out R18.out).mono ?_
  rintro e w19 ⟨rfl, hb19⟩
  have E19 := Lib.hid (E18.out.next hb19)
  have G19 := Lib.hid (G18.out.below hb19 G18.out.lt)
  have Q19 := Lib.hid (Q18.out.bel hb19)
  clear E18 R18 Q18 W18 G18 P18 T18 hb19 EQ k0 k1' k2' m0 m1 m2
  obtain ⟨g0, g1', g2, -⟩ := G19.out.three
  go_wp2_with fail
  refine (HI.out _ _ _ Q19.out).mono ?_
  rintro e w20 ⟨rfl, hb20⟩
  have E20 := Lib.hid (E19.out.next hb20)
  go_wp2_with fail
  go_ret
  exact ⟨rfl, E20.out.bel⟩

end Go.Proofs.Ytidiljnonbkpjaa.joinSeats
