/- impl.fillBy: a Row filled by an order. -/
import Derived.Test.YtidiljnonbkpjaaPlaces
import Derived.Test.YtidiljnonbkpjaaLonI
import Derived.Test.YtidiljnonbkpjaaTakeF
import Derived.Test.YtidiljnonbkpjaaFillM
namespace Go.Proofs.Ytidiljnonbkpjaa
open Go.RowKit

set_option maxRecDepth 4000 in
set_option maxHeartbeats 4000000 in
theorem fillBy_any (n : Nat) (ring : Bool) (p : Option Addr) (cap : Nat) (S : Nat → Bool) (l : List Nat) (q : Option Addr) (c : Nat) (w : World) (lo hi lo2 hi2 : Nat) (hin : Ri lo hi w p (ints (tk n S))) (h2 : 2 ≤ n) (hn : n ≤ 12) (h3 : ring = true → 3 ≤ n) (hin2 : Ri lo2 hi2 w q (ints l)) (hl : ∀ x ∈ l, x < n) (hll : l.length ≤ 1000) :
    Calls Try.prog 53 #[rowV n ring p (ints (tk n S)).length cap, .slice q (ints l).length c] w fun e w' => ∃ v, e = .returned (.agg #[.int .i64 n, .bool ring, v]) ∧ Out w.heap.size w' v (ints (tk n (fillM n ring S l))) ∧ Below w.heap.size w w' := by
  have hE := Beg.start w n ring p (ints (tk n S)).length cap
  obtain ⟨wb, hwb⟩ : ∃ wb, (w.alloc (.cells #[Value.int .i64 n, Value.bool ring, Value.slice p (ints (tk n S)).length cap] 26)).alloc (.cells #[Value.int .i64 0, Value.bool false, Value.slice none 0 0] 26) = wb := ⟨_, rfl⟩
  rw [hwb] at hE
  have hsb : wb.heap.size = w.heap.size + 2 := by rw [← hwb]; simp
  have PO := Lib.hid (fun (w' : World) (h' : Below w.heap.size w w') => placesOf_any n ring p cap S w' lo hi (hin.below h' hin.top) hn)
  have PR := Lib.hid (fun (m : Nat) (w' : World) => plRow_any n ring p m cap (fun k => decide (k ∈ tk n S)) w' h2 hn h3)
  have hTS : tk n (fun k => decide (k ∈ tk n S)) = tk n S := tk_congr (fun k hk => by
    cases hS : S k with
    | true => exact decide_eq_true (mem_tk.2 ⟨hk, hS⟩)
    | false => exact decide_eq_false (fun h => by rw [(mem_tk.1 h).2] at hS; cases hS))
  rw [hTS] at PR
  obtain ⟨PV, hPV⟩ : ∃ PV, plV (fun k => decide (k ∈ tk n S)) = PV := ⟨_, rfl⟩
  rw [hPV] at PO PR
  have HI2 := Lib.hid hin2
  have HL := Lib.hid hl
  have HLN := Lib.hid (ints_tk_len n S)
  obtain ⟨m0, hm⟩ : ∃ m, (ints (tk n S)).length = m := ⟨_, rfl⟩
  rw [hm] at PO hE hwb HLN ⊢
  have HM := Lib.hid hm
  obtain ⟨m, hlm⟩ : ∃ m, (ints l).length = m := ⟨_, rfl⟩
  rw [hlm]
  have hlm2 : l.length = m := by rw [← hlm, ints_length]
  have HLM := Lib.hid hlm2
  have hm9 : m ≤ 1000 := by omega
  have HE := Lib.hid hE
  have HW := Lib.hid hwb
  have HSB := Lib.hid hsb
  have HEd := Lib.hid (HE.out.next ((Below.refl _ wb).drew))
  have HD0 := Lib.hid ((Below.refl wb.heap.size wb).drew)
  have HDZ : Hid (Below wb.heap.size wb (wb.alloc (.cells #[.int .i64 0, .bool false, .slice none 0 0] 26)).drew) := by show Below _ _ _; exact ((Below.refl _ _).alloc (Nat.le_refl _) _).drew
  clear hE hin hin2 hl hll hlm hlm2 hsb hwb hTS hPV hm
  obtain ⟨c0, c1, c2, -⟩ := HE.out.row.three
  go_enter Try.func53, Try.ntmps53
  go_upto_region 1 with fail
  rw [HW.out]
  go_cut [5] (fun v wx => ∃ g q c, v = .pointer (some ⟨g, 0, none⟩) ∧ Hid (wb.heap.size ≤ g) ∧ Hid (OwnArr wx g 26 [.int .i64 n, .bool ring, .slice q m0 c]) ∧ Hid (Out wb.heap.size wx (.slice q m0 c) (ints (tk n S))) ∧ Hid (Below wb.heap.size wb wx))
  case first =>
    go_region_held3 (fun w' => w'.cell? ⟨w.heap.size, 0, none⟩ = some (.int .i64 n) ∧ w'.cell? ⟨w.heap.size, 1, none⟩ = some (.bool ring) ∧ w'.cell? ⟨w.heap.size, 2, none⟩ = some (.slice p m0 cap)) ((first | with_reducible exact ⟨c0, c1, c2⟩ | with_reducible exact ⟨d0, d1, d2⟩ | with_reducible exact ⟨e0, e1, e2⟩ | (obtain ⟨s0, s1, s2⟩ := (by assumption : _ ∧ _ ∧ _); with_reducible exact ⟨cell_allocP s0, cell_allocP s1, cell_allocP s2⟩) | (obtain ⟨s0, s1, s2⟩ := (by assumption : _ ∧ _ ∧ _); have hne := N0.out; with_reducible exact ⟨cell_set3P s0 hne, cell_set3P s1 hne, cell_set3P s2 hne⟩) | (obtain ⟨s0, s1, s2⟩ := (by assumption : _ ∧ _ ∧ _); have hne := N1.out; with_reducible exact ⟨cell_set3P s0 hne, cell_set3P s1 hne, cell_set3P s2 hne⟩) | go_keep)) (first
      | (go_at_call 59; refine (PO.out _ (by first | with_reducible exact HEd.out.bel | exact HE.out.bel.trans (HDZ.out.mono HE.out.bel.size))).mono ?_; rintro e wm ⟨rfl, hbm⟩; have HBm : Hid (Below wb.heap.size wb wm) := (by show Below _ _ _; first | with_reducible exact HD0.out.trans (hbm.mono HD0.out.size) | with_reducible exact HDZ.out.trans (hbm.mono HDZ.out.size)); have HEm := Lib.hid (HE.out.next HBm.out); obtain ⟨d0, d1, d2, -⟩ := HEm.out.row.three; have N0 : Hid (w.heap.size ≠ wb.heap.size) := (by show _ ≠ _; have := HSB.out; omega); have N1 : Hid (w.heap.size ≠ wm.heap.size) := (by show _ ≠ _; have := HSB.out; have := HBm.out.size; omega); (first | (have hz : Below (wb.alloc (.cells #[.int .i64 0, .bool false, .slice none 0 0] 26)).drew.heap.size (wb.alloc (.cells #[.int .i64 0, .bool false, .slice none 0 0] 26)).drew wm := (by with_reducible exact hbm); have HZ := Lib.hid (z_oneP hz)) | skip))
      | (go_at_call 63; refine (PR.out _ _).mono ?_; rintro e wr ⟨v, rfl, hO, hbr⟩; obtain ⟨q, c, rfl, -⟩ := hO.rd; rw [HM.out] at hO ⊢; have HBr : Hid (Below wb.heap.size wb wr) := (by show Below _ _ _; first | with_reducible exact HBm.out.trans (hbr.mono HBm.out.size) | with_reducible exact (HBm.out.alloc HBm.out.size _).trans (hbr.mono (HBm.out.alloc HBm.out.size _).size)); have HOr : Hid (Out wb.heap.size wr (.slice q m0 c) (ints (tk n S))) := (by show Out _ _ _ _; first | with_reducible exact hO.mono HBm.out.size | with_reducible exact hO.mono (HBm.out.alloc HBm.out.size _).size); have HEr := Lib.hid (HE.out.next HBr.out); obtain ⟨e0, e1, e2, -⟩ := HEr.out.row.three; (first | (have HZ := Lib.hid (HZ.out.below hbr HZ.out.lt)) | (have hz : Below (wm.alloc (.cells #[.int .i64 0, .bool false, .slice none 0 0] 26)).heap.size (wm.alloc (.cells #[.int .i64 0, .bool false, .slice none 0 0] 26)) wr := (by with_reducible exact hbr); have HZ := Lib.hid (z_twoP hz)) | skip); (try obtain ⟨z0, z1, z2, y0, y1, y2⟩ := HZ.out.three); clear hO))
    all_goals
      go_wp2_with fail
      go_meet
      first
        | (obtain ⟨f1, f2, f3⟩ := fin_boxP (.int .i64 n) (.bool ring) (.slice q m0 c) HZ.out rfl (by first | exact Nat.le_refl _ | exact HBm.out.size) HOr.out HBr.out; exact ⟨_, q, c, rfl, Lib.hid (by first | exact Nat.le_refl _ | exact HBm.out.size), Lib.hid f1, Lib.hid f2, Lib.hid f3⟩)
        | exact ⟨_, q, c, rfl, Lib.hid HBr.out.size, Lib.hid (OwnArr.made wr 26 [.int .i64 n, .bool ring, .slice q m0 c]), Lib.hid (World.ownsRow.alloc HOr.out _), Lib.hid (HBr.out.alloc HBr.out.size _)⟩
  case rest =>
    obtain ⟨g, qx, cx, rfl, HG0, HX0, HO0, HB⟩ := hcut
    have HE0 := Lib.hid (HE.out.next HB.out)
    have hg2 : w.heap.size + 2 ≤ g := by have := HG0.out; have := HSB.out; omega
    have HO0' : Hid (Out (w.heap.size + 2) wc (.slice qx m0 cx) (ints (tk n S))) := by show Out _ _ _ _; exact HO0.out.mono (by have := HSB.out; omega)
    clear HB HE HEd HD0 HDZ PO PR HW HG0 HO0 c0 c1 c2 HSB
    go_wp2_with fail
    go_loopw [14, 7] (fun i _ wr => ∃ (j : Nat) (T : Nat → Bool) (qx : Option Addr) (k cx : Nat), j ≤ m ∧ i = .int .i64 j ∧ Hid ((ints (tk n T)).length = k) ∧ Hid (T = fillM n ring S (l.take j)) ∧ Hid (Beg w n ring p m0 cap wr) ∧ Hid (OwnArr wr g 26 [.int .i64 n, .bool ring, .slice qx k cx]) ∧ Hid (Out (w.heap.size + 2) wr (.slice qx k cx) (ints (tk n T)))) (fun i _ _ => m - (intOf i).toNat)
    case atStart => exact ⟨0, S, qx, m0, cx, Nat.zero_le _, rfl, HM, Lib.hid rfl, HE0, HX0, HO0'⟩
    case round =>
      obtain ⟨j, T, qx, k, cx, hj, rfl, HK, HT, HE, HX, HO⟩ := hrel
      clear HE0 HX0 HO0' HM
      obtain ⟨x0, x1, x2, f0, f1, f2⟩ := HX.out.three
      by_cases hlt : j < m
      · have hjl : j < l.length := by have := HLM.out; omega
        obtain ⟨b, off, rfl, -, -, hbw, hc⟩ := HI2.out.int (by rw [ints_length]; omega)
        have h0 := (HE.out.bel.cell (p := ⟨b, off + j, none⟩) hbw).trans (hc j (by rw [ints_length]; exact hjl))
        rw [ints_get hjl] at h0
        have hyn := HL.out _ (nat_mem hjl)
        have hst := fillM_step n ring S hjl
        obtain ⟨y, hy⟩ : ∃ y, l[j]?.getD 0 = y := ⟨_, rfl⟩
        rw [hy] at h0 hyn hst
        rw [← HT.out] at hst
        have hl0 := HO.out.riP
        have LI := isLonely_any n ring qx cx T y wr _ _ hl0 h2 (by omega) h3 hyn
        rw [HK.out] at LI
        obtain ⟨B, hB⟩ : ∃ B, lonM n ring T y = B := ⟨_, rfl⟩
        rw [hB] at LI hst
        replace LI := Lib.hid LI
        have HST := Lib.hid hst
        have hT0 : B = true → T y = false := by
          intro e; subst e
          unfold lonM at hB
          rw [Bool.and_eq_true] at hB
          simpa using hB.1
        have ht0 : (0 : Int) ≤ (j : Int) := by omega
        have ht1 : (j : Int) < (m : Int) := by omega
        replace hT0 := Lib.hid hT0
        clear hc hy hst hB hl0
        go_wp2_with fail
        refine LI.out.mono ?_
        rintro e w1 ⟨rfl, hb1⟩
        have HE1 := Lib.hid (HE.out.next hb1)
        have HX1 := Lib.hid (HX.out.below hb1 HX.out.lt)
        have HO1 := Lib.hid (HO.out.below hb1)
        clear hb1 HE HX HO x0 x1 x2 f0 f1 f2 LI
        cases B with
        | true =>
          have hTy := hT0.out rfl
          have TI := takeI_any n ring qx cx T y w1 _ _ HO1.out.riP h2 (by omega) h3 hyn hTy
          rw [HK.out] at TI
          unfold MadeRow at TI
          obtain ⟨T2, hT2⟩ : ∃ T2 : Nat → Bool, (fun i => if i = y then true else T i) = T2 := ⟨_, rfl⟩
          rw [hT2] at TI
          have HT2 : Hid (T2 = fillM n ring S (l.take (j + 1))) := by
            show _ = _
            rw [HST.out, if_pos rfl]; exact hT2.symm
          replace TI := Lib.hid TI
          obtain ⟨x0, x1, x2, f0, f1, f2⟩ := HX1.out.three
          clear hT2 hTy
          go_wp2_with fail
          refine TI.out.mono ?_
          rintro e w2 ⟨v, rfl, hO2, hb2⟩
          obtain ⟨q2, c2, rfl, -⟩ := hO2.rd
          obtain ⟨k2, hk2⟩ : ∃ k2, (ints (tk n T2)).length = k2 := ⟨_, rfl⟩
          rw [hk2] at hO2 ⊢
          have HX2 := Lib.hid (HX1.out.below hb2 HX1.out.lt)
          have hfin := fin_boxP (.int .i64 n) (.bool ring) (.slice q2 k2 c2) HX2.out rfl hg2 (hO2.mono (by have := HE1.out.res.lt; omega : w.heap.size + 2 ≤ w1.heap.size)) (HE1.out.next hb2).bel2
          have HX3 := Lib.hid hfin.1
          have HO3 := Lib.hid hfin.2.1
          have HE3 := Lib.hid ((HE1.out.next hb2).next2 hfin.2.2)
          have HK2 := Lib.hid hk2
          clear hfin hO2 hb2 HX1 HO1 HE1 TI x0 x1 x2 f0 f1 f2 hk2
          obtain ⟨x0, x1, x2, f0, f1, f2⟩ := HX2.out.three
          go_wp2_with fail
          go_roundw
          case rel => exact ⟨j + 1, T2, q2, k2, c2, by omega, by go_num, HK2, HT2, HE3, HX3, HO3⟩
          case measure => simp [intOf]; omega
        | false =>
          have HT2 : Hid (T = fillM n ring S (l.take (j + 1))) := by
            show _ = _
            rw [HST.out, if_neg (by simp)]
          go_wp2_with fail
          go_roundw
          case rel => exact ⟨j + 1, T, qx, k, cx, by omega, by go_num, HK, HT2, HE1, HX1, HO1⟩
          case measure => simp [intOf]; omega
      · have hjm : j = m := by omega
        subst hjm
        have hto : l.take j = l := List.take_of_length_le (by rw [HLM.out]; exact Nat.le_refl _)
        have hT := HT.out
        rw [hto] at hT
        subst hT
        have ht1 : ¬ (j : Int) < (j : Int) := by omega
        obtain ⟨z0, z1, z2, y0, y1, y2⟩ := HE.out.res.three
        clear hto HT
        go_wp2_with fail
        exact ret_row Try.results53 rfl (HE.out.out _ _ _).1 rfl ⟨_, rfl, (HO.out.boxed HE.out.res _ _ _).mono (by omega), (HE.out.out _ _ _).2⟩
end Go.Proofs.Ytidiljnonbkpjaa
