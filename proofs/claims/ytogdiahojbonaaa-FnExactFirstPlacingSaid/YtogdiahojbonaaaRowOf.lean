/- impl.rowOf: the Row with some marks, for at most 1048576 of them. -/
import Derived.Test.YtogdiahojbonaaaMarks
import Derived.Test.YtogdiahojbonaaaNe
import Derived.Test.YtogdiahojbonaaaRowI
import Derived.Lib.SmallJoins
namespace Go.Proofs.Ytogdiahojbonaaa
open Go.RowKit

set_option maxRecDepth 4000 in
set_option maxHeartbeats 2000000 in
theorem rowOf_any (n : Nat) (ring : Bool) (q : Option Addr) (qcap : Nat) (f : Nat → Bool) (w : World) (lo hi' : Nat) (hin : Rd lo hi' w q (bv (bl n f))) (hn : n ≤ 1048576) (B : Bool) (hB : rowB n ring (ints (tk n f)) = B) :
    Calls Try.prog 59 #[.bool ring, .slice q n qcap] w fun e w' => ∃ v, e = .returned (.tuple #[if B then .agg #[.int .i64 n, .bool ring, v] else .agg #[.int .i64 0, .bool false, .slice none 0 0], .bool B]) ∧ (B = true → Out w.heap.size w' v (ints (tk n f))) ∧ Below w.heap.size w w' := by
  obtain ⟨i0, hi, hz0, hz1, hz2⟩ := info_parts infoInt
  obtain ⟨w2, hw2⟩ : ∃ w2, w2 = ((w.alloc (.cells #[Value.int .i64 0, Value.bool false, Value.slice none 0 0] 28)).alloc (.cells #[] 3)).alloc (.cells #[Value.int .i64 n, Value.bool ring, Value.slice (some ⟨w.heap.size + 1, 0, none⟩) 0 0] 28) := ⟨_, rfl⟩
  have hZ : OwnArr w2 w.heap.size 28 [.int .i64 0, .bool false, .slice none 0 0] := by rw [hw2]; exact ((OwnArr.mk' rfl rfl).alloc _).alloc _
  have hX : OwnArr w2 (w.heap.size + 1 + 1) 28 [.int .i64 n, .bool ring, .slice (some ⟨w.heap.size + 1, 0, none⟩) 0 0] := by rw [hw2]; exact OwnArr.mk' rfl (by simp)
  have hb0 : Below w.heap.size w w2 := by rw [hw2]; exact ((((Below.refl _ w).alloc (Nat.le_refl _) _).alloc (by simp) _).alloc (by simp; omega) _)
  have hO : Out (w.heap.size + 1) w2 (.slice (some ⟨w.heap.size + 1, 0, none⟩) 0 0) [] := by
    have h := Out.nilLit (w.alloc (.cells #[Value.int .i64 0, Value.bool false, Value.slice none 0 0] 28))
    have hs : (w.alloc (.cells #[Value.int .i64 0, Value.bool false, Value.slice none 0 0] 28)).heap.size = w.heap.size + 1 := by simp
    rw [hs] at h
    rw [hw2]
    exact h.below ((Below.refl _ _).alloc (Nat.le_refl _) _)
  have HZ0 := Lib.hid hZ
  have HX0 := Lib.hid hX
  have HB0 := Lib.hid hb0
  have HO0 := Lib.hid hO
  have HIN := Lib.hid hin
  clear hZ hX hb0 hO hin
  replace hB := Lib.hid hB
  subst hw2
  go_enter Try.func59, Try.ntmps59
  go_wp2_with fail
  go_loopw [7, 8, 16] (fun _ _ i wr => ∃ (k : Nat) (v : Value), k ≤ n ∧ i = .int .i64 k ∧ Hid (OwnArr wr (w.heap.size + 1 + 1) 28 [.int .i64 n, .bool ring, v]) ∧ Hid (OwnArr wr w.heap.size 28 [.int .i64 0, .bool false, .slice none 0 0]) ∧ Hid (Out (w.heap.size + 1) wr v (ints (tk k f))) ∧ Hid (Below w.heap.size w wr)) (fun _ _ i _ => n - (intOf i).toNat)
  case atStart => exact ⟨0, _, Nat.zero_le _, rfl, HX0, HZ0, HO0, HB0⟩
  case round =>
    obtain ⟨k, v, hk, rfl, HX, HZ, HO, HB⟩ := hrel
    clear HX0 HZ0 HO0 HB0
    obtain ⟨c0, c1, c2, f0, f1, f2⟩ := HX.out.three
    by_cases hlt : k < n
    · have hk1 : (k : Int) < (n : Int) := by omega
      obtain ⟨b, off, rfl, -, hb1, hc⟩ := HIN.out.cells (by rw [bv_length, bl_length]; omega)
      have hbw : b < w.heap.size := Nat.lt_of_lt_of_le hb1 HIN.out.top
      have h0 := (HB.out.cell (p := ⟨b, off + k, none⟩) hbw).trans (hc k (by rw [bv_length, bl_length]; exact hlt))
      rw [bv_get (by rw [bl_length]; exact hlt), bl_getD hlt] at h0
      clear hc
      obtain ⟨t, ht⟩ : ∃ t, f k = t := ⟨_, rfl⟩
      rw [ht] at h0
      cases t with
      | true =>
        have HT := Lib.hid (ints_tk_yes ht)
        have HL := Lib.hid (ints_tk_len k f)
        have hne1 := Lib.hid (own_ne HO.out HX.out)
        have hne2 := Lib.hid (own_ne HO.out HZ.out)
        have hblk := Lib.hid (own_block HO.out)
        obtain ⟨l, vs, hl, hvs, hown⟩ := HO.out.open'
        have hlk := HL.out
        rw [hl] at hlk
        have hsz2 := HX.out.lt
        replace hl := Lib.hid hl
        replace hvs := Lib.hid hvs
        clear ht
        go_wp2_with (at_builtin; refine wpList_append_own _ rfl _ _ 22 rfl (w.heap.size + 1) 3 i0 (.int .i64 0) 1 8 Try.underlying22 hi hz0 hz1 hz2 rfl (by decide) _ _ _ rfl (hown.alloc _) ⟨wr.heap.size, 0, none⟩ 1 1 [.int .i64 (k : Int)] rfl rfl (cell_one_new _ _ _) (fun x hx => by simp at hx; subst hx; rfl) (by unfold maxLen; omega) (by omega) (by simp; omega) ?_; intro v' w3 hown' hgrow3 hnil3; obtain ⟨g', cp', rfl⟩ := Go.Joins.ownsRow_form hown' (by omega); have HX3 := Lib.hid (OwnArr.grown (HX.out.alloc _) hgrow3 hne1.out); have HZ3 := Lib.hid (OwnArr.grown (HZ.out.alloc _) hgrow3 hne2.out); obtain ⟨d0, d1, d2, g0, g1, g2⟩ := HX3.out.three)
        have hG : Below w.heap.size wr w3 := ((Below.refl w.heap.size wr).alloc (by omega) _).grown hgrow3 (by simp; omega) (fun k' h' => by have := hblk.out k' h'; omega)
        have HO3 : Hid (Out (w.heap.size + 1) w3 (.slice (some ⟨g', 0, none⟩) (l + 1) cp') (ints (tk (k + 1) f))) := by
          show Out _ _ _ _
          rw [HT.out]; exact Out.close hl.out hvs.out hown'
        have hne3 := Lib.hid (own_ne HO3.out HX3.out)
        have HX4 := Lib.hid (HX3.out.set 2 (.slice (some ⟨g', 0, none⟩) (l + 1) cp'))
        have HZ4 := Lib.hid (HZ3.out.other (a := ⟨w.heap.size + 1 + 1, 2, none⟩) (by show w.heap.size ≠ w.heap.size + 1 + 1; omega) (.slice (some ⟨g', 0, none⟩) (l + 1) cp'))
        have HO4 := Lib.hid (HO3.out.other (a := ⟨w.heap.size + 1 + 1, 2, none⟩) hne3.out (.slice (some ⟨g', 0, none⟩) (l + 1) cp'))
        have HB4 := Lib.hid ((HB.out.trans hG).setCell (p := ⟨w.heap.size + 1 + 1, 2, none⟩) (by show _ ≤ w.heap.size + 1 + 1; omega) (.slice (some ⟨g', 0, none⟩) (l + 1) cp'))
        clear hown' hgrow3 hnil3 hown hG HO3 HX3 HZ3 hne3 HX HZ HO HB
        go_wp2_with fail
        go_roundw
        case rel => exact ⟨k + 1, _, by omega, by go_num, HX4, HZ4, HO4, HB4⟩
        case measure => simp [intOf]; omega
      | false =>
        have HT := Lib.hid (ints_tk_no ht)
        clear ht
        have ho3 := HO.out
        rw [← HT.out] at ho3
        have HO3 := Lib.hid ho3
        clear ho3 HO
        go_wp2_with fail
        go_roundw
        case rel => exact ⟨k + 1, v, by omega, by go_num, HX, HZ, HO3, HB⟩
        case measure => simp [intOf]; omega
    · have hkn : k = n := by omega
      subst hkn
      obtain ⟨qa, qc, rfl, -, -, hR, -⟩ := HO.out.rd
      have HO2 := Lib.hid HO.out
      have R := Lib.hid (isRow_any k ring qa qc (ints (tk k f)) wr _ _ hR (by have := ints_tk_len k f; omega))
      rw [hB.out] at R
      obtain ⟨m, hm⟩ : ∃ m, (ints (tk k f)).length = m := ⟨_, rfl⟩
      rw [hm] at R HO2 HX
      rw [hm] at c2
      clear HO hR hm
      cases B with
      | true =>
        go_wp2_with fail
        refine R.out.mono ?_
        rintro e w3 ⟨rfl, hb3⟩
        have HX3 := Lib.hid (HX.out.below hb3 HX.out.lt)
        have HZ3 := Lib.hid (HZ.out.below hb3 HZ.out.lt)
        have HO3 := Lib.hid (HO2.out.below hb3)
        have HB3 := Lib.hid (HB.out.trans (hb3.mono HB.out.size))
        clear HX HZ HO2 HB hb3 R c0 c1 c2 f0 f1 f2
        obtain ⟨d0, d1, d2, -⟩ := HX3.out.three
        obtain ⟨z0, z1, z2, y0, y1, y2⟩ := HZ3.out.three
        go_wp2_with fail
        refine ret_row2 Try.results59 rfl rfl (((HZ3.out.set 0 _).set 1 _).set 2 _) rfl ⟨_, rfl, ?_, ?_⟩
        · have hne := own_ne HO3.out HZ3.out
          exact ((((HO3.out.other (a := ⟨w.heap.size, 0, none⟩) hne _).other (a := ⟨w.heap.size, 1, none⟩) hne _).other (a := ⟨w.heap.size, 2, none⟩) hne _).mono (Nat.le_succ _))
        · exact ((HB3.out.setCell (Nat.le_refl _) _).setCell (Nat.le_refl _) _).setCell (Nat.le_refl _) _
      | false =>
        go_wp2_with fail
        refine R.out.mono ?_
        rintro e w3 ⟨rfl, hb3⟩
        have HZ3 := Lib.hid (HZ.out.below hb3 HZ.out.lt)
        have HB3 := Lib.hid (HB.out.trans (hb3.mono HB.out.size))
        clear HX HZ HO2 HB hb3 R c0 c1 c2 f0 f1 f2
        obtain ⟨z0, z1, z2, y0, y1, y2⟩ := HZ3.out.three
        go_wp2_with fail
        refine ret_row2 Try.results59 rfl rfl (((HZ3.out.set 0 _).set 1 _).set 2 _) rfl ⟨rfl, ?_⟩
        exact ((HB3.out.setCell (Nat.le_refl _) _).setCell (Nat.le_refl _) _).setCell (Nat.le_refl _) _
end Go.Proofs.Ytogdiahojbonaaa
