/- Neighbors: spec.l2Near gives nearM on valid Rows, in memory of the call's own. -/
import Derived.Test.YtidiljnonbkpjaaGapS
import Derived.Test.YtidiljnonbkpjaaOut
namespace Go.Proofs.Ytidiljnonbkpjaa
open Go.RowKit

set_option maxRecDepth 4000 in
set_option maxHeartbeats 1000000 in
theorem nearS_any (n : Nat) (ring : Bool) (p : Option Addr) (m cap : Nat) (a : Nat) (w : World) (hn : n ≤ 24) (ha : a < n) :
    Calls Try.prog 74 #[rowV n ring p m cap, .int .i64 a] w fun e w' => ∃ v, e = .returned v ∧ Out (w.heap.size + 1) w' v (ints (nearM n ring a)) ∧ Below w.heap.size w w' := by
  obtain ⟨i0, hi, hz0, hz1, hz2⟩ := info_parts infoInt
  have hb0 := box_below w n ring p m cap 26
  obtain ⟨w0, hw0⟩ : ∃ w0, w0 = w.alloc (.cells #[Value.int .i64 n, Value.bool ring, Value.slice p m cap] 26) := ⟨_, rfl⟩
  have hX0 : OwnArr w0 w.heap.size 26 [.int .i64 n, .bool ring, .slice p m cap] := by rw [hw0]; exact OwnArr.made w _ [_, _, _]
  have hs0 : w0.heap.size = w.heap.size + 1 := by rw [hw0]; simp
  rw [← hw0] at hb0
  have hO0 := Out.nilLit w0
  rw [hs0] at hO0
  have hb1 : Below w.heap.size w (w0.alloc (.cells #[] 3)) := hb0.alloc hb0.size _
  have HX0 := Lib.hid (hX0.alloc (.cells #[] 3))
  have HO0 := Lib.hid hO0
  have HB0 := Lib.hid hb1
  clear hX0 hb0 hO0 hb1 hs0
  subst hw0
  obtain ⟨T, hT⟩ : ∃ T : Nat → Bool, (fun q => decide (gapM n ring a q = 1)) = T := ⟨_, rfl⟩
  have hT' : ∀ q, T q = decide (gapM n ring a q = 1) := fun q => by rw [← hT]
  unfold nearM
  rw [hT]
  replace hT' := Lib.hid hT'
  clear hT
  go_enter Try.func74, Try.ntmps74
  go_wp2_with fail
  go_loopw [5, 6] (fun v i wr => ∃ (k : Nat), k ≤ n ∧ i = .int .i64 k ∧ Hid (OwnArr wr w.heap.size 26 [.int .i64 n, .bool ring, .slice p m cap]) ∧ Hid (Out (w.heap.size + 1) wr v (ints (tk k T))) ∧ Hid (Below w.heap.size w wr)) (fun _ i _ => n - (intOf i).toNat)
  case atStart => exact ⟨0, Nat.zero_le _, rfl, HX0, HO0, HB0⟩
  case round =>
    obtain ⟨k, hk, rfl, HX, HO, HB⟩ := hrel
    clear HX0 HO0 HB0
    obtain ⟨c0, c1, c2, -⟩ := HX.out.three
    by_cases hlt : k < n
    · have hk1 : (k : Int) < (n : Int) := by omega
      have G := Lib.hid (gapS_any n ring p m cap a k wr hn ha hlt)
      have hTk := hT'.out k
      obtain ⟨g, hg⟩ : ∃ g, gapM n ring a k = g := ⟨_, rfl⟩
      rw [hg] at G hTk
      clear hg
      go_wp2_with fail
      refine G.out.mono ?_
      rintro e w2 ⟨rfl, hb2⟩
      have HX2 := Lib.hid (HX.out.below hb2 HX.out.lt)
      have HO2 := Lib.hid (HO.out.below hb2)
      have HB2 := Lib.hid (HB.out.trans (hb2.mono HB.out.size))
      clear HX HO HB hb2 c0 c1 c2
      by_cases hg1 : g = 1
      · have HT := Lib.hid (ints_tk_yes (k := k) (T := T) (by rw [hTk]; simpa using hg1))
        have HL := Lib.hid (ints_tk_len k T)
        clear hTk
        have hblk := Lib.hid (own_block HO2.out)
        obtain ⟨l, vs, hl, hvs, hown⟩ := HO2.out.open'
        have hlk := HL.out
        rw [hl] at hlk
        have hsz2 := HX2.out.lt
        replace hl := Lib.hid hl
        replace hvs := Lib.hid hvs
        go_wp2_with (at_builtin; refine wpList_append_own _ rfl _ _ 22 rfl (w.heap.size + 1) 3 i0 (.int .i64 0) 1 8 Try.underlying22 hi hz0 hz1 hz2 rfl (by decide) _ _ _ rfl (hown.alloc _) ⟨w2.heap.size, 0, none⟩ 1 1 [.int .i64 (k : Int)] rfl rfl (cell_one_new _ _ _) (fun x hx => by simp at hx; subst hx; rfl) (by unfold maxLen; omega) (by omega) (by simp; omega) ?_; intro v' w3 hown' hgrow3 hnil3)
        have hG : Below (w.heap.size + 1) w2 w3 := ((Below.refl (w.heap.size + 1) w2).alloc (by omega) _).grown hgrow3 (by simp; omega) hblk.out
        have HX3 := Lib.hid (HX2.out.below hG (Nat.lt_succ_self _))
        have HB3 := Lib.hid (HB2.out.trans (hG.mono (Nat.le_succ _)))
        have HO3 : Hid (Out (w.heap.size + 1) w3 v' (ints (tk (k + 1) T))) := by
          show Out _ _ _ _
          rw [HT.out]; exact Out.close hl.out hvs.out hown'
        clear hown' hgrow3 hnil3 hown hG
        go_wp2
        go_roundw
        case rel => exact ⟨k + 1, by omega, by go_num, HX3, HO3, HB3⟩
        case measure => simp [intOf]; omega
      · have HT := Lib.hid (ints_tk_no (k := k) (T := T) (by rw [hTk]; simpa using hg1))
        clear hTk
        have HO3 : Hid (Out (w.heap.size + 1) w2 u5 (ints (tk (k + 1) T))) := by
          show Out _ _ _ _
          rw [HT.out]; exact HO2.out
        go_wp2_with fail
        go_roundw
        case rel => exact ⟨k + 1, by omega, by go_num, HX2, HO3, HB2⟩
        case measure => simp [intOf]; omega
    · have hkn : k = n := by omega
      subst hkn
      go_wp2
      go_ret
      exact ⟨_, rfl, HO.out, HB.out⟩
end Go.Proofs.Ytidiljnonbkpjaa
