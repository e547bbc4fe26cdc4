/- Chapter 6, impl side: a Row's wayOf. -/
import Derived.Test.YtfabannlebolfaaWayM6
import Derived.Test.YtfabannlebolfaaRowE6
import Derived.Test.YtfabannlebolfaaApp
import Derived.Test.YtfabannlebolfaaRowHelp
import Derived.BigQuiet
import Derived.IntWalk
namespace Go.Proofs.Ytfabannlebolfaa
open Go.RowKit

theorem drewN_below (w : World) (n : Nat) : Below w.heap.size w (w.drewN n) := ⟨rfl, rfl, rfl, Nat.le_refl _, fun _ _ => rfl⟩
theorem one_lit {B : Nat} (w : World) (a : Nat) (h : B ≤ w.heap.size) : Out B (w.alloc (.cells #[.int .i64 (a : Int)] 3)) (.slice (some ⟨w.heap.size, 0, none⟩) 1 1) (ints (way1 0 a 0)) :=
  Out.mono (B := w.heap.size) (own_lit [.int .i64 (a : Int)] 1 1 rfl (by unfold maxLen; omega)) h
theorem RowE.cells {w : World} {s : Int} {ring : Bool} {p : Option Addr} {m cap : Nat} {wr : World} (h : RowE w s ring p m cap wr) : wr.cell? ⟨w.heap.size, 0, none⟩ = some (.int .i64 s) ∧ wr.cell? ⟨w.heap.size, 1, none⟩ = some (.bool ring) ∧ wr.cell? ⟨w.heap.size, 2, none⟩ = some (.slice p m cap) := by
  obtain ⟨c0, c1, c2, -⟩ := h.row.three
  exact ⟨c0, c1, c2⟩
theorem ints_snoc (l : List Nat) (x : Nat) : ints (l ++ [x]) = ints l ++ [(x : Int)] := by rw [ints_append]; rfl

theorem ext1W (w : World) (o : Obj) : Below w.heap.size w (w.alloc o) := (Below.refl _ _).alloc (Nat.le_refl _) _

set_option maxRecDepth 4000 in
set_option maxHeartbeats 4000000 in
theorem wayOf_true_le (n : Nat) (p : Option Addr) (m cap : Nat) (a kk : Nat) (w : World) (hn : n ≤ 24) (ha : a < n) (hkk : kk ≤ 24) (hm : kk ≤ bhN n true a) :
    Calls Try.prog 64 #[rowV n true p m cap, .int .i64 (a : Nat), .int .i64 (kk : Nat)] w fun e w' => ∃ v, e = .returned v ∧ Out w.heap.size w' v (ints (wayM n true a kk)) ∧ Below w.heap.size w w' := by
  obtain ⟨i0, hi0, hz0, hz1, hz2⟩ := info_parts infoInt
  have hE := RowE.start w n true p m cap
  obtain ⟨w0, hw0⟩ : ∃ w0, w0 = w.alloc (.cells #[Value.int .i64 n, Value.bool true, Value.slice p m cap] 28) := ⟨_, rfl⟩
  have HW0 := Lib.hid hw0
  rw [← hw0] at hE
  have HE0 := Lib.hid hE
  obtain ⟨c0, c1, c2⟩ := hE.cells
  have hn0 : ¬ (n : Int) = 0 := by omega
  have hn00 : ¬ n = 0 := by omega
  have hw1 : IntKind.i64.wrap ((n : Int) - 1) = (n : Int) - 1 := IntWalk.i64_in _ (by omega)
  have hw2 : IntKind.i64.wrap ((n : Int) - 1 - (a : Int)) = (n : Int) - 1 - (a : Int) := IntWalk.i64_in _ (by omega)
  unfold wayM
  obtain ⟨bh, hbh⟩ : ∃ bh, bhN n true a = bh := ⟨_, rfl⟩
  obtain ⟨ah, hah⟩ : ∃ ah, ahN n true a = ah := ⟨_, rfl⟩
  rw [hbh, hah]
  rw [hbh] at hm
  have e1 : (n : Int) - 1 = (bh : Int) := by rw [← hbh]; unfold bhN; simp; omega
  have e2 : bh = ah := by rw [← hah, ← hbh]; rfl
  have hbl : bh ≤ 24 := by omega
  have hbk : bh + 1 = n := by omega
  clear hbh hah
  subst e2
  rw [Nat.min_eq_left hm]
  have hm1 : (kk : Int) ≤ (bh : Int) := by omega
  have hm2 : ¬ (bh : Int) < (kk : Int) := by omega
  have hm3 : ¬ bh < kk := by omega
  have hbk2 : kk + 1 ≤ a + n := by omega
  clear hE hw0 hm
  go_enter Try.func64, Try.ntmps64
  go_upto_region 1 with fail
  rw [← HW0.out]
  go_quiet (fail)
  have HE1 := Lib.hid (HE0.out.next (drewN_below w0 nq))
  obtain ⟨w1, hw1'⟩ : ∃ w1, w1 = w0.drewN nq := ⟨_, rfl⟩
  rw [← hw1'] at HE1 ⊢
  clear HE0 HW0 c0 c1 c2 hw1'
  obtain ⟨c0, c1, c2⟩ := HE1.out.cells
  go_wp2_with fail
  go_quiet (fail)
  have HE0 := Lib.hid (HE1.out.next (drewN_below w1 nq))
  obtain ⟨w0', hw1'⟩ : ∃ w0', w0' = w1.drewN nq := ⟨_, rfl⟩
  rw [← hw1'] at HE0 ⊢
  clear HE1 c0 c1 c2 hw1'
  obtain ⟨c0, c1, c2⟩ := HE0.out.cells
  have HE1 := Lib.hid (HE0.out.next (ext1W w0' (.cells #[.int .i64 (a : Int)] 3)))
  have HO1 : Hid (Out (w.heap.size + 1) (w0'.alloc (.cells #[.int .i64 (a : Int)] 3)) (.slice (some ⟨w0'.heap.size, 0, none⟩) 1 1) (ints (way1 n a 0))) := one_lit w0' a HE0.out.row.lt
  clear HE0
  go_wp2_with fail
  clear c0 c1 c2
  go_loopw [9, 31, 10] (fun v i _ wr => ∃ (t : Nat), t ≤ kk ∧ i = .int .i64 t ∧ Hid (Out (w.heap.size + 1) wr v (ints (way1 n a t))) ∧ Hid (RowE w n true p m cap wr)) (fun _ i _ _ => kk - (intOf i).toNat)
  case atStart => exact ⟨0, Nat.zero_le _, rfl, HO1, HE1⟩
  case round =>
    obtain ⟨t, ht, rfl, HO, HE⟩ := hrel
    clear HO1 HE1
    by_cases hlt : t < kk
    · have ht1 : (t : Int) < (kk : Int) := by omega
      have hx1 : IntKind.i64.wrap ((a : Int) + (n : Int)) = (a : Int) + (n : Int) := IntWalk.i64_in _ (by omega)
      have hx2 : IntKind.i64.wrap ((a : Int) + (n : Int) - 1) = (a : Int) + (n : Int) - 1 := IntWalk.i64_in _ (by omega)
      have hx3 : IntKind.i64.wrap ((a : Int) + (n : Int) - 1 - (t : Int)) = (a : Int) + (n : Int) - 1 - (t : Int) := IntWalk.i64_in _ (by omega)
      have hbt : t + 1 ≤ a + n := by omega
      have hmod : ((a : Int) + (n : Int) - 1 - (t : Int)).tmod (n : Int) = ((backM n a t : Nat) : Int) := by
        unfold backM
        rw [show (a : Int) + (n : Int) - 1 - (t : Int) = ((a + n - 1 - t : Nat) : Int) by omega, Int.ofNat_tmod]
      have hst := way1_succ n a t
      have hql : backM n a t < n := Nat.mod_lt _ (by omega)
      obtain ⟨q, hq⟩ : ∃ q, backM n a t = q := ⟨_, rfl⟩
      rw [hq] at hmod hst hql
      have hwq : IntKind.i64.wrap (q : Int) = (q : Int) := IntWalk.i64_in _ (by omega)
      have HST := Lib.hid hst
      obtain ⟨c0, c1, c2⟩ := HE.out.cells
      clear hq hst
      have hsz : w.heap.size + 1 ≤ wr.heap.size := HE.out.row.lt
      have hblk := Lib.hid (own_block HO.out)
      have hlen := way1_len n a t
      obtain ⟨l, vs, hl2, hvs, hown⟩ := HO.out.open'
      rw [ints_length, hlen] at hl2
      have hlk : l ≤ 100 := by omega
      replace hl2 : Hid _ := Lib.hid ((ints_length _).trans (hlen.trans hl2))
      replace hvs := Lib.hid hvs
      clear hlen
      go_wp2_with (at_builtin; refine wpList_append_own _ rfl _ _ 22 rfl (w.heap.size + 1) 3 i0 (.int .i64 0) 1 8 Try.underlying22 hi0 hz0 hz1 hz2 rfl (by decide) _ _ _ rfl (hown.alloc _) ⟨wr.heap.size, 0, none⟩ 1 1 [.int .i64 (q : Int)] rfl rfl (cell_one_new _ _ _) (fun x hx => by simp at hx; subst hx; rfl) (by unfold maxLen; omega) (by omega) (by simp; omega) ?_; intro v' w3 hown' hgrow3 hnil3)
      have hG : Below (w.heap.size + 1) wr w3 := ((Below.refl (w.heap.size + 1) wr).alloc hsz _).grown hgrow3 (by simp; omega) hblk.out
      have HE3 := Lib.hid (HE.out.next1 hG)
      have HO3 : Hid (Out (w.heap.size + 1) w3 v' (ints (way1 n a (t + 1)))) := by
        show Out _ _ _ _
        rw [HST.out, ints_snoc]
        exact Out.close hl2.out hvs.out hown'
      clear hown' hgrow3 hnil3 hown hG
      go_wp2_with fail
      go_roundw
      case rel => exact ⟨t + 1, by omega, by go_num, HO3, HE3⟩
      case measure => simp [intOf]; omega
    · have htz : kk = t := by omega
      subst htz
      have ht1 : ¬ (kk : Int) < (kk : Int) := by omega
      have HO1 : Hid (Out (w.heap.size + 1) wr u9 (ints (way2 n a kk 0))) := by show Out _ _ _ _; rw [way2_zero]; exact HO.out
      have HE1 := HE
      clear HO HE
      go_wp2_with fail
      go_loopw [9, 49, 11] (fun v i _ wr => ∃ (t : Nat), t ≤ bh ∧ i = .int .i64 t ∧ Hid (Out (w.heap.size + 1) wr v (ints (way2 n a kk t))) ∧ Hid (RowE w n true p m cap wr)) (fun _ i _ _ => bh - (intOf i).toNat)
      case atStart => exact ⟨0, Nat.zero_le _, rfl, HO1, HE1⟩
      case round =>
        obtain ⟨t, ht, rfl, HO, HE⟩ := hrel
        clear HO1 HE1
        by_cases hlt : t < bh
        · have ht1 : (t : Int) < (bh : Int) := by omega
          have hx1 : IntKind.i64.wrap ((a : Int) + 1) = (a : Int) + 1 := IntWalk.i64_in _ (by omega)
          have hx2 : IntKind.i64.wrap ((a : Int) + 1 + (t : Int)) = (a : Int) + 1 + (t : Int) := IntWalk.i64_in _ (by omega)
          have hmod : ((a : Int) + 1 + (t : Int)).tmod (n : Int) = ((aheadM n a t : Nat) : Int) := by
            unfold aheadM
            rw [show (a : Int) + 1 + (t : Int) = ((a + 1 + t : Nat) : Int) by omega, Int.ofNat_tmod]
          have hst := way2_succ n a kk t
          have hql : aheadM n a t < n := Nat.mod_lt _ (by omega)
          obtain ⟨q, hq⟩ : ∃ q, aheadM n a t = q := ⟨_, rfl⟩
          rw [hq] at hmod hst hql
          have hwq : IntKind.i64.wrap (q : Int) = (q : Int) := IntWalk.i64_in _ (by omega)
          have HST := Lib.hid hst
          obtain ⟨c0, c1, c2⟩ := HE.out.cells
          clear hq hst
          have hsz : w.heap.size + 1 ≤ wr.heap.size := HE.out.row.lt
          have hblk := Lib.hid (own_block HO.out)
          have hlen := way2_len n a kk t
          obtain ⟨l, vs, hl2, hvs, hown⟩ := HO.out.open'
          rw [ints_length, hlen] at hl2
          have hlk : l ≤ 100 := by omega
          replace hl2 : Hid _ := Lib.hid ((ints_length _).trans (hlen.trans hl2))
          replace hvs := Lib.hid hvs
          clear hlen
          go_wp2_with (at_builtin; refine wpList_append_own _ rfl _ _ 22 rfl (w.heap.size + 1) 3 i0 (.int .i64 0) 1 8 Try.underlying22 hi0 hz0 hz1 hz2 rfl (by decide) _ _ _ rfl (hown.alloc _) ⟨wr.heap.size, 0, none⟩ 1 1 [.int .i64 (q : Int)] rfl rfl (cell_one_new _ _ _) (fun x hx => by simp at hx; subst hx; rfl) (by unfold maxLen; omega) (by omega) (by simp; omega) ?_; intro v' w3 hown' hgrow3 hnil3)
          have hG : Below (w.heap.size + 1) wr w3 := ((Below.refl (w.heap.size + 1) wr).alloc hsz _).grown hgrow3 (by simp; omega) hblk.out
          have HE3 := Lib.hid (HE.out.next1 hG)
          have HO3 : Hid (Out (w.heap.size + 1) w3 v' (ints (way2 n a kk (t + 1)))) := by
            show Out _ _ _ _
            rw [HST.out, ints_snoc]
            exact Out.close hl2.out hvs.out hown'
          clear hown' hgrow3 hnil3 hown hG
          go_wp2_with fail
          go_roundw
          case rel => exact ⟨t + 1, by omega, by go_num, HO3, HE3⟩
          case measure => simp [intOf]; omega
        · have htz : bh = t := by omega
          subst htz
          have ht1 : ¬ (bh : Int) < (bh : Int) := by omega
          go_wp2_with fail
          go_ret
          exact ⟨_, rfl, HO.out.mono (by omega), HE.out.bel⟩

set_option maxRecDepth 4000 in
set_option maxHeartbeats 4000000 in
theorem wayOf_true_gt (n : Nat) (p : Option Addr) (m cap : Nat) (a kk : Nat) (w : World) (hn : n ≤ 24) (ha : a < n) (hkk : kk ≤ 24) (hm : ¬ kk ≤ bhN n true a) :
    Calls Try.prog 64 #[rowV n true p m cap, .int .i64 (a : Nat), .int .i64 (kk : Nat)] w fun e w' => ∃ v, e = .returned v ∧ Out w.heap.size w' v (ints (wayM n true a kk)) ∧ Below w.heap.size w w' := by
  obtain ⟨i0, hi0, hz0, hz1, hz2⟩ := info_parts infoInt
  have hE := RowE.start w n true p m cap
  obtain ⟨w0, hw0⟩ : ∃ w0, w0 = w.alloc (.cells #[Value.int .i64 n, Value.bool true, Value.slice p m cap] 28) := ⟨_, rfl⟩
  have HW0 := Lib.hid hw0
  rw [← hw0] at hE
  have HE0 := Lib.hid hE
  obtain ⟨c0, c1, c2⟩ := hE.cells
  have hn0 : ¬ (n : Int) = 0 := by omega
  have hn00 : ¬ n = 0 := by omega
  have hw1 : IntKind.i64.wrap ((n : Int) - 1) = (n : Int) - 1 := IntWalk.i64_in _ (by omega)
  have hw2 : IntKind.i64.wrap ((n : Int) - 1 - (a : Int)) = (n : Int) - 1 - (a : Int) := IntWalk.i64_in _ (by omega)
  unfold wayM
  obtain ⟨bh, hbh⟩ : ∃ bh, bhN n true a = bh := ⟨_, rfl⟩
  obtain ⟨ah, hah⟩ : ∃ ah, ahN n true a = ah := ⟨_, rfl⟩
  rw [hbh, hah]
  rw [hbh] at hm
  have e1 : (n : Int) - 1 = (bh : Int) := by rw [← hbh]; unfold bhN; simp; omega
  have e2 : bh = ah := by rw [← hah, ← hbh]; rfl
  have hbl : bh ≤ 24 := by omega
  have hbk : bh + 1 = n := by omega
  clear hbh hah
  subst e2
  rw [Nat.min_eq_right (by omega)]
  have hm1 : ¬ (kk : Int) ≤ (bh : Int) := by omega
  have hm2 : (bh : Int) < (kk : Int) := by omega
  have hm3 : bh < kk := by omega
  have hbk2 : bh + 1 ≤ a + n := by omega
  clear hE hw0 hm
  go_enter Try.func64, Try.ntmps64
  go_upto_region 1 with fail
  rw [← HW0.out]
  go_quiet (fail)
  have HE1 := Lib.hid (HE0.out.next (drewN_below w0 nq))
  obtain ⟨w1, hw1'⟩ : ∃ w1, w1 = w0.drewN nq := ⟨_, rfl⟩
  rw [← hw1'] at HE1 ⊢
  clear HE0 HW0 c0 c1 c2 hw1'
  obtain ⟨c0, c1, c2⟩ := HE1.out.cells
  go_wp2_with fail
  go_quiet (fail)
  have HE0 := Lib.hid (HE1.out.next (drewN_below w1 nq))
  obtain ⟨w0', hw1'⟩ : ∃ w0', w0' = w1.drewN nq := ⟨_, rfl⟩
  rw [← hw1'] at HE0 ⊢
  clear HE1 c0 c1 c2 hw1'
  obtain ⟨c0, c1, c2⟩ := HE0.out.cells
  have HE1 := Lib.hid (HE0.out.next (ext1W w0' (.cells #[.int .i64 (a : Int)] 3)))
  have HO1 : Hid (Out (w.heap.size + 1) (w0'.alloc (.cells #[.int .i64 (a : Int)] 3)) (.slice (some ⟨w0'.heap.size, 0, none⟩) 1 1) (ints (way1 n a 0))) := one_lit w0' a HE0.out.row.lt
  clear HE0
  go_wp2_with fail
  clear c0 c1 c2
  go_loopw [9, 31, 10] (fun v i _ wr => ∃ (t : Nat), t ≤ bh ∧ i = .int .i64 t ∧ Hid (Out (w.heap.size + 1) wr v (ints (way1 n a t))) ∧ Hid (RowE w n true p m cap wr)) (fun _ i _ _ => bh - (intOf i).toNat)
  case atStart => exact ⟨0, Nat.zero_le _, rfl, HO1, HE1⟩
  case round =>
    obtain ⟨t, ht, rfl, HO, HE⟩ := hrel
    clear HO1 HE1
    by_cases hlt : t < bh
    · have ht1 : (t : Int) < (bh : Int) := by omega
      have hx1 : IntKind.i64.wrap ((a : Int) + (n : Int)) = (a : Int) + (n : Int) := IntWalk.i64_in _ (by omega)
      have hx2 : IntKind.i64.wrap ((a : Int) + (n : Int) - 1) = (a : Int) + (n : Int) - 1 := IntWalk.i64_in _ (by omega)
      have hx3 : IntKind.i64.wrap ((a : Int) + (n : Int) - 1 - (t : Int)) = (a : Int) + (n : Int) - 1 - (t : Int) := IntWalk.i64_in _ (by omega)
      have hbt : t + 1 ≤ a + n := by omega
      have hmod : ((a : Int) + (n : Int) - 1 - (t : Int)).tmod (n : Int) = ((backM n a t : Nat) : Int) := by
        unfold backM
        rw [show (a : Int) + (n : Int) - 1 - (t : Int) = ((a + n - 1 - t : Nat) : Int) by omega, Int.ofNat_tmod]
      have hst := way1_succ n a t
      have hql : backM n a t < n := Nat.mod_lt _ (by omega)
      obtain ⟨q, hq⟩ : ∃ q, backM n a t = q := ⟨_, rfl⟩
      rw [hq] at hmod hst hql
      have hwq : IntKind.i64.wrap (q : Int) = (q : Int) := IntWalk.i64_in _ (by omega)
      have HST := Lib.hid hst
      obtain ⟨c0, c1, c2⟩ := HE.out.cells
      clear hq hst
      have hsz : w.heap.size + 1 ≤ wr.heap.size := HE.out.row.lt
      have hblk := Lib.hid (own_block HO.out)
      have hlen := way1_len n a t
      obtain ⟨l, vs, hl2, hvs, hown⟩ := HO.out.open'
      rw [ints_length, hlen] at hl2
      have hlk : l ≤ 100 := by omega
      replace hl2 : Hid _ := Lib.hid ((ints_length _).trans (hlen.trans hl2))
      replace hvs := Lib.hid hvs
      clear hlen
      go_wp2_with (at_builtin; refine wpList_append_own _ rfl _ _ 22 rfl (w.heap.size + 1) 3 i0 (.int .i64 0) 1 8 Try.underlying22 hi0 hz0 hz1 hz2 rfl (by decide) _ _ _ rfl (hown.alloc _) ⟨wr.heap.size, 0, none⟩ 1 1 [.int .i64 (q : Int)] rfl rfl (cell_one_new _ _ _) (fun x hx => by simp at hx; subst hx; rfl) (by unfold maxLen; omega) (by omega) (by simp; omega) ?_; intro v' w3 hown' hgrow3 hnil3)
      have hG : Below (w.heap.size + 1) wr w3 := ((Below.refl (w.heap.size + 1) wr).alloc hsz _).grown hgrow3 (by simp; omega) hblk.out
      have HE3 := Lib.hid (HE.out.next1 hG)
      have HO3 : Hid (Out (w.heap.size + 1) w3 v' (ints (way1 n a (t + 1)))) := by
        show Out _ _ _ _
        rw [HST.out, ints_snoc]
        exact Out.close hl2.out hvs.out hown'
      clear hown' hgrow3 hnil3 hown hG
      go_wp2_with fail
      go_roundw
      case rel => exact ⟨t + 1, by omega, by go_num, HO3, HE3⟩
      case measure => simp [intOf]; omega
    · have htz : bh = t := by omega
      subst htz
      have ht1 : ¬ (bh : Int) < (bh : Int) := by omega
      have HO1 : Hid (Out (w.heap.size + 1) wr u9 (ints (way2 n a bh 0))) := by show Out _ _ _ _; rw [way2_zero]; exact HO.out
      have HE1 := HE
      clear HO HE
      go_wp2_with fail
      go_loopw [9, 49, 11] (fun v i _ wr => ∃ (t : Nat), t ≤ bh ∧ i = .int .i64 t ∧ Hid (Out (w.heap.size + 1) wr v (ints (way2 n a bh t))) ∧ Hid (RowE w n true p m cap wr)) (fun _ i _ _ => bh - (intOf i).toNat)
      case atStart => exact ⟨0, Nat.zero_le _, rfl, HO1, HE1⟩
      case round =>
        obtain ⟨t, ht, rfl, HO, HE⟩ := hrel
        clear HO1 HE1
        by_cases hlt : t < bh
        · have ht1 : (t : Int) < (bh : Int) := by omega
          have hx1 : IntKind.i64.wrap ((a : Int) + 1) = (a : Int) + 1 := IntWalk.i64_in _ (by omega)
          have hx2 : IntKind.i64.wrap ((a : Int) + 1 + (t : Int)) = (a : Int) + 1 + (t : Int) := IntWalk.i64_in _ (by omega)
          have hmod : ((a : Int) + 1 + (t : Int)).tmod (n : Int) = ((aheadM n a t : Nat) : Int) := by
            unfold aheadM
            rw [show (a : Int) + 1 + (t : Int) = ((a + 1 + t : Nat) : Int) by omega, Int.ofNat_tmod]
          have hst := way2_succ n a bh t
          have hql : aheadM n a t < n := Nat.mod_lt _ (by omega)
          obtain ⟨q, hq⟩ : ∃ q, aheadM n a t = q := ⟨_, rfl⟩
          rw [hq] at hmod hst hql
          have hwq : IntKind.i64.wrap (q : Int) = (q : Int) := IntWalk.i64_in _ (by omega)
          have HST := Lib.hid hst
          obtain ⟨c0, c1, c2⟩ := HE.out.cells
          clear hq hst
          have hsz : w.heap.size + 1 ≤ wr.heap.size := HE.out.row.lt
          have hblk := Lib.hid (own_block HO.out)
          have hlen := way2_len n a bh t
          obtain ⟨l, vs, hl2, hvs, hown⟩ := HO.out.open'
          rw [ints_length, hlen] at hl2
          have hlk : l ≤ 100 := by omega
          replace hl2 : Hid _ := Lib.hid ((ints_length _).trans (hlen.trans hl2))
          replace hvs := Lib.hid hvs
          clear hlen
          go_wp2_with (at_builtin; refine wpList_append_own _ rfl _ _ 22 rfl (w.heap.size + 1) 3 i0 (.int .i64 0) 1 8 Try.underlying22 hi0 hz0 hz1 hz2 rfl (by decide) _ _ _ rfl (hown.alloc _) ⟨wr.heap.size, 0, none⟩ 1 1 [.int .i64 (q : Int)] rfl rfl (cell_one_new _ _ _) (fun x hx => by simp at hx; subst hx; rfl) (by unfold maxLen; omega) (by omega) (by simp; omega) ?_; intro v' w3 hown' hgrow3 hnil3)
          have hG : Below (w.heap.size + 1) wr w3 := ((Below.refl (w.heap.size + 1) wr).alloc hsz _).grown hgrow3 (by simp; omega) hblk.out
          have HE3 := Lib.hid (HE.out.next1 hG)
          have HO3 : Hid (Out (w.heap.size + 1) w3 v' (ints (way2 n a bh (t + 1)))) := by
            show Out _ _ _ _
            rw [HST.out, ints_snoc]
            exact Out.close hl2.out hvs.out hown'
          clear hown' hgrow3 hnil3 hown hG
          go_wp2_with fail
          go_roundw
          case rel => exact ⟨t + 1, by omega, by go_num, HO3, HE3⟩
          case measure => simp [intOf]; omega
        · have htz : bh = t := by omega
          subst htz
          have ht1 : ¬ (bh : Int) < (bh : Int) := by omega
          go_wp2_with fail
          go_ret
          exact ⟨_, rfl, HO.out.mono (by omega), HE.out.bel⟩

set_option maxRecDepth 4000 in
set_option maxHeartbeats 4000000 in
theorem wayOf_false_le (n : Nat) (p : Option Addr) (m cap : Nat) (a kk : Nat) (w : World) (hn : n ≤ 24) (ha : a < n) (hkk : kk ≤ 24) (hm : kk ≤ bhN n false a) :
    Calls Try.prog 64 #[rowV n false p m cap, .int .i64 (a : Nat), .int .i64 (kk : Nat)] w fun e w' => ∃ v, e = .returned v ∧ Out w.heap.size w' v (ints (wayM n false a kk)) ∧ Below w.heap.size w w' := by
  obtain ⟨i0, hi0, hz0, hz1, hz2⟩ := info_parts infoInt
  have hE := RowE.start w n false p m cap
  obtain ⟨w0, hw0⟩ : ∃ w0, w0 = w.alloc (.cells #[Value.int .i64 n, Value.bool false, Value.slice p m cap] 28) := ⟨_, rfl⟩
  have HW0 := Lib.hid hw0
  rw [← hw0] at hE
  have HE0 := Lib.hid hE
  obtain ⟨c0, c1, c2⟩ := hE.cells
  have hn0 : ¬ (n : Int) = 0 := by omega
  have hn00 : ¬ n = 0 := by omega
  have hw1 : IntKind.i64.wrap ((n : Int) - 1) = (n : Int) - 1 := IntWalk.i64_in _ (by omega)
  have hw2 : IntKind.i64.wrap ((n : Int) - 1 - (a : Int)) = (n : Int) - 1 - (a : Int) := IntWalk.i64_in _ (by omega)
  unfold wayM
  obtain ⟨bh, hbh⟩ : ∃ bh, bhN n false a = bh := ⟨_, rfl⟩
  obtain ⟨ah, hah⟩ : ∃ ah, ahN n false a = ah := ⟨_, rfl⟩
  rw [hbh, hah]
  rw [hbh] at hm
  have e1 : (n : Int) - 1 - (a : Int) = (ah : Int) := by rw [← hah]; unfold ahN; simp; omega
  have e2 : a = bh := by rw [← hbh]; rfl
  have hal : ah ≤ 24 := by omega
  clear hbh hah
  subst e2
  rw [Nat.min_eq_left hm]
  have hm1 : (kk : Int) ≤ (a : Int) := by omega
  have hm2 : ¬ (a : Int) < (kk : Int) := by omega
  have hm3 : ¬ a < kk := by omega
  have hbk2 : kk + 1 ≤ a + n := by omega
  clear hE hw0 hm
  go_enter Try.func64, Try.ntmps64
  go_upto_region 1 with fail
  rw [← HW0.out]
  go_quiet (fail)
  have HE1 := Lib.hid (HE0.out.next (drewN_below w0 nq))
  obtain ⟨w1, hw1'⟩ : ∃ w1, w1 = w0.drewN nq := ⟨_, rfl⟩
  rw [← hw1'] at HE1 ⊢
  clear HE0 HW0 c0 c1 c2 hw1'
  obtain ⟨c0, c1, c2⟩ := HE1.out.cells
  obtain ⟨w0', hw1'⟩ : ∃ w0', w0' = w1 := ⟨_, rfl⟩
  rw [← hw1'] at HE1 c0 c1 c2 ⊢
  have HE0 := HE1
  clear HE1 hw1'
  have HE1 := Lib.hid (HE0.out.next (ext1W w0' (.cells #[.int .i64 (a : Int)] 3)))
  have HO1 : Hid (Out (w.heap.size + 1) (w0'.alloc (.cells #[.int .i64 (a : Int)] 3)) (.slice (some ⟨w0'.heap.size, 0, none⟩) 1 1) (ints (way1 n a 0))) := one_lit w0' a HE0.out.row.lt
  clear HE0
  go_wp2_with fail
  clear c0 c1 c2
  go_loopw [9, 31, 10] (fun v i _ wr => ∃ (t : Nat), t ≤ kk ∧ i = .int .i64 t ∧ Hid (Out (w.heap.size + 1) wr v (ints (way1 n a t))) ∧ Hid (RowE w n false p m cap wr)) (fun _ i _ _ => kk - (intOf i).toNat)
  case atStart => exact ⟨0, Nat.zero_le _, rfl, HO1, HE1⟩
  case round =>
    obtain ⟨t, ht, rfl, HO, HE⟩ := hrel
    clear HO1 HE1
    by_cases hlt : t < kk
    · have ht1 : (t : Int) < (kk : Int) := by omega
      have hx1 : IntKind.i64.wrap ((a : Int) + (n : Int)) = (a : Int) + (n : Int) := IntWalk.i64_in _ (by omega)
      have hx2 : IntKind.i64.wrap ((a : Int) + (n : Int) - 1) = (a : Int) + (n : Int) - 1 := IntWalk.i64_in _ (by omega)
      have hx3 : IntKind.i64.wrap ((a : Int) + (n : Int) - 1 - (t : Int)) = (a : Int) + (n : Int) - 1 - (t : Int) := IntWalk.i64_in _ (by omega)
      have hbt : t + 1 ≤ a + n := by omega
      have hmod : ((a : Int) + (n : Int) - 1 - (t : Int)).tmod (n : Int) = ((backM n a t : Nat) : Int) := by
        unfold backM
        rw [show (a : Int) + (n : Int) - 1 - (t : Int) = ((a + n - 1 - t : Nat) : Int) by omega, Int.ofNat_tmod]
      have hst := way1_succ n a t
      have hql : backM n a t < n := Nat.mod_lt _ (by omega)
      obtain ⟨q, hq⟩ : ∃ q, backM n a t = q := ⟨_, rfl⟩
      rw [hq] at hmod hst hql
      have hwq : IntKind.i64.wrap (q : Int) = (q : Int) := IntWalk.i64_in _ (by omega)
      have HST := Lib.hid hst
      obtain ⟨c0, c1, c2⟩ := HE.out.cells
      clear hq hst
      have hsz : w.heap.size + 1 ≤ wr.heap.size := HE.out.row.lt
      have hblk := Lib.hid (own_block HO.out)
      have hlen := way1_len n a t
      obtain ⟨l, vs, hl2, hvs, hown⟩ := HO.out.open'
      rw [ints_length, hlen] at hl2
      have hlk : l ≤ 100 := by omega
      replace hl2 : Hid _ := Lib.hid ((ints_length _).trans (hlen.trans hl2))
      replace hvs := Lib.hid hvs
      clear hlen
      go_wp2_with (at_builtin; refine wpList_append_own _ rfl _ _ 22 rfl (w.heap.size + 1) 3 i0 (.int .i64 0) 1 8 Try.underlying22 hi0 hz0 hz1 hz2 rfl (by decide) _ _ _ rfl (hown.alloc _) ⟨wr.heap.size, 0, none⟩ 1 1 [.int .i64 (q : Int)] rfl rfl (cell_one_new _ _ _) (fun x hx => by simp at hx; subst hx; rfl) (by unfold maxLen; omega) (by omega) (by simp; omega) ?_; intro v' w3 hown' hgrow3 hnil3)
      have hG : Below (w.heap.size + 1) wr w3 := ((Below.refl (w.heap.size + 1) wr).alloc hsz _).grown hgrow3 (by simp; omega) hblk.out
      have HE3 := Lib.hid (HE.out.next1 hG)
      have HO3 : Hid (Out (w.heap.size + 1) w3 v' (ints (way1 n a (t + 1)))) := by
        show Out _ _ _ _
        rw [HST.out, ints_snoc]
        exact Out.close hl2.out hvs.out hown'
      clear hown' hgrow3 hnil3 hown hG
      go_wp2_with fail
      go_roundw
      case rel => exact ⟨t + 1, by omega, by go_num, HO3, HE3⟩
      case measure => simp [intOf]; omega
    · have htz : kk = t := by omega
      subst htz
      have ht1 : ¬ (kk : Int) < (kk : Int) := by omega
      have HO1 : Hid (Out (w.heap.size + 1) wr u9 (ints (way2 n a kk 0))) := by show Out _ _ _ _; rw [way2_zero]; exact HO.out
      have HE1 := HE
      clear HO HE
      go_wp2_with fail
      go_loopw [9, 49, 11] (fun v i _ wr => ∃ (t : Nat), t ≤ ah ∧ i = .int .i64 t ∧ Hid (Out (w.heap.size + 1) wr v (ints (way2 n a kk t))) ∧ Hid (RowE w n false p m cap wr)) (fun _ i _ _ => ah - (intOf i).toNat)
      case atStart => exact ⟨0, Nat.zero_le _, rfl, HO1, HE1⟩
      case round =>
        obtain ⟨t, ht, rfl, HO, HE⟩ := hrel
        clear HO1 HE1
        by_cases hlt : t < ah
        · have ht1 : (t : Int) < (ah : Int) := by omega
          have hx1 : IntKind.i64.wrap ((a : Int) + 1) = (a : Int) + 1 := IntWalk.i64_in _ (by omega)
          have hx2 : IntKind.i64.wrap ((a : Int) + 1 + (t : Int)) = (a : Int) + 1 + (t : Int) := IntWalk.i64_in _ (by omega)
          have hmod : ((a : Int) + 1 + (t : Int)).tmod (n : Int) = ((aheadM n a t : Nat) : Int) := by
            unfold aheadM
            rw [show (a : Int) + 1 + (t : Int) = ((a + 1 + t : Nat) : Int) by omega, Int.ofNat_tmod]
          have hst := way2_succ n a kk t
          have hql : aheadM n a t < n := Nat.mod_lt _ (by omega)
          obtain ⟨q, hq⟩ : ∃ q, aheadM n a t = q := ⟨_, rfl⟩
          rw [hq] at hmod hst hql
          have hwq : IntKind.i64.wrap (q : Int) = (q : Int) := IntWalk.i64_in _ (by omega)
          have HST := Lib.hid hst
          obtain ⟨c0, c1, c2⟩ := HE.out.cells
          clear hq hst
          have hsz : w.heap.size + 1 ≤ wr.heap.size := HE.out.row.lt
          have hblk := Lib.hid (own_block HO.out)
          have hlen := way2_len n a kk t
          obtain ⟨l, vs, hl2, hvs, hown⟩ := HO.out.open'
          rw [ints_length, hlen] at hl2
          have hlk : l ≤ 100 := by omega
          replace hl2 : Hid _ := Lib.hid ((ints_length _).trans (hlen.trans hl2))
          replace hvs := Lib.hid hvs
          clear hlen
          go_wp2_with (at_builtin; refine wpList_append_own _ rfl _ _ 22 rfl (w.heap.size + 1) 3 i0 (.int .i64 0) 1 8 Try.underlying22 hi0 hz0 hz1 hz2 rfl (by decide) _ _ _ rfl (hown.alloc _) ⟨wr.heap.size, 0, none⟩ 1 1 [.int .i64 (q : Int)] rfl rfl (cell_one_new _ _ _) (fun x hx => by simp at hx; subst hx; rfl) (by unfold maxLen; omega) (by omega) (by simp; omega) ?_; intro v' w3 hown' hgrow3 hnil3)
          have hG : Below (w.heap.size + 1) wr w3 := ((Below.refl (w.heap.size + 1) wr).alloc hsz _).grown hgrow3 (by simp; omega) hblk.out
          have HE3 := Lib.hid (HE.out.next1 hG)
          have HO3 : Hid (Out (w.heap.size + 1) w3 v' (ints (way2 n a kk (t + 1)))) := by
            show Out _ _ _ _
            rw [HST.out, ints_snoc]
            exact Out.close hl2.out hvs.out hown'
          clear hown' hgrow3 hnil3 hown hG
          go_wp2_with fail
          go_roundw
          case rel => exact ⟨t + 1, by omega, by go_num, HO3, HE3⟩
          case measure => simp [intOf]; omega
        · have htz : ah = t := by omega
          subst htz
          have ht1 : ¬ (ah : Int) < (ah : Int) := by omega
          go_wp2_with fail
          go_ret
          exact ⟨_, rfl, HO.out.mono (by omega), HE.out.bel⟩

set_option maxRecDepth 4000 in
set_option maxHeartbeats 4000000 in
theorem wayOf_false_gt (n : Nat) (p : Option Addr) (m cap : Nat) (a kk : Nat) (w : World) (hn : n ≤ 24) (ha : a < n) (hkk : kk ≤ 24) (hm : ¬ kk ≤ bhN n false a) :
    Calls Try.prog 64 #[rowV n false p m cap, .int .i64 (a : Nat), .int .i64 (kk : Nat)] w fun e w' => ∃ v, e = .returned v ∧ Out w.heap.size w' v (ints (wayM n false a kk)) ∧ Below w.heap.size w w' := by
  obtain ⟨i0, hi0, hz0, hz1, hz2⟩ := info_parts infoInt
  have hE := RowE.start w n false p m cap
  obtain ⟨w0, hw0⟩ : ∃ w0, w0 = w.alloc (.cells #[Value.int .i64 n, Value.bool false, Value.slice p m cap] 28) := ⟨_, rfl⟩
  have HW0 := Lib.hid hw0
  rw [← hw0] at hE
  have HE0 := Lib.hid hE
  obtain ⟨c0, c1, c2⟩ := hE.cells
  have hn0 : ¬ (n : Int) = 0 := by omega
  have hn00 : ¬ n = 0 := by omega
  have hw1 : IntKind.i64.wrap ((n : Int) - 1) = (n : Int) - 1 := IntWalk.i64_in _ (by omega)
  have hw2 : IntKind.i64.wrap ((n : Int) - 1 - (a : Int)) = (n : Int) - 1 - (a : Int) := IntWalk.i64_in _ (by omega)
  unfold wayM
  obtain ⟨bh, hbh⟩ : ∃ bh, bhN n false a = bh := ⟨_, rfl⟩
  obtain ⟨ah, hah⟩ : ∃ ah, ahN n false a = ah := ⟨_, rfl⟩
  rw [hbh, hah]
  rw [hbh] at hm
  have e1 : (n : Int) - 1 - (a : Int) = (ah : Int) := by rw [← hah]; unfold ahN; simp; omega
  have e2 : a = bh := by rw [← hbh]; rfl
  have hal : ah ≤ 24 := by omega
  clear hbh hah
  subst e2
  rw [Nat.min_eq_right (by omega)]
  have hm1 : ¬ (kk : Int) ≤ (a : Int) := by omega
  have hm2 : (a : Int) < (kk : Int) := by omega
  have hm3 : a < kk := by omega
  have hbk2 : a + 1 ≤ a + n := by omega
  clear hE hw0 hm
  go_enter Try.func64, Try.ntmps64
  go_upto_region 1 with fail
  rw [← HW0.out]
  go_quiet (fail)
  have HE1 := Lib.hid (HE0.out.next (drewN_below w0 nq))
  obtain ⟨w1, hw1'⟩ : ∃ w1, w1 = w0.drewN nq := ⟨_, rfl⟩
  rw [← hw1'] at HE1 ⊢
  clear HE0 HW0 c0 c1 c2 hw1'
  obtain ⟨c0, c1, c2⟩ := HE1.out.cells
  obtain ⟨w0', hw1'⟩ : ∃ w0', w0' = w1 := ⟨_, rfl⟩
  rw [← hw1'] at HE1 c0 c1 c2 ⊢
  have HE0 := HE1
  clear HE1 hw1'
  have HE1 := Lib.hid (HE0.out.next (ext1W w0' (.cells #[.int .i64 (a : Int)] 3)))
  have HO1 : Hid (Out (w.heap.size + 1) (w0'.alloc (.cells #[.int .i64 (a : Int)] 3)) (.slice (some ⟨w0'.heap.size, 0, none⟩) 1 1) (ints (way1 n a 0))) := one_lit w0' a HE0.out.row.lt
  clear HE0
  go_wp2_with fail
  clear c0 c1 c2
  go_loopw [9, 31, 10] (fun v i _ wr => ∃ (t : Nat), t ≤ a ∧ i = .int .i64 t ∧ Hid (Out (w.heap.size + 1) wr v (ints (way1 n a t))) ∧ Hid (RowE w n false p m cap wr)) (fun _ i _ _ => a - (intOf i).toNat)
  case atStart => exact ⟨0, Nat.zero_le _, rfl, HO1, HE1⟩
  case round =>
    obtain ⟨t, ht, rfl, HO, HE⟩ := hrel
    clear HO1 HE1
    by_cases hlt : t < a
    · have ht1 : (t : Int) < (a : Int) := by omega
      have hx1 : IntKind.i64.wrap ((a : Int) + (n : Int)) = (a : Int) + (n : Int) := IntWalk.i64_in _ (by omega)
      have hx2 : IntKind.i64.wrap ((a : Int) + (n : Int) - 1) = (a : Int) + (n : Int) - 1 := IntWalk.i64_in _ (by omega)
      have hx3 : IntKind.i64.wrap ((a : Int) + (n : Int) - 1 - (t : Int)) = (a : Int) + (n : Int) - 1 - (t : Int) := IntWalk.i64_in _ (by omega)
      have hbt : t + 1 ≤ a + n := by omega
      have hmod : ((a : Int) + (n : Int) - 1 - (t : Int)).tmod (n : Int) = ((backM n a t : Nat) : Int) := by
        unfold backM
        rw [show (a : Int) + (n : Int) - 1 - (t : Int) = ((a + n - 1 - t : Nat) : Int) by omega, Int.ofNat_tmod]
      have hst := way1_succ n a t
      have hql : backM n a t < n := Nat.mod_lt _ (by omega)
      obtain ⟨q, hq⟩ : ∃ q, backM n a t = q := ⟨_, rfl⟩
      rw [hq] at hmod hst hql
      have hwq : IntKind.i64.wrap (q : Int) = (q : Int) := IntWalk.i64_in _ (by omega)
      have HST := Lib.hid hst
      obtain ⟨c0, c1, c2⟩ := HE.out.cells
      clear hq hst
      have hsz : w.heap.size + 1 ≤ wr.heap.size := HE.out.row.lt
      have hblk := Lib.hid (own_block HO.out)
      have hlen := way1_len n a t
      obtain ⟨l, vs, hl2, hvs, hown⟩ := HO.out.open'
      rw [ints_length, hlen] at hl2
      have hlk : l ≤ 100 := by omega
      replace hl2 : Hid _ := Lib.hid ((ints_length _).trans (hlen.trans hl2))
      replace hvs := Lib.hid hvs
      clear hlen
      go_wp2_with (at_builtin; refine wpList_append_own _ rfl _ _ 22 rfl (w.heap.size + 1) 3 i0 (.int .i64 0) 1 8 Try.underlying22 hi0 hz0 hz1 hz2 rfl (by decide) _ _ _ rfl (hown.alloc _) ⟨wr.heap.size, 0, none⟩ 1 1 [.int .i64 (q : Int)] rfl rfl (cell_one_new _ _ _) (fun x hx => by simp at hx; subst hx; rfl) (by unfold maxLen; omega) (by omega) (by simp; omega) ?_; intro v' w3 hown' hgrow3 hnil3)
      have hG : Below (w.heap.size + 1) wr w3 := ((Below.refl (w.heap.size + 1) wr).alloc hsz _).grown hgrow3 (by simp; omega) hblk.out
      have HE3 := Lib.hid (HE.out.next1 hG)
      have HO3 : Hid (Out (w.heap.size + 1) w3 v' (ints (way1 n a (t + 1)))) := by
        show Out _ _ _ _
        rw [HST.out, ints_snoc]
        exact Out.close hl2.out hvs.out hown'
      clear hown' hgrow3 hnil3 hown hG
      go_wp2_with fail
      go_roundw
      case rel => exact ⟨t + 1, by omega, by go_num, HO3, HE3⟩
      case measure => simp [intOf]; omega
    · have htz : a = t := by omega
      subst htz
      have ht1 : ¬ (a : Int) < (a : Int) := by omega
      have HO1 : Hid (Out (w.heap.size + 1) wr u9 (ints (way2 n a a 0))) := by show Out _ _ _ _; rw [way2_zero]; exact HO.out
      have HE1 := HE
      clear HO HE
      go_wp2_with fail
      go_loopw [9, 49, 11] (fun v i _ wr => ∃ (t : Nat), t ≤ ah ∧ i = .int .i64 t ∧ Hid (Out (w.heap.size + 1) wr v (ints (way2 n a a t))) ∧ Hid (RowE w n false p m cap wr)) (fun _ i _ _ => ah - (intOf i).toNat)
      case atStart => exact ⟨0, Nat.zero_le _, rfl, HO1, HE1⟩
      case round =>
        obtain ⟨t, ht, rfl, HO, HE⟩ := hrel
        clear HO1 HE1
        by_cases hlt : t < ah
        · have ht1 : (t : Int) < (ah : Int) := by omega
          have hx1 : IntKind.i64.wrap ((a : Int) + 1) = (a : Int) + 1 := IntWalk.i64_in _ (by omega)
          have hx2 : IntKind.i64.wrap ((a : Int) + 1 + (t : Int)) = (a : Int) + 1 + (t : Int) := IntWalk.i64_in _ (by omega)
          have hmod : ((a : Int) + 1 + (t : Int)).tmod (n : Int) = ((aheadM n a t : Nat) : Int) := by
            unfold aheadM
            rw [show (a : Int) + 1 + (t : Int) = ((a + 1 + t : Nat) : Int) by omega, Int.ofNat_tmod]
          have hst := way2_succ n a a t
          have hql : aheadM n a t < n := Nat.mod_lt _ (by omega)
          obtain ⟨q, hq⟩ : ∃ q, aheadM n a t = q := ⟨_, rfl⟩
          rw [hq] at hmod hst hql
          have hwq : IntKind.i64.wrap (q : Int) = (q : Int) := IntWalk.i64_in _ (by omega)
          have HST := Lib.hid hst
          obtain ⟨c0, c1, c2⟩ := HE.out.cells
          clear hq hst
          have hsz : w.heap.size + 1 ≤ wr.heap.size := HE.out.row.lt
          have hblk := Lib.hid (own_block HO.out)
          have hlen := way2_len n a a t
          obtain ⟨l, vs, hl2, hvs, hown⟩ := HO.out.open'
          rw [ints_length, hlen] at hl2
          have hlk : l ≤ 100 := by omega
          replace hl2 : Hid _ := Lib.hid ((ints_length _).trans (hlen.trans hl2))
          replace hvs := Lib.hid hvs
          clear hlen
          go_wp2_with (at_builtin; refine wpList_append_own _ rfl _ _ 22 rfl (w.heap.size + 1) 3 i0 (.int .i64 0) 1 8 Try.underlying22 hi0 hz0 hz1 hz2 rfl (by decide) _ _ _ rfl (hown.alloc _) ⟨wr.heap.size, 0, none⟩ 1 1 [.int .i64 (q : Int)] rfl rfl (cell_one_new _ _ _) (fun x hx => by simp at hx; subst hx; rfl) (by unfold maxLen; omega) (by omega) (by simp; omega) ?_; intro v' w3 hown' hgrow3 hnil3)
          have hG : Below (w.heap.size + 1) wr w3 := ((Below.refl (w.heap.size + 1) wr).alloc hsz _).grown hgrow3 (by simp; omega) hblk.out
          have HE3 := Lib.hid (HE.out.next1 hG)
          have HO3 : Hid (Out (w.heap.size + 1) w3 v' (ints (way2 n a a (t + 1)))) := by
            show Out _ _ _ _
            rw [HST.out, ints_snoc]
            exact Out.close hl2.out hvs.out hown'
          clear hown' hgrow3 hnil3 hown hG
          go_wp2_with fail
          go_roundw
          case rel => exact ⟨t + 1, by omega, by go_num, HO3, HE3⟩
          case measure => simp [intOf]; omega
        · have htz : ah = t := by omega
          subst htz
          have ht1 : ¬ (ah : Int) < (ah : Int) := by omega
          go_wp2_with fail
          go_ret
          exact ⟨_, rfl, HO.out.mono (by omega), HE.out.bel⟩

theorem wayOf_any (n : Nat) (ring : Bool) (p : Option Addr) (m cap : Nat) (a kk : Nat) (w : World) (hn : n ≤ 24) (ha : a < n) (hkk : kk ≤ 24) :
    Calls Try.prog 64 #[rowV n ring p m cap, .int .i64 (a : Nat), .int .i64 (kk : Nat)] w fun e w' => ∃ v, e = .returned v ∧ Out w.heap.size w' v (ints (wayM n ring a kk)) ∧ Below w.heap.size w w' := by
  by_cases hm : kk ≤ bhN n ring a
  · cases ring with
    | true => exact wayOf_true_le n p m cap a kk w hn ha hkk hm
    | false => exact wayOf_false_le n p m cap a kk w hn ha hkk hm
  · cases ring with
    | true => exact wayOf_true_gt n p m cap a kk w hn ha hkk hm
    | false => exact wayOf_false_gt n p m cap a kk w hn ha hkk hm
end Go.Proofs.Ytfabannlebolfaa
