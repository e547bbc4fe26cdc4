/- Chapter 7, spec side: spec.l7Start. -/
import Derived.Test.YtlhnejjciondeaaStc7
namespace Go.Proofs.Ytlhnejjciondeaa
open Go.RowKit

set_option maxRecDepth 8000 in
set_option maxHeartbeats 40000000 in
theorem l7Start_any (n : Nat) (w : World) (h1n : 1 ≤ n) (hn : n ≤ 10) :
    Calls Try.prog 59 #[.int .i64 (n : Nat)] w (MadeCab w n start7) := by
  have hmk := @run_make_row' Try.prog 22 3 (.int .i64 0) 8 Try.underlying22 infoInt rfl .i64 .i64 n (by omega) (by omega)
  rw [madeCells_one] at hmk
  obtain ⟨Z, hZ⟩ : ∃ Z, List.replicate n (Value.int .i64 0) = Z := ⟨_, rfl⟩
  rw [hZ] at hmk
  obtain ⟨w1, hw1⟩ : ∃ w1, w.alloc (.cells #[.slice none 0 0, .slice none 0 0, .slice none 0 0, .slice none 0 0, .slice none 0 0, .slice none 0 0] 65) = w1 := ⟨_, rfl⟩
  have hs1 : w.heap.size + 1 ≤ w1.heap.size := by rw [← hw1]; simp
  have hr1 : OwnArr w1 w.heap.size 65 cabZ := by rw [← hw1]; exact OwnArr.made w _ cabZ
  have hb1 : Below w.heap.size w w1 := by rw [← hw1]; exact (Below.refl _ _).alloc (Nat.le_refl _) _
  have HW1 := Lib.hid hw1
  have HZ := Lib.hid hZ
  have HS1 := Lib.hid hs1
  have HR1 := Lib.hid hr1
  have HB1 := Lib.hid hb1
  clear hw1 hZ hs1 hr1 hb1
  go_enter Try.func59, Try.ntmps59
  go_upto_region 1 with fail
  rw [HW1.out]
  go_cut [3] (fun gv wx => Box7 w.heap.size n Z w1 gv wx)
  case first =>
    go_region
    all_goals
      go_wp2_with fail
      go_meet
      first
        | with_reducible exact close_4 HS1.out (by unfold far5; omega)
        | with_reducible exact close_3 HS1.out (by unfold far5; omega)
        | with_reducible exact close_2 HS1.out (by unfold far5; omega)
        | with_reducible exact close_1 HS1.out (by unfold far5; omega)
        | with_reducible exact close_0 HS1.out (by unfold far5; omega)
  case rest =>
    obtain ⟨g, c, d, e, f, rfl, hX, hz, hlo, hdis, hgd, hb⟩ := hcut
    have hS0 : S7 w.heap.size n Z w1 g c d e f (.slice none 0 0) (.slice none 0 0) 0 0 wc := ⟨hlo, hgd, hX, ⟨rfl, .inl ⟨rfl, rfl⟩⟩, ⟨rfl, .inl ⟨rfl, rfl⟩⟩, fun k hk => by simp [Value.ownBlock] at hk, by unfold far7; simp [Value.ownBlock], by unfold far7; simp [Value.ownBlock], hz.1, hz.2.1, hz.2.2.1, hz.2.2.2, HR1.out.below hb (by omega), hb⟩
    obtain ⟨i0, hi0, hz0, hz1, hz2⟩ := info_parts infoInt
    obtain ⟨r0, hr0⟩ : ∃ r, w.heap.size = r := ⟨_, rfl⟩
    have HR0 := Lib.hid hr0
    rw [hr0] at hS0 ⊢
    have HS0 := Lib.hid hS0
    have HDIS := Lib.hid hdis
    clear hS0 hX hz hlo hdis hgd hb hmk hr0
    go_wp2_with fail
    go_loopw [4] (fun i wr => ∃ (j : Nat) (va vb : Value), j ≤ n ∧ i = .int .i64 (j : Int) ∧ Hid (S7 r0 n Z w1 g c d e f va vb j j wr)) (fun i _ => n - (intOf i).toNat)
    case atStart => exact ⟨0, _, _, Nat.zero_le _, rfl, HS0⟩
    case round =>
      obtain ⟨j, va, vb, hj, rfl, HS⟩ := hrel
      clear HS0
      obtain ⟨x0, x1, x2, x3, x4, x5, f0, f1, f2, f3, f4, f5⟩ := cabz_cells HS.out.box
      by_cases hlt : j < n
      · have hj1 : (j : Int) < (n : Int) := by omega
        have HT : Hid (iv (frM mone (j + 1)) = iv (frM mone j) ++ [.int .i64 (-1)]) := by show _ = _; rw [frM_succ, iv_append]; rfl
        have hsz : r0 + 1 ≤ wr.heap.size := by have := HS.out.lo; have := HS.out.box.lt; omega
        have hown : wr.ownsRow (r0 + 1) 3 1 va j (iv (frM mone j)) := by have h := HS.out.oa; unfold Out at h; rw [frM_len] at h; exact h
        go_upto_region 6 with (at_builtin; refine wpList_append_own_at _ rfl _ _ 22 rfl (r0 + 1) 3 i0 (.int .i64 0) 1 8 Try.underlying22 hi0 hz0 hz1 hz2 rfl (by decide) _ _ _ rfl (hown.alloc _) ⟨wr.heap.size, 0, none⟩ 1 1 [.int .i64 (-1)] rfl rfl (cell_one_new _ _ _) (fun x hx => by simp at hx; subst hx; rfl) (by unfold maxLen; omega) (by omega) (by simp; omega) ?_; intro v' w3 hown' hgrow3 hnil3 hat3; have HO3 : Out (r0 + 1) w3 v' (frM mone (j + 1)) := (by unfold Out; rw [frM_len, HT.out]; exact hown'); obtain ⟨qv, cv, rfl⟩ := out_form HO3 (frM_len _ _); have hx3 := own_kept HS.out.box hgrow3 HS.out.ka.1; obtain ⟨y0, y1, -, -, -, -, g0, g1, -, -, -, -⟩ := cabz_cells hx3)
        have HS3 := Lib.hid (HS.out.appA hgrow3 HO3 hat3)
        clear hown hown' hgrow3 hnil3 hat3 HO3 hx3 x0 x1 x2 x3 x4 x5 f0 f1 f2 f3 f4 f5
        obtain ⟨w4, hw4⟩ : ∃ w4, w3.setCell ⟨g, 0, none⟩ (.slice qv (j + 1) cv) = w4 := ⟨_, rfl⟩
        rw [hw4] at HS3
        have HW4 := Lib.hid hw4
        clear hw4
        rw [HW4.out]
        obtain ⟨x0, x1, x2, x3, x4, x5, f0, f1, f2, f3, f4, f5⟩ := cabz_cells HS3.out.box
        have hsz4 : r0 + 1 ≤ w4.heap.size := by have := HS3.out.lo; have := HS3.out.box.lt; omega
        have hown : w4.ownsRow (r0 + 1) 3 1 vb j (iv (frM mone j)) := by have h := HS3.out.ob; unfold Out at h; rw [frM_len] at h; exact h
        clear y0 y1 g0 g1
        go_wp2_with (at_builtin; refine wpList_append_own_at _ rfl _ _ 22 rfl (r0 + 1) 3 i0 (.int .i64 0) 1 8 Try.underlying22 hi0 hz0 hz1 hz2 rfl (by decide) _ _ _ rfl (hown.alloc _) ⟨w4.heap.size, 0, none⟩ 1 1 [.int .i64 (-1)] rfl rfl (cell_one_new _ _ _) (fun x hx => by simp at hx; subst hx; rfl) (by unfold maxLen; omega) (by omega) (by simp; omega) ?_; intro v2 w5 hown' hgrow5 hnil5 hat5; have HO5 : Out (r0 + 1) w5 v2 (frM mone (j + 1)) := (by unfold Out; rw [frM_len, HT.out]; exact hown'); obtain ⟨q2, c2, rfl⟩ := out_form HO5 (frM_len _ _); have hx5 := own_kept HS3.out.box hgrow5 HS3.out.kb.1; obtain ⟨y0, y1, -, -, -, -, g0, g1, -, -, -, -⟩ := cabz_cells hx5)
        have HS5 := Lib.hid (HS3.out.appB hgrow5 HO5 hat5)
        clear hown hown' hgrow5 hnil5 hat5 HO5 hx5 x0 x1 x2 x3 x4 x5 f0 f1 f2 f3 f4 f5
        go_wp2_with fail
        go_roundw
        case rel => exact ⟨j + 1, _, _, by omega, by go_num, HS5⟩
        case measure => simp [intOf]; omega
      · have hjn : j = n := by omega
        subst hjn
        have hj1 : ¬ (j : Int) < (j : Int) := by omega
        obtain ⟨a, ca, rfl, hBa, hca, hia⟩ := ia_out HS.out.oa h1n
        obtain ⟨b, cb, rfl, hBb, hcb, hib⟩ := ia_out HS.out.ob h1n
        obtain ⟨z0, z1, z2, z3, z4, z5, q0, q1, q2, q3, q4, q5⟩ := cabz_cells HS.out.r
        have hab : a ≠ b := fun e => HS.out.ne a rfl (by rw [e]; rfl)
        have hfa := HS.out.ka
        have hfb := HS.out.kb
        unfold far7 at hfa hfb
        simp only [Value.ownBlock, ne_eq, Option.some.injEq] at hfa hfb
        have hlo := HS.out.lo
        have HFIN : Hid (∃ K : Nat → Nat, K a = ca ∧ K b = cb ∧ K c = j ∧ K d = j ∧ K e = j ∧ K f = j ∧ (∀ x, K x ≤ maxLen) ∧ Cabs wr j K a b c d e f start7) := by
          show ∃ _, _
          have hdd := HDIS.out
          have ea : (fun x => if x = a then ca else if x = b then cb else j) a = ca := by simp
          have eb : (fun x => if x = a then ca else if x = b then cb else j) b = cb := by simp [Ne.symm hab]
          have er : ∀ x, a ≠ x → b ≠ x → (fun x => if x = a then ca else if x = b then cb else j) x = j := fun x h1 h2 => by simp [Ne.symm h1, Ne.symm h2]
          have kc := er c hfa.2.1 hfb.2.1
          have kd := er d hfa.2.2.1 hfb.2.2.1
          have ke := er e hfa.2.2.2.1 hfb.2.2.2.1
          have kf := er f hfa.2.2.2.2 hfb.2.2.2.2
          have hm : maxLen = 9223372036854775807 := rfl
          refine ⟨fun x => if x = a then ca else if x = b then cb else j, ea, eb, kc, kd, ke, kf, fun x => ?_, ?_⟩
          · show (if x = a then ca else if x = b then cb else j) ≤ maxLen
            split
            · exact hca
            · split
              · exact hcb
              · omega
          · have hzz := HZ.out
            refine ⟨⟨⟨hab, hfa.2.1, hfa.2.2.1, hfa.2.2.2.1, hfa.2.2.2.2⟩, ⟨hfb.2.1, hfb.2.2.1, hfb.2.2.2.1, hfb.2.2.2.2⟩, ⟨hdd.1, hdd.2.1, hdd.2.2.1⟩, ⟨hdd.2.2.2.1, hdd.2.2.2.2.1⟩, hdd.2.2.2.2.2⟩, hia _ ea, hib _ eb, ia_zero (by rw [hzz]; exact HS.out.zc) kc, ia_zero (by rw [hzz]; exact HS.out.zd) kd, ia_zero (by rw [hzz]; exact HS.out.ze) ke, ia_zero (by rw [hzz]; exact HS.out.zf) kf⟩
        obtain ⟨K, ka, kb, kc, kd, ke, kf, hK, hC⟩ := HFIN.out
        have HC := Lib.hid hC
        have HF : Hid (from6 r0 a b c d e f) := by show from6 _ _ _ _ _ _ _; unfold from6; omega
        have HN : Hid (a ≠ r0 ∧ b ≠ r0 ∧ c ≠ r0 ∧ d ≠ r0 ∧ e ≠ r0 ∧ f ≠ r0) := by show _ ∧ _; omega
        have HBE : Hid (Below r0 w wr) := by
          show Below _ _ _
          have h1 := HB1.out
          rw [HR0.out] at h1
          exact h1.trans (HS.out.bel.mono (by omega))
        have HKK := Lib.hid hK
        have HRW := Lib.hid HS.out.r
        have KA := Lib.hid (And.intro ka (And.intro kb (And.intro kc (And.intro kd (And.intro ke kf)))))
        clear hC hK HFIN hfa hfb hlo hia hib hab HS ka kb kc kd ke kf
        go_wp2_with fail
        refine ret_cab Try.results59 rfl (HRW.out.box7 _ _ _ _ _ _) rfl ?_
        obtain ⟨k0, k1, k2, k3, k4, k5⟩ := KA.out
        refine ⟨K, a, b, c, d, e, f, by rw [k0, k1, k2, k3, k4, k5], HC.out.box HN.out _ _ _ _ _ _, by rw [HR0.out]; exact HF.out, HKK.out, by rw [HR0.out]; exact Below.box7 HBE.out (Nat.le_refl _) _ _ _ _ _ _⟩
end Go.Proofs.Ytlhnejjciondeaa
