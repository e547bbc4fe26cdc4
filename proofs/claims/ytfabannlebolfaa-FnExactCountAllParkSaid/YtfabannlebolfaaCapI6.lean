/- Chapter 6, impl side: impl.listsWithSeat, countOnLine, CountAllPark; both sides. -/
import Derived.Test.YtfabannlebolfaaCapN6
import Derived.Test.YtfabannlebolfaaCap6
import Derived.Test.YtfabannlebolfaaPowI6
import Derived.Test.YtfabannlebolfaaRowE6
import Derived.Test.YtfabannlebolfaaRowI
import Derived.Test.YtfabannlebolfaaIsFree
namespace Go.Proofs.Ytfabannlebolfaa
open Go.RowKit

theorem nr_take (N k : Nat) (F : Nat → Nat) (h : k ≤ N) : (ints (nrM N F)).take k = ints (nrM k F) := by
  unfold ints nrM
  rw [← List.map_take, ← List.map_take, List.take_range, Nat.min_eq_left h]

set_option maxRecDepth 4000 in
set_option maxHeartbeats 2000000 in
theorem listsWith_any (a : Nat) (F : Nat → Nat) (q : Option Addr) (c : Nat) (w : World) (lo hi : Nat) (hin : Ri lo hi w q (ints (nrM (a + 1) F))) (ha : a ≤ 12) (hF : ∀ j, j ≤ a → F j ≤ 23298085122481) (hb : ∀ i, i ≤ a + 1 → lwM F a i ≤ 23298085122481) :
    Calls Try.prog 49 #[.slice q (a + 1) c] w fun e w' => e = .returned (.int .i64 ((lwM F a (a + 1) : Nat) : Int)) ∧ w = w' := by
  have HI := Lib.hid hin
  have HB := Lib.hid hb
  have HFB := Lib.hid hF
  obtain ⟨R, hR⟩ : ∃ R, lwM F a (a + 1) = R := ⟨_, rfl⟩
  rw [hR]
  have HR := Lib.hid hR
  have hwa : IntKind.i64.wrap ((a : Int) + 1 - 1) = (a : Int) + 1 - 1 := IntWalk.i64_in _ (by omega)
  have hwb : IntKind.i64.wrap (a : Int) = (a : Int) := IntWalk.i64_in _ (by omega)
  have hlen : (a : Int) + 1 - 1 = (a : Int) := by omega
  clear hin hb hF hR
  go_enter Try.func49, Try.ntmps49
  go_wp2_with fail
  go_loop [4, 5, 6] (fun sv cv ov => ∃ (i : Nat), i ≤ a + 1 ∧ sv = .int .i64 ((lwM F a i : Nat) : Int) ∧ cv = .int .i64 ((chN a i : Nat) : Int) ∧ ov = .int .i64 ((a : Int) - (i : Int))) (fun _ _ ov => ((intOf ov) + 1).toNat)
  case atStart => exact ⟨0, Nat.zero_le _, rfl, rfl, by go_num⟩
  case round =>
    obtain ⟨i, hi', rfl, rfl, rfl⟩ := hrel
    by_cases hlt : i < a + 1
    · obtain ⟨o, ho⟩ : ∃ o, a - i = o := ⟨_, rfl⟩
      have hoe : (a : Int) - (i : Int) = (o : Int) := by omega
      have ho0 : (0 : Int) ≤ (o : Int) := by omega
      have ho1 : (o : Int) < (a : Int) + 1 := by omega
      obtain ⟨b, off, rfl, -, -, hbw, hc⟩ := HI.out.int (by rw [ints_length, nr_len]; omega)
      have h0 := hc o (by rw [ints_length, nr_len]; omega)
      rw [ints_get (by rw [nr_len]; omega)] at h0
      have hFo : (nrM (a + 1) F)[o]?.getD 0 = F o := by
        unfold nrM
        rw [List.getElem?_map, List.getElem?_range (by omega)]; rfl
      rw [hFo] at h0
      have hs1 : lwM F a (i + 1) = lwM F a i + chN a i * F (a - i) := rfl
      have hb1 := HB.out i (by omega)
      have hb2 := HB.out (i + 1) (by omega)
      have hch := ch_le ha (show i ≤ a by omega)
      have hch2 : chN a (i + 1) = chN a i * (a - i) / (i + 1) := rfl
      have hF1 := HFB.out o (by omega)
      rw [ho] at hs1 hch2
      obtain ⟨s1, hs1e⟩ : ∃ s, lwM F a i = s := ⟨_, rfl⟩
      obtain ⟨s2, hs2e⟩ : ∃ s, lwM F a (i + 1) = s := ⟨_, rfl⟩
      obtain ⟨ch, hche⟩ : ∃ s, chN a i = s := ⟨_, rfl⟩
      obtain ⟨ch2, hch2e⟩ : ∃ s, chN a (i + 1) = s := ⟨_, rfl⟩
      obtain ⟨fo, hfoe⟩ : ∃ s, F o = s := ⟨_, rfl⟩
      rw [hs1e] at hs1 hb1 ⊢
      rw [hs2e] at hs1 hb2
      rw [hche] at hs1 hch hch2 ⊢
      rw [hch2e] at hch2
      rw [hfoe] at hs1 h0 hF1
      obtain ⟨pr, hpr⟩ : ∃ pr, ch * fo = pr := ⟨_, rfl⟩
      obtain ⟨qr, hqr⟩ : ∃ qr, ch * o = qr := ⟨_, rfl⟩
      rw [hpr] at hs1
      rw [hqr] at hch2
      have hqb : qr ≤ 924 * 12 := by rw [← hqr]; exact Nat.mul_le_mul hch (by omega)
      have m1 : (ch : Int) * (fo : Int) = (pr : Int) := by rw [← hpr]; push_cast; rfl
      have m2 : (ch : Int) * (o : Int) = (qr : Int) := by rw [← hqr]; push_cast; rfl
      have w1 : IntKind.i64.wrap (pr : Int) = (pr : Int) := IntWalk.i64_in _ (by omega)
      have w2 : IntKind.i64.wrap (qr : Int) = (qr : Int) := IntWalk.i64_in _ (by omega)
      have a1 : (s1 : Int) + (pr : Int) = (s2 : Int) := by omega
      have w3 : IntKind.i64.wrap (s2 : Int) = (s2 : Int) := IntWalk.i64_in _ (by omega)
      have d1 : (a : Int) - (o : Int) = (i : Int) := by omega
      have w4 : IntKind.i64.wrap (i : Int) = (i : Int) := IntWalk.i64_in _ (by omega)
      have w5 : IntKind.i64.wrap ((i : Int) + 1) = (i : Int) + 1 := IntWalk.i64_in _ (by omega)
      have n1 : ¬ (i : Int) + 1 = 0 := by omega
      have q1 : (qr : Int).tdiv ((i : Int) + 1) = (ch2 : Int) := by
        rw [hch2, show (i : Int) + 1 = ((i + 1 : Nat) : Int) by omega]
        exact (Int.ofNat_tdiv _ _).symm
      have w6 : IntKind.i64.wrap (ch2 : Int) = (ch2 : Int) := IntWalk.i64_in _ (by
        have : ch2 ≤ qr := by rw [hch2]; exact Nat.div_le_self _ _
        omega)
      have w7 : IntKind.i64.wrap ((o : Int) - 1) = (o : Int) - 1 := IntWalk.i64_in _ (by omega)
      have HS := Lib.hid hs2e
      have HC := Lib.hid hch2e
      have HO := Lib.hid hoe
      rw [hoe]
      clear hs1 hch2 hc hbw hFo hs1e hs2e hche hch2e hfoe hpr hqr ho hoe
      go_wp2_with fail
      go_round
      case rel => exact ⟨i + 1, by omega, by rw [HS.out], by rw [HC.out], by have := HO.out; go_num⟩
      case measure => simp [intOf] <;> omega
    · have hia : i = a + 1 := by omega
      have ho0 : ¬ (0 : Int) ≤ (a : Int) - (i : Int) := by omega
      have hr := HR.out
      rw [← hia] at hr
      obtain ⟨s1, hs1e⟩ : ∃ s, lwM F a i = s := ⟨_, rfl⟩
      rw [hs1e] at hr ⊢
      subst hr
      clear HR hia hs1e
      go_wp2_with fail
      go_ret
      exact ⟨rfl, rfl⟩

set_option maxRecDepth 4000 in
set_option maxHeartbeats 4000000 in
theorem countOnLine_any (n a : Nat) (p : Option Addr) (cap : Nat) (S : Nat → Bool) (w : World) (lo hi : Nat) (hin : Ri lo hi w p (ints (tk n S))) (h2 : 2 ≤ n) (hn : n ≤ 12) (ha : a ≤ 12) :
    Calls Try.prog 33 #[rowV n false p (ints (tk n S)).length cap, .int .i64 (a : Nat)] w fun e w' => e = .returned (.int .i64 ((lsM (rmM n S) n a : Nat) : Int)) ∧ Below w.heap.size w w' := by
  have hlen := ints_tk_len n S
  have hE := RowE.start w n false p (ints (tk n S)).length cap
  have IS := Lib.hid (fun (x : Nat) (hx : x < n) (w' : World) (h' : Below w.heap.size w w') => isFree_any n false p cap (ints (tk n S)) (x : Int) w' lo hi (hin.below h' hin.top) (by omega))
  have HT := Lib.hid (fun (x : Nat) (hx : x < n) => has_tk (S := S) hx)
  have hmk0 := @run_make_row' Try.prog 22 3 (.int .i64 0) 8 Try.underlying22 infoInt rfl .i64 .i64 (a + 1) (by omega) (by omega)
  rw [madeCells_one, nr_zero] at hmk0
  obtain ⟨m0, hm0⟩ : ∃ m, (ints (tk n S)).length = m := ⟨_, rfl⟩
  rw [hm0] at hE IS ⊢
  obtain ⟨w0, hw0⟩ : ∃ w0, w.alloc (.cells #[.int .i64 (n : Int), .bool false, .slice p m0 cap] 28) = w0 := ⟨_, rfl⟩
  rw [hw0] at hE
  have hmk := hmk0 w0
  rw [show ((a + 1 : Nat) : Int) = (a : Int) + 1 by omega] at hmk
  obtain ⟨w4, hw4⟩ : ∃ w4, w4 = w0.alloc (.cells (iv (ints (nrM (a + 1) fun _ => 0))).toArray 3) := ⟨_, rfl⟩
  rw [← hw4] at hmk
  have hO4 : OwnArr w4 w0.heap.size 3 (iv (ints (nrM (a + 1) fun _ => 0))) := by rw [hw4]; exact OwnArr.made _ _ _
  have hE4 : RowE w n false p m0 cap w4 := by rw [hw4]; exact hE.next ((Below.refl _ _).alloc (Nat.le_refl _) _)
  have hg4 : w.heap.size + 1 ≤ w0.heap.size := hE.row.lt
  obtain ⟨g, hge⟩ : ∃ g, w0.heap.size = g := ⟨_, rfl⟩
  rw [hge] at hmk hO4 hg4
  obtain ⟨d0, d1, d2, -⟩ := hE4.row.three
  have hc1 := hO4.cell 0
  have hf1 := hO4.free 0
  rw [nr_get (by omega)] at hc1
  have hs1 := hO4.set 0 (.int .i64 ((1 : Nat) : Int))
  rw [nr_set] at hs1
  have HO5 : Hid (OwnArr (w4.setCell ⟨g, 0, none⟩ (.int .i64 1)) g 3 (iv (ints (nrM (a + 1) (lsM (rmM n S) 0))))) := hs1
  have HE5 := Lib.hid (hE4.next1 ((Below.refl _ _).setCell (p := ⟨g, 0, none⟩) hg4 (.int .i64 1)))
  have hw1 : IntKind.i64.wrap ((a : Int) + 1) = (a : Int) + 1 := IntWalk.i64_in _ (by omega)
  have hw2 : IntKind.i64.wrap ((n : Int) - 1) = (n : Int) - 1 := IntWalk.i64_in _ (by omega)
  have hn1 : (0 : Int) < (a : Int) + 1 := by omega
  obtain ⟨e0, e1, e2, -⟩ := HE5.out.row.three
  obtain ⟨R, hR⟩ : ∃ R, lsM (rmM n S) n a = R := ⟨_, rfl⟩
  rw [hR]
  have HR := Lib.hid hR
  have HW0 := Lib.hid hw0
  clear hin hlen hw4 hO4 hE4 hs1 hE hm0 hR hmk0 hge hw0
  go_enter Try.func33, Try.ntmps33
  go_upto_region 1 with fail
  rw [HW0.out]
  go_wp2_with fail
  clear hmk hc1 hf1 hn1 d0 d1 d2 e0 e1 e2
  go_loopw [6, 7, 8] (fun fv pv _ wr => ∃ (t : Nat), t ≤ n ∧ fv = .int .i64 ((rmM n S t : Nat) : Int) ∧ pv = .int .i64 ((n : Int) - 1 - (t : Int)) ∧ Hid (OwnArr wr g 3 (iv (ints (nrM (a + 1) (lsM (rmM n S) t))))) ∧ Hid (RowE w n false p m0 cap wr)) (fun _ pv _ _ => ((intOf pv) + 1).toNat)
  case atStart => exact ⟨0, Nat.zero_le _, rfl, by go_num, HO5, HE5⟩
  case round =>
    obtain ⟨t, ht, rfl, rfl, HO, HE⟩ := hrel
    clear HO5 HE5
    by_cases htn : t < n
    · obtain ⟨q, hq⟩ : ∃ q, n - 1 - t = q := ⟨_, rfl⟩
      have hqe : (n : Int) - 1 - (t : Int) = (q : Int) := by omega
      have hqn : q < n := by omega
      have hq0 : (0 : Int) ≤ (q : Int) := by omega
      have I0 := IS.out q hqn wr HE.out.bel
      rw [HT.out q hqn] at I0
      have hrt := rm_taken (t := t) (S := S) hq
      have hrf := rm_free (t := t) (S := S) hq
      have hrl1 := rm_le n S (t + 1)
      have hrl := rm_le n S t
      obtain ⟨B, hB⟩ : ∃ B, S q = B := ⟨_, rfl⟩
      rw [hB] at I0 hrt hrf
      obtain ⟨r0, hr0⟩ : ∃ r0, rmM n S t = r0 := ⟨_, rfl⟩
      obtain ⟨r1, hr1⟩ : ∃ r1, rmM n S (t + 1) = r1 := ⟨_, rfl⟩
      rw [hr0, hr1] at hrt hrf
      rw [hr0] at hrl ⊢
      rw [hr1] at hrl1
      have HR1 := Lib.hid hr1
      have HRT := Lib.hid hrt
      have HRF := Lib.hid hrf
      replace I0 := Lib.hid I0
      have hwr : IntKind.i64.wrap ((r0 : Int) + 1) = (r0 : Int) + 1 := IntWalk.i64_in _ (by omega)
      have hwq : IntKind.i64.wrap ((q : Int) - 1) = (q : Int) - 1 := IntWalk.i64_in _ (by omega)
      have hqe2 : (q : Int) - 1 = (n : Int) - 1 - ((t + 1 : Nat) : Int) := by omega
      have HQE := Lib.hid hqe2
      have HBG := Lib.hid (fun (x i : Nat) (hx : x ≤ 12) (hi : i ≤ x + 1) => lw_big (rmM n S) (p := t) (t := x) (by omega) hx hi)
      have HLG := Lib.hid (fun (x : Nat) (hx : x ≤ 12) => ls_big (rmM n S) (p := t) (t := x) (by omega) hx)
      have HNX : Hid (∀ x, lsM (rmM n S) (t + 1) x = if x ≤ r1 then lwM (lsM (rmM n S) t) x (x + 1) else 0) := by show ∀ _, _; intro x; rw [← hr1]; rfl
      rw [hqe]
      clear hq hqe hrt hrf hB hr0 hr1 hqe2
      obtain ⟨c0, c1, c2, -⟩ := HE.out.row.three
      go_wp2_with fail
      refine (I0.out).mono ?_
      rintro e w5 ⟨rfl, hb5⟩
      have HE5 := Lib.hid (HE.out.next hb5)
      have HO5 := Lib.hid (HO.out.below hb5 HO.out.lt)
      clear hb5 c0 c1 c2 HE HO I0
      go_upto_if 23 with fail
      go_cut [6] (fun v wx => v = .int .i64 (r1 : Int) ∧ w5 = wx)
      case first =>
        cases B with
        | true =>
          have h := HRT.out rfl
          subst h
          go_wp2_with fail
          go_meet
          exact ⟨rfl, rfl⟩
        | false =>
          have h := HRF.out rfl
          subst h
          go_wp2_with fail
          go_meet
          exact ⟨by go_num, rfl⟩
      case rest =>
        obtain ⟨rfl, rfl⟩ := hcut
        clear HRT HRF
        have HOI : Hid (OwnArr w5 g 3 (iv (ints (nrM (a + 1) fun x => if x < a + 1 then lsM (rmM n S) t x else lsM (rmM n S) (t + 1) x)))) := by
          show OwnArr _ _ _ _
          rw [nr_congr (G := lsM (rmM n S) t) (fun j hj => by rw [if_pos hj])]
          exact HO5.out
        clear HO5
        go_wp2_with fail
        go_loopw [8] (fun cv wr => ∃ (k : Nat), k ≤ a + 1 ∧ cv = .int .i64 ((k : Int) - 1) ∧ Hid (OwnArr wr g 3 (iv (ints (nrM (a + 1) fun x => if x < k then lsM (rmM n S) t x else lsM (rmM n S) (t + 1) x)))) ∧ Hid (RowE w n false p m0 cap wr)) (fun cv _ => ((intOf cv) + 1).toNat)
        case atStart => exact ⟨a + 1, Nat.le_refl _, by go_num, HOI, HE5⟩
        case round =>
          obtain ⟨k, hk, rfl, HO, HE⟩ := hrel
          clear HOI HE5
          by_cases hk0 : 0 < k
          · obtain ⟨x, rfl⟩ : ∃ x, k = x + 1 := ⟨k - 1, by omega⟩
            rw [show ((x + 1 : Nat) : Int) - 1 = (x : Int) by omega]
            have hx0 : (0 : Int) ≤ (x : Int) := by omega
            have hx1 : (x : Int) < (a : Int) + 1 := by omega
            have hx2 : (x : Int) + 1 ≤ (a : Int) + 1 := by omega
            have hx3 : (0 : Int) ≤ (x : Int) + 1 := by omega
            have hx4 : ((x : Int) + 1).toNat = x + 1 := by omega
            have hwx : IntKind.i64.wrap ((x : Int) + 1) = (x : Int) + 1 := IntWalk.i64_in _ (by omega)
            have hwx2 : IntKind.i64.wrap ((x : Int) - 1) = (x : Int) - 1 := IntWalk.i64_in _ (by omega)
            have hri : Ri g wr.heap.size wr (some ⟨g, 0, none⟩) (ints (nrM (x + 1) (lsM (rmM n S) t))) := by
              have h := Rd.of_own HO.out (Nat.le_refl _) HO.out.lt (Nat.le_refl _) (x + 1)
              rw [iv_take, nr_take _ _ _ (by omega), nr_congr (G := lsM (rmM n S) t) (fun j hj => by rw [if_pos hj])] at h
              exact h
            have LW := Lib.hid (listsWith_any x (lsM (rmM n S) t) (some ⟨g, 0, none⟩) (a + 1) wr _ _ hri (by omega) (fun j hj => HLG.out j (by omega)) (fun i hi => HBG.out x i (by omega) hi))
            have hnx := HNX.out x
            have hold := HO.out.cell x
            have hfree := HO.out.free x
            rw [nr_get (by omega), if_pos (Nat.lt_succ_self x)] at hold
            obtain ⟨sv, hsv⟩ : ∃ sv, lwM (lsM (rmM n S) t) x (x + 1) = sv := ⟨_, rfl⟩
            rw [hsv] at LW hnx
            have hset := fun (v : Nat) => HO.out.set x (.int .i64 (v : Int))
            have hcg : ∀ v, lsM (rmM n S) (t + 1) x = v → nrM (a + 1) (fun j => if j = x then v else if j < x + 1 then lsM (rmM n S) t j else lsM (rmM n S) (t + 1) j) = nrM (a + 1) (fun j => if j < x then lsM (rmM n S) t j else lsM (rmM n S) (t + 1) j) := by
              intro v hv
              refine nr_congr fun j _ => ?_
              by_cases e : j = x
              · subst e; rw [if_pos rfl, if_neg (Nat.lt_irrefl _), hv]
              · rw [if_neg e]
                by_cases e2 : j < x
                · rw [if_pos (by omega), if_pos e2]
                · rw [if_neg (by omega), if_neg e2]
            obtain ⟨ov, hov⟩ : ∃ ov, lsM (rmM n S) t x = ov := ⟨_, rfl⟩
            rw [hov] at hold
            by_cases hle : x ≤ r1
            · have hle1 : ¬ (r1 : Int) < (x : Int) := by omega
              rw [if_pos hle] at hnx
              have h1 := hset sv
              rw [nr_set, hcg sv hnx] at h1
              have HO6 := Lib.hid h1
              have HE6 := Lib.hid (HE.out.next1 ((Below.refl _ _).setCell (p := ⟨g, x, none⟩) hg4 (.int .i64 (sv : Int))))
              clear hset hcg h1 hri hnx hsv hov HE HO
              go_wp2_with fail
              refine LW.out.mono ?_
              rintro e w6 ⟨rfl, rfl⟩
              go_wp2_with fail
              go_roundw
              case rel => exact ⟨x, by omega, by go_num, HO6, HE6⟩
              case measure => simp [intOf] <;> omega
            · have hle1 : (r1 : Int) < (x : Int) := by omega
              rw [if_neg hle] at hnx
              have h0 := hset sv
              have hold2 := h0.cell x
              have hfree2 := h0.free x
              rw [List.getElem?_set_self (by rw [nr_ivlen]; omega)] at hold2
              have h1 := h0.set x (.int .i64 ((0 : Nat) : Int))
              rw [List.set_set, nr_set, hcg 0 hnx] at h1
              have HO6 := Lib.hid h1
              have HE6 := Lib.hid (HE.out.next1 (((Below.refl _ _).setCell (p := ⟨g, x, none⟩) hg4 (.int .i64 (sv : Int))).setCell (p := ⟨g, x, none⟩) hg4 (.int .i64 ((0 : Nat) : Int))))
              clear hset hcg h0 h1 hri hnx hsv hov HE HO
              go_wp2_with fail
              refine LW.out.mono ?_
              rintro e w6 ⟨rfl, rfl⟩
              go_wp2_with fail
              go_roundw
              case rel => exact ⟨x, by omega, by go_num, HO6, HE6⟩
              case measure => simp [intOf] <;> omega
          · have hk00 : k = 0 := by omega
            subst hk00
            have hm1 : ¬ (0 : Int) ≤ ((0 : Nat) : Int) - 1 := by omega
            have HO6 : Hid (OwnArr wr g 3 (iv (ints (nrM (a + 1) (lsM (rmM n S) (t + 1)))))) := by
              show OwnArr _ _ _ _
              have := HO.out
              rwa [nr_congr (G := lsM (rmM n S) (t + 1)) (fun j _ => by rw [if_neg (Nat.not_lt_zero _)])] at this
            clear HO
            go_wp2_with fail
            go_roundw
            case rel => exact ⟨t + 1, by omega, by rw [HR1.out], by rw [← HQE.out], HO6, HE⟩
            case measure => simp [intOf] <;> omega
    · have htn2 : t = n := by omega
      have hm1 : ¬ (0 : Int) ≤ (n : Int) - 1 - (t : Int) := by omega
      have ha1 : (a : Int) < (a : Int) + 1 := by omega
      have hc := HO.out.cell a
      rw [nr_get (by omega), htn2, HR.out] at hc
      clear HR htn2
      go_wp2_with fail
      go_ret
      exact ⟨rfl, HE.out.bel⟩
end Go.Proofs.Ytfabannlebolfaa
