/- Chapter 6, spec side: spec.l6Choose, CountAllPark. -/
import Derived.Test.YtfabannlebolfaaCapM6
import Derived.Test.YtfabannlebolfaaPow6
import Derived.Test.YtfabannlebolfaaFreeS
import Derived.Test.YtfabannlebolfaaRowE6
import Derived.Deep.RegionHeld3
import Derived.Deep.DeepCutAuto
namespace Go.Proofs.Ytfabannlebolfaa
open Go.RowKit

set_option maxRecDepth 4000 in
set_option maxHeartbeats 1000000 in
theorem l6Choose_any (n k : Nat) (hn : n ≤ 12) (hk : k ≤ n) (w : World) :
    Calls Try.prog 31 #[.int .i64 (n : Nat), .int .i64 (k : Nat)] w fun e w' => e = .returned (.int .i64 ((chN n k : Nat) : Int)) ∧ w = w' := by
  obtain ⟨R, hR⟩ : ∃ R, chN n k = R := ⟨_, rfl⟩
  rw [hR]
  have HR := Lib.hid hR
  clear hR
  go_enter Try.func31, Try.ntmps31
  go_wp2_with fail
  go_loop [5, 6] (fun vo vi => ∃ j : Nat, j ≤ k ∧ vo = .int .i64 ((chN n j : Nat) : Int) ∧ vi = .int .i64 (j : Int)) (fun _ vi => k - (intOf vi).toNat)
  case atStart => exact ⟨0, Nat.zero_le _, rfl, rfl⟩
  case round =>
    obtain ⟨j, hj, rfl, rfl⟩ := hrel
    by_cases hlt : j < k
    · have hk1 : (j : Int) < (k : Int) := by omega
      have h1 := ch_le hn (by omega : j ≤ n)
      have h2 := ch_le hn (by omega : j + 1 ≤ n)
      have hs : chN n (j + 1) = chN n j * (n - j) / (j + 1) := rfl
      obtain ⟨x, hx⟩ : ∃ x, chN n j = x := ⟨_, rfl⟩
      obtain ⟨y, hy⟩ : ∃ y, chN n (j + 1) = y := ⟨_, rfl⟩
      rw [hx] at h1 hs
      rw [hy] at h2 hs
      obtain ⟨d, hd⟩ : ∃ d, n - j = d := ⟨_, rfl⟩
      have hnd : (n : Int) - (j : Int) = (d : Int) := by omega
      rw [hd] at hs
      have hmx : x * d ≤ 924 * 12 := Nat.mul_le_mul h1 (by omega)
      obtain ⟨a, ha⟩ : ∃ a, x * d = a := ⟨_, rfl⟩
      have hma : (x : Int) * (d : Int) = (a : Int) := by rw [← ha]; push_cast; rfl
      rw [ha] at hs hmx
      have hwd : IntKind.i64.wrap (d : Int) = (d : Int) := IntWalk.i64_in _ (by omega)
      have hwa : IntKind.i64.wrap (a : Int) = (a : Int) := IntWalk.i64_in _ (by omega)
      have hdv : (a : Int).tdiv ((j : Int) + 1) = (y : Int) := by rw [hs, show (j : Int) + 1 = ((j + 1 : Nat) : Int) by omega]; exact (Int.ofNat_tdiv _ _).symm
      have hwy : IntKind.i64.wrap (y : Int) = (y : Int) := IntWalk.i64_in _ (by omega)
      have hj0 : ¬ (j : Int) + 1 = 0 := by omega
      have HY := Lib.hid hy
      rw [hx]
      clear hx hy hs ha hd
      go_wp2_with fail
      go_round
      case rel => exact ⟨j + 1, by omega, by rw [HY.out], by go_num⟩
      case measure => simp [intOf]; omega
    · have hjn : j = k := by omega
      subst hjn
      have hk1 : ¬ (j : Int) < (j : Int) := by omega
      have hr := HR.out
      obtain ⟨x, hx⟩ : ∃ x, chN n j = x := ⟨_, rfl⟩
      rw [hx] at hr ⊢
      subst hr
      clear HR hx
      go_wp2_with fail
      go_ret
      exact ⟨rfl, rfl⟩

/-- a Row of at most 12 seats and a number of cars -/
def capB (s : Int) (ring : Bool) (xs : List Int) (m : Int) : Bool := rowB s ring xs && (decide (s ≤ 12) && (decide (0 ≤ m) && decide (m ≤ 12)))
theorem capB_is {s : Int} {ring : Bool} {xs : List Int} {m : Int} (h : capB s ring xs m = true) : ∃ (n : Nat) (S : Nat → Bool) (a : Nat), s = n ∧ xs = ints (tk n S) ∧ m = a ∧ 2 ≤ n ∧ n ≤ 12 ∧ a ≤ 12 := by
  unfold capB at h
  simp only [Bool.and_eq_true, decide_eq_true_eq] at h
  obtain ⟨n, S, rfl, rfl, h1, h2, h3⟩ := rowB_is h.1
  exact ⟨n, S, m.toNat, rfl, rfl, by omega, h1, by omega, by omega⟩

set_option maxRecDepth 4000 in
set_option maxHeartbeats 1600000 in
theorem capS_bad (s : Int) (ring : Bool) (p : Option Addr) (cap : Nat) (xs : List Int) (m : Int) (w : World) (lo hi : Nat) (hin : Ri lo hi w p xs) (hlen : xs.length ≤ 1048576) (h : capB s ring xs m = false) :
    Calls Try.prog 9 #[rowV s ring p xs.length cap, .int .i64 m] w fun e w' => e = .returned (.tuple #[.int .i64 0, .bool false]) ∧ Below w.heap.size w w' := by
  have hE := RowE.start w s ring p xs.length cap
  have RW := fun (w' : World) (h' : Below w.heap.size w w') => l2Row_any s ring p cap xs w' lo hi (hin.below h' hin.top) hlen
  have IN := fun w' => l1In_any m 0 12 w'
  unfold capB at h
  obtain ⟨B, hB⟩ : ∃ B, rowB s ring xs = B := ⟨_, rfl⟩
  obtain ⟨C, hC⟩ : ∃ C, (decide (0 ≤ m) && decide (m ≤ 12)) = C := ⟨_, rfl⟩
  rw [hB] at RW h
  rw [hC] at IN h
  obtain ⟨m0, hm0⟩ : ∃ m, xs.length = m := ⟨_, rfl⟩
  rw [hm0] at hE RW ⊢
  have HE := Lib.hid hE
  replace RW := Lib.hid RW
  replace IN := Lib.hid IN
  clear hin hE hm0 hB hC hlen
  obtain ⟨c0, c1, c2, -⟩ := HE.out.row.three
  cases B with
  | false =>
    clear h IN
    go_enter Try.func9, Try.ntmps9
    go_wp2_with fail
    refine (RW.out _ HE.out.bel).mono ?_
    rintro e w1 ⟨rfl, hb1⟩
    have HE1 := Lib.hid (HE.out.next hb1)
    clear hb1 c0 c1 c2 RW
    go_wp2_with fail
    go_ret2
    exact ⟨rfl, HE1.out.bel⟩
  | true =>
    by_cases h12 : s ≤ 12
    · have hC2 : C = false := by rw [decide_eq_true h12] at h; simpa using h
      subst hC2
      clear h
      go_enter Try.func9, Try.ntmps9
      go_wp2_with fail
      refine (RW.out _ HE.out.bel).mono ?_
      rintro e w1 ⟨rfl, hb1⟩
      have HE1 := Lib.hid (HE.out.next hb1)
      clear hb1 c0 c1 c2 RW
      obtain ⟨c0, c1, c2, -⟩ := HE1.out.row.three
      go_wp2_with fail
      refine (IN.out _).mono ?_
      rintro e w2 ⟨rfl, rfl⟩
      go_wp2_with fail
      go_ret2
      exact ⟨rfl, HE1.out.bel⟩
    · clear h IN
      go_enter Try.func9, Try.ntmps9
      go_wp2_with fail
      refine (RW.out _ HE.out.bel).mono ?_
      rintro e w1 ⟨rfl, hb1⟩
      have HE1 := Lib.hid (HE.out.next hb1)
      clear hb1 c0 c1 c2 RW
      obtain ⟨c0, c1, c2, -⟩ := HE1.out.row.three
      go_wp2_with fail
      go_ret2
      exact ⟨rfl, HE1.out.bel⟩

theorem pow12 {n a : Nat} (hn : n ≤ 12) (ha : a ≤ 12) : n ^ a ≤ 8916100448256 := by
  have h1 : n ^ a ≤ 12 ^ a := Nat.pow_le_pow_left hn a
  have h2 : 12 ^ a ≤ 12 ^ 12 := Nat.pow_le_pow_right (by omega) ha
  have h3 : 12 ^ 12 = 8916100448256 := by decide
  omega
theorem rm_taken {n q t : Nat} {S : Nat → Bool} (h : n - 1 - t = q) (hS : S q = true) : rmM n S (t + 1) = rmM n S t := by
  show rmM n S t + _ = _
  rw [h, hS]; rfl
theorem rm_free {n q t : Nat} {S : Nat → Bool} (h : n - 1 - t = q) (hS : S q = false) : rmM n S (t + 1) = rmM n S t + 1 := by
  show rmM n S t + _ = _
  rw [h, hS]; rfl

set_option maxRecDepth 4000 in
set_option maxHeartbeats 4000000 in
theorem capS_any (n a : Nat) (ring : Bool) (p : Option Addr) (cap : Nat) (S : Nat → Bool) (w : World) (lo hi : Nat) (hin : Ri lo hi w p (ints (tk n S))) (h2 : 2 ≤ n) (hn : n ≤ 12) (ha : a ≤ 12) (hr : rowB n ring (ints (tk n S)) = true) :
    Calls Try.prog 9 #[rowV n ring p (ints (tk n S)).length cap, .int .i64 (a : Nat)] w fun e w' => e = .returned (.tuple #[.int .i64 ((capM n ring S a : Nat) : Int), .bool true]) ∧ Below w.heap.size w w' := by
  have hlen := ints_tk_len n S
  have hE := RowE.start w n ring p (ints (tk n S)).length cap
  have RW := fun (w' : World) (h' : Below w.heap.size w w') => l2Row_any n ring p cap (ints (tk n S)) w' lo hi (hin.below h' hin.top) (by omega)
  rw [hr] at RW
  have IN := fun w' => l1In_any (a : Int) 0 12 w'
  rw [show (decide (0 ≤ (a : Int)) && decide ((a : Int) ≤ 12)) = true by rw [decide_eq_true (by omega), decide_eq_true (by omega)]; rfl] at IN
  have FR := fun (w' : World) (h' : Below w.heap.size w w') => freeS_any n ring p cap S w' lo hi (hin.below h' hin.top) (by omega)
  have IS : Hid (∀ (q : Nat), q < n → ∀ w', Below w.heap.size w w' → Calls Try.prog 30 #[rowV n ring p (ints (tk n S)).length cap, .int .i64 (q : Nat)] w' fun e w'' => e = .returned (.bool (S q)) ∧ Below w'.heap.size w' w'') := by
    show ∀ _, _
    intro q hq w' h'
    have := l2Is_any n ring p cap (ints (tk n S)) (q : Int) w' lo hi (hin.below h' hin.top) (by omega)
    rwa [has_tk hq] at this
  obtain ⟨L, hL⟩ : ∃ L, ints (tk n fun q => !S q) = L := ⟨_, rfl⟩
  obtain ⟨f, hf⟩ : ∃ f, L.length = f := ⟨_, rfl⟩
  have hfn : f ≤ n := by rw [← hf, ← hL]; exact ints_tk_len _ _
  have hcm : capM n ring S a = if f < a then 0 else if ring then n ^ a else tbM a (rmM n S) n a := by
    unfold capM
    rw [← ints_length, hL, hf]
  obtain ⟨R, hR⟩ : ∃ R, capM n ring S a = R := ⟨_, rfl⟩
  rw [hR]
  rw [hcm] at hR
  have HR := Lib.hid hR
  rw [hL] at FR
  obtain ⟨m0, hm0⟩ : ∃ m, (ints (tk n S)).length = m := ⟨_, rfl⟩
  rw [hm0] at hE RW FR IS ⊢
  have HE := Lib.hid hE
  have HF := Lib.hid hf
  replace RW := Lib.hid RW
  replace IN := Lib.hid IN
  replace FR := Lib.hid FR
  have hn12 : (n : Int) ≤ 12 := by omega
  clear hin hE hm0 hcm hL hf hr hlen hR
  obtain ⟨c0, c1, c2, -⟩ := HE.out.row.three
  go_enter Try.func9, Try.ntmps9
  go_wp2_with fail
  refine (RW.out _ HE.out.bel).mono ?_
  rintro e w1 ⟨rfl, hb1⟩
  have HE1 := Lib.hid (HE.out.next hb1)
  clear hb1 c0 c1 c2 RW HE
  obtain ⟨c0, c1, c2, -⟩ := HE1.out.row.three
  go_wp2_with fail
  refine (IN.out _).mono ?_
  rintro e w2 ⟨rfl, rfl⟩
  go_wp2_with fail
  refine (FR.out _ HE1.out.bel).mono ?_
  rintro e w3 ⟨v, rfl, hO, hb3⟩
  have HE3 := Lib.hid (HE1.out.next hb3)
  obtain ⟨qv, cv, rfl, -⟩ := hO.rd
  rw [HF.out]
  clear hb3 c0 c1 c2 FR IN HE1 hO HF
  obtain ⟨c0, c1, c2, -⟩ := HE3.out.row.three
  by_cases hfa : f < a
  case pos =>
    have h1 : (f : Int) < (a : Int) := by omega
    have hR := HR.out
    rw [if_pos hfa] at hR
    subst hR
    clear HR
    go_wp2_with fail
    go_ret2
    exact ⟨rfl, HE3.out.bel⟩
  case neg =>
    have h1 : ¬ (f : Int) < (a : Int) := by omega
    have hR := HR.out
    rw [if_neg hfa] at hR
    clear HR
    cases ring with
    | true =>
      rw [if_pos rfl] at hR
      have P := Lib.hid (fun w' => l6Power_any n a (by omega) (fun j hj => Nat.le_trans (pow12 hn (by omega)) (by omega)) w')
      rw [hR] at P
      clear hR
      go_wp2_with fail
      refine (P.out _).mono ?_
      rintro e w4 ⟨rfl, rfl⟩
      go_wp2_with fail
      go_ret2
      exact ⟨rfl, HE3.out.bel⟩
    | false =>
      rw [if_neg (by simp)] at hR
      have HR := Lib.hid hR
      clear hR
      have HMK : Hid (∀ w', _) := Lib.hid (fun w' => @run_make_row' Try.prog 22 3 (.int .i64 0) 8 Try.underlying22 infoInt rfl .i64 .i64 (a + 1) (by omega) (by omega) w')
      rw [madeCells_one, nr_zero] at HMK
      rw [show ((a + 1 : Nat) : Int) = (a : Int) + 1 by omega] at HMK
      have hmk := HMK.out w3
      obtain ⟨w4, hw4⟩ : ∃ w4, w4 = w3.alloc (.cells (iv (ints (nrM (a + 1) fun _ => 0))).toArray 3) := ⟨_, rfl⟩
      rw [← hw4] at hmk
      have hO4 : OwnArr w4 w3.heap.size 3 (iv (ints (nrM (a + 1) fun _ => 0))) := by rw [hw4]; exact OwnArr.made _ _ _
      have hE4 : RowE w n false p m0 cap w4 := by rw [hw4]; exact HE3.out.next ((Below.refl _ _).alloc (Nat.le_refl _) _)
      have hg4 : w.heap.size + 1 ≤ w3.heap.size := HE3.out.row.lt
      obtain ⟨d0, d1, d2, -⟩ := hE4.row.three
      have hc1 := hO4.cell 0
      have hf1 := hO4.free 0
      rw [nr_get (by omega)] at hc1
      have hs1 := hO4.set 0 (.int .i64 ((1 : Nat) : Int))
      rw [nr_set] at hs1
      have HO5 : Hid (OwnArr (w4.setCell ⟨w3.heap.size, 0, none⟩ (.int .i64 1)) w3.heap.size 3 (iv (ints (nrM (a + 1) (tbM a (rmM n S) 0))))) := hs1
      have HE5 := Lib.hid (hE4.next1 ((Below.refl _ _).setCell (p := ⟨w3.heap.size, 0, none⟩) hg4 (.int .i64 1)))
      have hw1 : IntKind.i64.wrap ((a : Int) + 1) = (a : Int) + 1 := IntWalk.i64_in _ (by omega)
      have hw2 : IntKind.i64.wrap ((n : Int) - 1) = (n : Int) - 1 := IntWalk.i64_in _ (by omega)
      have hn1 : (0 : Int) < (a : Int) + 1 := by omega
      obtain ⟨e0, e1, e2, -⟩ := HE5.out.row.three
      have HG := Lib.hid hg4
      clear hw4 hO4 hE4 hs1 hg4
      go_wp2_with fail
      clear hmk hc1 hf1 hn1 d0 d1 d2 e0 e1 e2 c0 c1 c2
      go_loopw [7, 8, 9, 10, 11, 12] (fun wv rv pv _ _ _ wr => ∃ (t g : Nat), t ≤ n ∧ wv = .slice (some ⟨g, 0, none⟩) (a + 1) (a + 1) ∧ rv = .int .i64 ((rmM n S t : Nat) : Int) ∧ pv = .int .i64 ((n : Int) - 1 - (t : Int)) ∧ Hid (w.heap.size + 1 ≤ g) ∧ Hid (OwnArr wr g 3 (iv (ints (nrM (a + 1) (tbM a (rmM n S) t))))) ∧ Hid (RowE w n false p m0 cap wr)) (fun _ _ pv _ _ _ _ => ((intOf pv) + 1).toNat)
      case atStart => exact ⟨0, _, Nat.zero_le _, rfl, rfl, by go_num, HG, HO5, HE5⟩
      case round =>
        obtain ⟨t, g, ht, rfl, rfl, rfl, HG2, HO, HE⟩ := hrel
        clear HG HO5 HE5
        by_cases htn : t < n
        · obtain ⟨q, hq⟩ : ∃ q, n - 1 - t = q := ⟨_, rfl⟩
          have hqe : (n : Int) - 1 - (t : Int) = (q : Int) := by omega
          have hqn : q < n := by omega
          have hq0 : (0 : Int) ≤ (q : Int) := by omega
          have I0 := IS.out q hqn wr HE.out.bel
          have hrt := rm_taken (t := t) (S := S) hq
          have hrf := rm_free (t := t) (S := S) hq
          have hrl := rm_le n S t
          have hrl1 := rm_le n S (t + 1)
          obtain ⟨B, hB⟩ : ∃ B, S q = B := ⟨_, rfl⟩
          rw [hB] at I0 hrt hrf
          obtain ⟨r0, hr0⟩ : ∃ r0, rmM n S t = r0 := ⟨_, rfl⟩
          obtain ⟨r1, hr1⟩ : ∃ r1, rmM n S (t + 1) = r1 := ⟨_, rfl⟩
          rw [hr0, hr1] at hrt hrf
          rw [hr0] at hrl ⊢
          rw [hr1] at hrl1
          have HR1 := Lib.hid hr1
          have HRT := Lib.hid hrt
          have HRF := Lib.hid hrf
          replace I0 := Lib.hid I0
          have hwr : IntKind.i64.wrap ((r0 : Int) + 1) = (r0 : Int) + 1 := IntWalk.i64_in _ (by omega)
          have hwq : IntKind.i64.wrap ((q : Int) - 1) = (q : Int) - 1 := IntWalk.i64_in _ (by omega)
          have hqe2 : (q : Int) - 1 = (n : Int) - 1 - ((t + 1 : Nat) : Int) := by omega
          have HQE := Lib.hid hqe2
          rw [hqe]
          clear hq hqe hrt hrf hB hr0 hr1 hqe2
          obtain ⟨c0, c1, c2, -⟩ := HE.out.row.three
          go_wp2_with fail
          refine (I0.out).mono ?_
          rintro e w5 ⟨rfl, hb5⟩
          have HE5 := Lib.hid (HE.out.next hb5)
          have HO5 := Lib.hid (HO.out.below hb5 HO.out.lt)
          clear hb5 c0 c1 c2 HE HO I0
          go_upto_if 53 with fail
          go_cut [8] (fun v wx => v = .int .i64 (r1 : Int) ∧ w5 = wx)
          case first =>
            cases B with
            | true =>
              have h := HRT.out rfl
              subst h
              go_wp2_with fail
              go_meet
              exact ⟨rfl, rfl⟩
            | false =>
              have h := HRF.out rfl
              subst h
              go_wp2_with fail
              go_meet
              exact ⟨by go_num, rfl⟩
          case rest =>
            obtain ⟨rfl, rfl⟩ := hcut
            clear HRT HRF hwr
            obtain ⟨F, hF⟩ : ∃ F, tbM a (rmM n S) t = F := ⟨_, rfl⟩
            have HTB : Hid (tbM a (rmM n S) (t + 1) = psM a r1 F (a + 1)) := by
              show tbM a (rmM n S) (t + 1) = _
              rw [← hF, ← HR1.out]; rfl
            have HPB : Hid (∀ j k i, j ≤ a → i ≤ a → ptM a r1 F j k i ≤ 100000000000000) := by
              show ∀ _, _
              intro j k i hj hi'
              rw [← hF]
              exact pt_big ha _ (by omega) hj hi'
            have HFB : Hid (∀ j, j ≤ a → F j ≤ 100000000000000) := by
              show ∀ _, _
              intro j hj
              rw [← hF]
              exact tb_big ha _ (by omega) hj
            rw [hF] at HO5
            clear hF
            have hmk := HMK.out w5
            obtain ⟨w6, hw6⟩ : ∃ w6, w6 = w5.alloc (.cells (iv (ints (nrM (a + 1) fun _ => 0))).toArray 3) := ⟨_, rfl⟩
            rw [← hw6] at hmk
            obtain ⟨g2, hg2⟩ : ∃ g2, w5.heap.size = g2 := ⟨_, rfl⟩
            have HN : Hid (OwnArr w6 g2 3 (iv (ints (nrM (a + 1) (psM a r1 F 0))))) := by
              show OwnArr _ _ _ _
              rw [hw6, ← hg2]; exact OwnArr.made _ _ _
            have HE6 : Hid (RowE w n false p m0 cap w6) := by
              show RowE _ _ _ _ _ _ _
              rw [hw6]; exact HE5.out.next ((Below.refl _ _).alloc (Nat.le_refl _) _)
            have HO6 : Hid (OwnArr w6 g 3 (iv (ints (nrM (a + 1) F)))) := by
              show OwnArr _ _ _ _
              rw [hw6]; exact HO5.out.alloc _
            have HGG : Hid (g < g2) := by show g < g2; rw [← hg2]; exact HO5.out.lt
            rw [hg2] at hmk
            clear hw6 hg2 HE5 HO5
            go_wp2_with fail
            clear hmk
            go_loopw [11, 12] (fun jv _ wr => ∃ (j : Nat), j ≤ a + 1 ∧ jv = .int .i64 (j : Int) ∧ Hid (OwnArr wr g2 3 (iv (ints (nrM (a + 1) (psM a r1 F j))))) ∧ Hid (OwnArr wr g 3 (iv (ints (nrM (a + 1) F)))) ∧ Hid (RowE w n false p m0 cap wr)) (fun jv _ _ => a + 1 - (intOf jv).toNat)
            case atStart => exact ⟨0, by omega, rfl, HN, HO6, HE6⟩
            case round =>
              obtain ⟨j, hj, rfl, HN7, HO7, HE7⟩ := hrel
              clear HN HO6 HE6
              by_cases hja : j ≤ a
              · have hj1 : (j : Int) ≤ (a : Int) := by omega
                have HN0 : Hid (OwnArr wr g2 3 (iv (ints (nrM (a + 1) (ptM a r1 F j 0))))) := by
                  show OwnArr _ _ _ _
                  rw [nr_congr (G := psM a r1 F j) (fun i _ => pt_zero _ _ _ _ _)]
                  exact HN7.out
                clear HN7
                go_wp2_with fail
                go_loopw [12] (fun kv wr => ∃ (k : Nat), j + k ≤ a + 1 ∧ kv = .int .i64 (k : Int) ∧ Hid (OwnArr wr g2 3 (iv (ints (nrM (a + 1) (ptM a r1 F j k))))) ∧ Hid (OwnArr wr g 3 (iv (ints (nrM (a + 1) F)))) ∧ Hid (RowE w n false p m0 cap wr)) (fun kv _ => a + 1 - (intOf kv).toNat)
                case atStart => exact ⟨0, by omega, rfl, HN0, HO7, HE7⟩
                case round =>
                  obtain ⟨k, hk, rfl, HN8, HO8, HE8⟩ := hrel
                  clear HN0 HO7 HE7
                  have hwjk : IntKind.i64.wrap ((j : Int) + (k : Int)) = (j : Int) + (k : Int) := IntWalk.i64_in _ (by omega)
                  by_cases hka : j + k ≤ a ∧ j + k ≤ r1
                  · have hk1 : (j : Int) + (k : Int) ≤ (a : Int) := by omega
                    have hk2 : (j : Int) + (k : Int) ≤ (r1 : Int) := by omega
                    have hjl : (j : Int) < (a : Int) + 1 := by omega
                    have hj0 : (0 : Int) ≤ (j : Int) := by omega
                    have hkl : (j : Int) + (k : Int) < (a : Int) + 1 := by omega
                    have hk0 : (0 : Int) ≤ (j : Int) + (k : Int) := by omega
                    have hc8 := HN8.out.cell (j + k)
                    have hf8 := HN8.out.free (j + k)
                    rw [nr_get (by omega)] at hc8
                    have hcy := HO8.out.cell j
                    rw [nr_get (by omega)] at hcy
                    have CH := fun w' => l6Choose_any (a - j) k (by omega) (by omega) w'
                    rw [show ((a - j : Nat) : Int) = (a : Int) - (j : Int) by omega] at CH
                    have hps := pt_step (F := F) hka.1 hka.2
                    have hst := hps (j + k)
                    rw [if_pos rfl] at hst
                    have hb1 := HPB.out j k (j + k) hja hka.1
                    have hb2 := HPB.out j (k + 1) (j + k) hja hka.1
                    have hset := HN8.out.set (j + k) (.int .i64 ((ptM a r1 F j (k + 1) (j + k) : Nat) : Int))
                    rw [nr_set, nr_congr (G := ptM a r1 F j (k + 1)) (fun i _ => by
                      by_cases e : i = j + k
                      · subst e; rw [if_pos rfl]
                      · rw [if_neg e, hps i, if_neg e])] at hset
                    obtain ⟨x, hx⟩ : ∃ x, ptM a r1 F j k (j + k) = x := ⟨_, rfl⟩
                    obtain ⟨z, hz⟩ : ∃ z, ptM a r1 F j (k + 1) (j + k) = z := ⟨_, rfl⟩
                    obtain ⟨y, hy⟩ : ∃ y, F j = y := ⟨_, rfl⟩
                    obtain ⟨c, hc⟩ : ∃ c, chN (a - j) k = c := ⟨_, rfl⟩
                    rw [hc] at CH
                    rw [hx, hz, hy, hc] at hst
                    rw [hx] at hb1 hc8
                    rw [hz] at hb2 hset
                    rw [hy] at hcy
                    obtain ⟨d, hd⟩ : ∃ d, y * c = d := ⟨_, rfl⟩
                    rw [hd] at hst
                    have hmd : (y : Int) * (c : Int) = (d : Int) := by rw [← hd]; push_cast; rfl
                    have hwd : IntKind.i64.wrap (d : Int) = (d : Int) := IntWalk.i64_in _ (by omega)
                    have hxd : (x : Int) + (d : Int) = (z : Int) := by omega
                    have hwz : IntKind.i64.wrap (z : Int) = (z : Int) := IntWalk.i64_in _ (by omega)
                    have hwaj : IntKind.i64.wrap ((a : Int) - (j : Int)) = (a : Int) - (j : Int) := IntWalk.i64_in _ (by omega)
                    have hto : ((j : Int) + (k : Int)).toNat = j + k := by omega
                    rw [← hto] at hc8 hf8 hset
                    have HN9 : Hid (OwnArr (wr.setCell ⟨g2, ((j : Int) + (k : Int)).toNat, none⟩ (.int .i64 (z : Int))).drew g2 3 (iv (ints (nrM (a + 1) (ptM a r1 F j (k + 1)))))) := hset
                    have HO9 : Hid (OwnArr (wr.setCell ⟨g2, ((j : Int) + (k : Int)).toNat, none⟩ (.int .i64 (z : Int))).drew g 3 (iv (ints (nrM (a + 1) F)))) := by
                      show OwnArr _ _ _ _
                      have h1 : g + 1 ≤ g2 := HGG.out
                      exact HO8.out.below (((Below.refl (g + 1) wr).setCell (p := ⟨g2, _, none⟩) h1 _).drew) (Nat.lt_succ_self _)
                    have HE9 : Hid (RowE w n false p m0 cap (wr.setCell ⟨g2, ((j : Int) + (k : Int)).toNat, none⟩ (.int .i64 (z : Int))).drew) := by
                      show RowE _ _ _ _ _ _ _
                      have h1 : w.heap.size + 1 ≤ g2 := by have h1 := HG2.out; have h2 : g + 1 ≤ g2 := HGG.out; omega
                      exact HE8.out.next1 (((Below.refl _ wr).setCell (p := ⟨g2, _, none⟩) h1 _).drew)
                    replace CH := Lib.hid CH
                    have hkc := hk
                    clear hset hps hst hb1 hb2 hx hz hy hc hd hto
                    go_wp2_with fail
                    go_region_with (go_at_call 31; refine (CH.out _).mono ?_; rintro e w9 ⟨rfl, rfl⟩)
                    all_goals
                      go_wp2_with fail
                      go_roundw
                      case rel => exact ⟨k + 1, by omega, by go_num, HN9, HO9, HE9⟩
                      case measure => simp [intOf]; omega
                  · have HN9 : Hid (OwnArr wr g2 3 (iv (ints (nrM (a + 1) (psM a r1 F (j + 1)))))) := by
                      show OwnArr _ _ _ _
                      rw [← nr_congr (F := ptM a r1 F j k) (fun i _ => pt_end (by omega) _)]
                      exact HN8.out
                    clear HN8
                    by_cases hk1 : j + k ≤ a
                    · have hk1' : (j : Int) + (k : Int) ≤ (a : Int) := by omega
                      have hk2 : ¬ (j : Int) + (k : Int) ≤ (r1 : Int) := by omega
                      go_wp2_with fail
                      go_roundw
                      case rel => exact ⟨j + 1, by omega, by go_num, HN9, HO8, HE8⟩
                      case measure => simp [intOf]; omega
                    · have hk1' : ¬ (j : Int) + (k : Int) ≤ (a : Int) := by omega
                      go_wp2_with fail
                      go_roundw
                      case rel => exact ⟨j + 1, by omega, by go_num, HN9, HO8, HE8⟩
                      case measure => simp [intOf]; omega
              · have hja2 : j = a + 1 := by omega
                subst hja2
                have hj1 : ¬ ((a + 1 : Nat) : Int) ≤ (a : Int) := by omega
                rw [← HTB.out] at HN7
                clear HTB HPB HFB HO7
                have HG3 : Hid (w.heap.size + 1 ≤ g2) := by show _ ≤ _; have h1 := HG2.out; have h2 := HGG.out; omega
                go_wp2_with fail
                go_roundw
                case rel => exact ⟨t + 1, g2, by omega, rfl, by rw [HR1.out], by rw [HQE.out], HG3, HN7, HE7⟩
                case measure => simp [intOf]; try omega
        · have htn2 : t = n := by omega
          subst htn2
          have hp0 : ¬ (0 : Int) ≤ (t : Int) - 1 - (t : Int) := by omega
          have hc := HO.out.cell a
          rw [nr_get (by omega), HR.out] at hc
          have ha1 : (a : Int) < (a : Int) + 1 := by omega
          have ha0 : (0 : Int) ≤ (a : Int) := by omega
          clear HR
          go_wp2_with fail
          go_ret2
          exact ⟨rfl, HE.out.bel⟩
end Go.Proofs.Ytfabannlebolfaa
