/- spec.PartSeats, for every Row and all numbers. -/
import Derived.Test.YtefbepebgmalpaaTake
import Derived.StillTailTactics
import Derived.Lib.SmallJoins
namespace Go.Proofs.Ytefbepebgmalpaa
open Go.RowKit

/-- the line of m seats from a on can be had -/
def partB (s : Int) (ring : Bool) (xs : List Int) (a m : Int) : Bool := seatB s ring xs a && ((decide (2 ≤ m) && decide (m ≤ s)) && (ring || decide (a + m ≤ s)))

set_option maxRecDepth 4000 in
set_option maxHeartbeats 1600000 in
theorem partS_bad (s : Int) (ring : Bool) (p : Option Addr) (cap : Nat) (xs : List Int) (a m : Int) (w : World) (lo hi : Nat) (hin : Ri lo hi w p xs) (hlen : xs.length ≤ 1048576) (h : partB s ring xs a m = false) :
    Calls Try.prog 20 #[rowV s ring p xs.length cap, .int .i64 a, .int .i64 m] w (MadeRow w 0 false [] false) := by
  have hE := Beg.start w s ring p xs.length cap
  have R := fun (w' : World) (h' : Below w.heap.size w w') => l2Seat_any s ring p cap xs a w' lo hi (hin.below h' hin.top) hlen
  have IN := fun w' => l1In_any m 2 s w'
  have HE := Lib.hid hE
  replace R := Lib.hid R
  clear hE hin
  unfold MadeRow
  unfold partB at h
  cases hr : seatB s ring xs a with
  | false =>
    rw [hr] at R
    clear h hr
    go_enter Try.func20, Try.ntmps20
    go_wp2_with fail
    refine (R.out _ HE.out.bel).mono ?_
    rintro e w1 ⟨rfl, hb1⟩
    have HE1 := Lib.hid (HE.out.next hb1)
    obtain ⟨z0, z1, z2, y0, y1, y2⟩ := HE1.out.res.three
    clear HE hb1 R
    go_wp2_with fail
    exact ret_row2 Try.results20 rfl rfl (HE1.out.out _ _ _).1 rfl ⟨_, rfl, Out.none _ _, (HE1.out.out _ _ _).2⟩
  | true =>
    rw [hr] at R h
    simp only [Bool.true_and] at h
    cases hm : (decide (2 ≤ m) && decide (m ≤ s)) with
    | false =>
      rw [hm] at IN
      replace IN := Lib.hid IN
      clear h hr hm
      go_enter Try.func20, Try.ntmps20
      go_wp2_with fail
      refine (R.out _ HE.out.bel).mono ?_
      rintro e w1 ⟨rfl, hb1⟩
      have HE1 := Lib.hid (HE.out.next hb1)
      obtain ⟨z0, z1, z2, y0, y1, y2⟩ := HE1.out.res.three
      obtain ⟨c0, c1, c2, -⟩ := HE1.out.row.three
      clear HE hb1 R
      go_wp2_with fail
      refine (IN.out _).mono ?_
      rintro e w2 ⟨rfl, rfl⟩
      go_wp2_with fail
      exact ret_row2 Try.results20 rfl rfl (HE1.out.out _ _ _).1 rfl ⟨_, rfl, Out.none _ _, (HE1.out.out _ _ _).2⟩
    | true =>
      rw [hm] at IN h
      simp only [Bool.true_and] at h
      replace IN := Lib.hid IN
      cases ring with
      | true => simp at h
      | false =>
        simp only [Bool.false_or, decide_eq_false_iff_not] at h
        simp only [Bool.and_eq_true, decide_eq_true_eq] at hm
        have h8 : 0 ≤ a ∧ a < 24 ∧ s ≤ 24 := by
          obtain ⟨n, S, k, rfl, -, rfl, h1, h2, h3, -⟩ := seat_is hr
          omega
        obtain ⟨h81, h82, h83⟩ := h8
        obtain ⟨hm1, hm2⟩ := hm
        have e1 : IntKind.i64.wrap (a + m) = a + m := IntWalk.i64_in _ (by omega)
        have h9 : s < a + m := by omega
        clear hr h
        go_enter Try.func20, Try.ntmps20
        go_wp2_with fail
        refine (R.out _ HE.out.bel).mono ?_
        rintro e w1 ⟨rfl, hb1⟩
        have HE1 := Lib.hid (HE.out.next hb1)
        obtain ⟨z0, z1, z2, y0, y1, y2⟩ := HE1.out.res.three
        obtain ⟨c0, c1, c2, -⟩ := HE1.out.row.three
        clear HE hb1 R
        go_wp2_with fail
        refine (IN.out _).mono ?_
        rintro e w2 ⟨rfl, rfl⟩
        go_wp2_with fail
        exact ret_row2 Try.results20 rfl rfl (HE1.out.out _ _ _).1 rfl ⟨_, rfl, Out.none _ _, (HE1.out.out _ _ _).2⟩

set_option maxRecDepth 4000 in
set_option maxHeartbeats 4000000 in
theorem partS_any (n : Nat) (ring : Bool) (p : Option Addr) (cap : Nat) (S : Nat → Bool) (a m : Nat) (w : World) (lo hi' : Nat) (hin : Ri lo hi' w p (ints (tk n S))) (h2 : 2 ≤ n) (hn : n ≤ 24) (h3 : ring = true → 3 ≤ n) (ha : a < n) (hm2 : 2 ≤ m) (hmn : m ≤ n) (hr : ring = false → a + m ≤ n) :
    Calls Try.prog 20 #[rowV n ring p (ints (tk n S)).length cap, .int .i64 a, .int .i64 m] w (MadeRow w m false (ints (tk m fun i => S ((a + i) % n))) true) := by
  obtain ⟨i0, hi, hz0, hz1, hz2⟩ := info_parts infoInt
  have hlen := ints_tk_len n S
  have hE := Beg.start w n ring p (ints (tk n S)).length cap
  have R := fun (w' : World) (h' : Below w.heap.size w w') => l2Seat_any n ring p cap (ints (tk n S)) a w' lo hi' (hin.below h' hin.top) (by omega)
  have hv : seatB n ring (ints (tk n S)) a = true := by
    unfold seatB
    rw [rowB_of h2 hn h3]
    simp
    omega
  rw [hv] at R
  have IN := fun w' => l1In_any (m : Int) 2 (n : Int) w'
  have hC : (decide (2 ≤ (m : Int)) && decide ((m : Int) ≤ (n : Int))) = true := by simp; omega
  rw [hC] at IN
  have IS := fun (j : Nat) (w' : World) (h' : Below w.heap.size w w') => l2Is_any n ring p cap (ints (tk n S)) (((a + j) % n : Nat) : Int) w' lo hi' (hin.below h' hin.top) (by omega)
  have hS : ∀ j, decide ((((a + j) % n : Nat) : Int) ∈ ints (tk n S)) = S ((a + j) % n) := fun j => has_tk (Nat.mod_lt _ (by omega))
  have hC2 : ring = true ∨ (a : Int) + (m : Int) ≤ (n : Int) := by
    cases ring with
    | true => exact .inl rfl
    | false => exact .inr (by have := hr rfl; omega)
  have e1 : IntKind.i64.wrap ((a : Int) + (m : Int)) = (a : Int) + (m : Int) := IntWalk.i64_in _ (by omega)
  replace HI := Lib.hid hin
  have HE := Lib.hid hE
  replace R := Lib.hid R
  replace IN := Lib.hid IN
  replace IS := Lib.hid IS
  replace hS := Lib.hid hS
  obtain ⟨q, hq⟩ : ∃ q, (ints (tk n S)).length = q := ⟨_, rfl⟩
  rw [hq] at HE R IS ⊢
  clear hE hin hC hv hq hlen h3
  unfold MadeRow
  cases ring with
  | true =>
    clear hC2
    go_enter Try.func20, Try.ntmps20
    go_wp2_with fail
    refine (R.out _ HE.out.bel).mono ?_
    rintro e w1 ⟨rfl, hb1⟩
    have HE1 := Lib.hid (HE.out.next hb1)
    clear HE R hb1
    obtain ⟨c0, c1, c2, -⟩ := HE1.out.row.three
    go_wp2_with fail
    refine (IN.out _).mono ?_
    rintro e w2 ⟨rfl, rfl⟩
    clear IN
    obtain ⟨w3, hw3⟩ : ∃ w3, w3 = (w1.alloc (.cells #[] 3)).alloc (.cells #[Value.int .i64 m, Value.bool false, Value.slice (some ⟨w1.heap.size, 0, none⟩) 0 0] 26) := ⟨_, rfl⟩
    have hB3 : Below w1.heap.size w1 w3 := by rw [hw3]; exact ((Below.refl _ w1).alloc (Nat.le_refl _) _).alloc (by simp) _
    have hX3 : OwnArr w3 (w1.heap.size + 1) 26 [.int .i64 m, .bool false, .slice (some ⟨w1.heap.size, 0, none⟩) 0 0] := by rw [hw3]; exact OwnArr.mk' rfl (by simp)
    have hO3 : Out w1.heap.size w3 (.slice (some ⟨w1.heap.size, 0, none⟩) 0 0) [] := by rw [hw3]; exact World.ownsRow.alloc (Out.nilLit w1) _
    have HE3 := Lib.hid (HE1.out.next hB3)
    have HX3 := Lib.hid hX3
    have HO3 := Lib.hid (hO3.mono (Nat.le_of_lt HE1.out.res.lt))
    have hX13 : w.heap.size + 1 < w1.heap.size := HE1.out.res.lt
    clear HE1 hB3 hX3 hO3
    go_wp2_with fail
    rw [← hw3]
    clear c0 c1 c2 hw3
    go_loopw [9] (fun i wr => ∃ (j : Nat) (v : Value), j ≤ m ∧ i = .int .i64 j ∧ Hid (Beg w n true p q cap wr) ∧ Hid (OwnArr wr (w1.heap.size + 1) 26 [.int .i64 m, .bool false, v]) ∧ Hid (Out (w.heap.size + 1) wr v (ints (tk j fun i => S ((a + i) % n))))) (fun i _ => m - (intOf i).toNat)
    case atStart => exact ⟨0, _, Nat.zero_le _, rfl, HE3, HX3, HO3⟩
    case round =>
      obtain ⟨j, v, hj, rfl, HE, HX, HO⟩ := hrel
      clear HE3 HX3 HO3
      obtain ⟨c0, c1, c2, -⟩ := HE.out.row.three
      by_cases hlt : j < m
      · have ht1 : (j : Int) < (m : Int) := by omega
        have is := IS.out j
        rw [hS.out j] at is
        obtain ⟨z, hz⟩ : ∃ z, (a + j) % n = z := ⟨_, rfl⟩
        rw [hz] at is
        obtain ⟨t, ht⟩ : ∃ t, S z = t := ⟨_, rfl⟩
        rw [ht] at is
        have ht' : (fun i => S ((a + i) % n)) j = t := by show S ((a + j) % n) = t; rw [hz, ht]
        have IS2 := Lib.hid is
        have hzz1 : ((a : Int) + (j : Int)) % (n : Int) = (z : Int) := by rw [← hz]; push_cast; rfl
        have hzz2 : ((a : Int) + (j : Int)).tmod (n : Int) = (z : Int) := by rw [Int.tmod_eq_emod_of_nonneg (by omega)]; exact hzz1
        have hn0 : ¬ n = 0 := by omega
        have e2 : IntKind.i64.wrap ((a : Int) + (j : Int)) = (a : Int) + (j : Int) := IntWalk.i64_in _ (by omega)
        have HED : Hid (Beg w n true p q cap wr.drew) := by show Beg _ _ _ _ _ _ _; exact HE.out.next ((Below.refl _ _).drew)
        have HXD : Hid (OwnArr wr.drew (w1.heap.size + 1) 26 [.int .i64 m, .bool false, v]) := HX.out
        have HOD : Hid (Out (w.heap.size + 1) wr.drew v (ints (tk j fun i => S ((a + i) % n)))) := HO.out
        clear is ht hz HE HX HO
        go_wp2_with fail
        go_still_tail 7, (by kernel_rfl)
        change wpList _ _ _ _ _ wr.drew
        go_wp2_with fail
        refine (IS2.out _ HED.out.bel).mono ?_
        rintro e wq ⟨rfl, hbq⟩
        have HEQ := Lib.hid (HED.out.next hbq)
        have HXQ := Lib.hid (HXD.out.below hbq HXD.out.lt)
        have HOQ := Lib.hid (HOD.out.below hbq)
        clear HED HXD HOD IS2 c0 c1 c2 hbq
        obtain ⟨x0, x1, x2, f0, f1, f2⟩ := HXQ.out.three
        cases t with
        | true =>
          have HT := Lib.hid (ints_tk_yes (T := fun i => S ((a + i) % n)) (k := j) ht')
          have HL := Lib.hid (ints_tk_len j (fun i => S ((a + i) % n)))
          have hne1 := Lib.hid (own_ne HOQ.out HXQ.out)
          have hne2 := Lib.hid (own_ne HOQ.out HEQ.out.row)
          have hne3 := Lib.hid (own_ne HOQ.out HEQ.out.res)
          have hblk := Lib.hid (own_block HOQ.out)
          obtain ⟨l, vs, hl, hvs, hown⟩ := HOQ.out.open'
          have hlk := HL.out
          rw [hl] at hlk
          have hsz2 := HXQ.out.lt
          have hszr := HEQ.out.res.lt
          replace hl := Lib.hid hl
          replace hvs := Lib.hid hvs
          clear ht'
          go_wp2_with (at_builtin; refine wpList_append_own _ rfl _ _ 22 rfl (w.heap.size + 1) 3 i0 (.int .i64 0) 1 8 Try.underlying22 hi hz0 hz1 hz2 rfl (by decide) _ _ _ rfl (hown.alloc _) ⟨wq.heap.size, 0, none⟩ 1 1 [.int .i64 (j : Int)] rfl rfl (cell_one_new _ _ _) (fun x hx => by simp at hx; subst hx; rfl) (by unfold maxLen; omega) (by omega) (by simp; omega) ?_; intro v' w5 hown' hgrow5 hnil5; obtain ⟨g', cp', rfl⟩ := Go.Joins.ownsRow_form hown' (by omega); have HX5 := Lib.hid (OwnArr.grown (HXQ.out.alloc _) hgrow5 hne1.out); have HR5 := Lib.hid (OwnArr.grown (HEQ.out.row.alloc _) hgrow5 hne2.out); have HS5 := Lib.hid (OwnArr.grown (HEQ.out.res.alloc _) hgrow5 hne3.out); obtain ⟨d0, d1, d2, g0, g1, g2⟩ := HX5.out.three)
          have hG : Below w.heap.size wq w5 := ((Below.refl w.heap.size wq).alloc (by omega) _).grown hgrow5 (by simp; omega) (fun k' h' => by have := hblk.out k' h'; omega)
          have HO5 : Hid (Out (w.heap.size + 1) w5 (.slice (some ⟨g', 0, none⟩) (l + 1) cp') (ints (tk (j + 1) fun i => S ((a + i) % n)))) := by
            show Out _ _ _ _
            rw [HT.out]; exact Out.close hl.out hvs.out hown'
          have hne5 := Lib.hid (own_ne HO5.out HX5.out)
          have HX6 := Lib.hid (HX5.out.set 2 (.slice (some ⟨g', 0, none⟩) (l + 1) cp'))
          have HE6 : Hid (Beg w n true p q cap (w5.setCell ⟨w1.heap.size + 1, 2, none⟩ (.slice (some ⟨g', 0, none⟩) (l + 1) cp'))) := by
            refine ⟨HR5.out.other (a := ⟨w1.heap.size + 1, 2, none⟩) (by show w.heap.size ≠ w1.heap.size + 1; omega) _, HS5.out.other (a := ⟨w1.heap.size + 1, 2, none⟩) (by show w.heap.size + 1 ≠ w1.heap.size + 1; omega) _, ?_⟩
            exact (HEQ.out.bel.trans hG).setCell (p := ⟨w1.heap.size + 1, 2, none⟩) (by show _ ≤ w1.heap.size + 1; omega) _
          have HO6 := Lib.hid (HO5.out.other (a := ⟨w1.heap.size + 1, 2, none⟩) hne5.out (.slice (some ⟨g', 0, none⟩) (l + 1) cp'))
          clear hown' hgrow5 hnil5 hown hG HO5 HX5 HR5 HS5 hne5 HXQ HEQ HOQ
          go_wp2_with fail
          go_roundw
          case rel => exact ⟨j + 1, _, by omega, by go_num, HE6, HX6, HO6⟩
          case measure => simp [intOf]; omega
        | false =>
          have HT := Lib.hid (ints_tk_no (T := fun i => S ((a + i) % n)) (k := j) ht')
          have ho := HOQ.out
          rw [← HT.out] at ho
          have HO6 := Lib.hid ho
          clear ho HOQ ht'
          go_wp2_with fail
          go_roundw
          case rel => exact ⟨j + 1, v, by omega, by go_num, HEQ, HXQ, HO6⟩
          case measure => simp [intOf]; omega
      · have hjm : j = m := by omega
        subst hjm
        obtain ⟨qa, qc, rfl, -⟩ := HO.out.rd
        have HO2 := Lib.hid HO.out
        obtain ⟨mm, hmm⟩ : ∃ mm, (ints (tk j fun i => S ((a + i) % n))).length = mm := ⟨_, rfl⟩
        rw [hmm] at HX HO2
        obtain ⟨x0, x1, x2, -⟩ := HX.out.three
        obtain ⟨z0, z1, z2, y0, y1, y2⟩ := HE.out.res.three
        clear HO hmm
        go_wp2_with fail
        exact ret_row2 Try.results20 rfl rfl (HE.out.out _ _ _).1 rfl ⟨_, rfl, (HO2.out.boxed HE.out.res _ _ _).mono (Nat.le_succ _), (HE.out.out _ _ _).2⟩
  | false =>
    have h9 : (a : Int) + (m : Int) ≤ (n : Int) := hC2.resolve_left (by simp)
    clear hC2
    go_enter Try.func20, Try.ntmps20
    go_wp2_with fail
    refine (R.out _ HE.out.bel).mono ?_
    rintro e w1 ⟨rfl, hb1⟩
    have HE1 := Lib.hid (HE.out.next hb1)
    clear HE R hb1
    obtain ⟨c0, c1, c2, -⟩ := HE1.out.row.three
    go_wp2_with fail
    refine (IN.out _).mono ?_
    rintro e w2 ⟨rfl, rfl⟩
    clear IN
    obtain ⟨w3, hw3⟩ : ∃ w3, w3 = (w1.alloc (.cells #[] 3)).alloc (.cells #[Value.int .i64 m, Value.bool false, Value.slice (some ⟨w1.heap.size, 0, none⟩) 0 0] 26) := ⟨_, rfl⟩
    have hB3 : Below w1.heap.size w1 w3 := by rw [hw3]; exact ((Below.refl _ w1).alloc (Nat.le_refl _) _).alloc (by simp) _
    have hX3 : OwnArr w3 (w1.heap.size + 1) 26 [.int .i64 m, .bool false, .slice (some ⟨w1.heap.size, 0, none⟩) 0 0] := by rw [hw3]; exact OwnArr.mk' rfl (by simp)
    have hO3 : Out w1.heap.size w3 (.slice (some ⟨w1.heap.size, 0, none⟩) 0 0) [] := by rw [hw3]; exact World.ownsRow.alloc (Out.nilLit w1) _
    have HE3 := Lib.hid (HE1.out.next hB3)
    have HX3 := Lib.hid hX3
    have HO3 := Lib.hid (hO3.mono (Nat.le_of_lt HE1.out.res.lt))
    have hX13 : w.heap.size + 1 < w1.heap.size := HE1.out.res.lt
    clear HE1 hB3 hX3 hO3
    go_wp2_with fail
    rw [← hw3]
    clear c0 c1 c2 hw3
    go_loopw [9] (fun i wr => ∃ (j : Nat) (v : Value), j ≤ m ∧ i = .int .i64 j ∧ Hid (Beg w n false p q cap wr) ∧ Hid (OwnArr wr (w1.heap.size + 1) 26 [.int .i64 m, .bool false, v]) ∧ Hid (Out (w.heap.size + 1) wr v (ints (tk j fun i => S ((a + i) % n))))) (fun i _ => m - (intOf i).toNat)
    case atStart => exact ⟨0, _, Nat.zero_le _, rfl, HE3, HX3, HO3⟩
    case round =>
      obtain ⟨j, v, hj, rfl, HE, HX, HO⟩ := hrel
      clear HE3 HX3 HO3
      obtain ⟨c0, c1, c2, -⟩ := HE.out.row.three
      by_cases hlt : j < m
      · have ht1 : (j : Int) < (m : Int) := by omega
        have is := IS.out j
        rw [hS.out j] at is
        obtain ⟨z, hz⟩ : ∃ z, (a + j) % n = z := ⟨_, rfl⟩
        rw [hz] at is
        obtain ⟨t, ht⟩ : ∃ t, S z = t := ⟨_, rfl⟩
        rw [ht] at is
        have ht' : (fun i => S ((a + i) % n)) j = t := by show S ((a + j) % n) = t; rw [hz, ht]
        have IS2 := Lib.hid is
        have hzz1 : ((a : Int) + (j : Int)) % (n : Int) = (z : Int) := by rw [← hz]; push_cast; rfl
        have hzz2 : ((a : Int) + (j : Int)).tmod (n : Int) = (z : Int) := by rw [Int.tmod_eq_emod_of_nonneg (by omega)]; exact hzz1
        have hn0 : ¬ n = 0 := by omega
        have e2 : IntKind.i64.wrap ((a : Int) + (j : Int)) = (a : Int) + (j : Int) := IntWalk.i64_in _ (by omega)
        have HED : Hid (Beg w n false p q cap wr.drew) := by show Beg _ _ _ _ _ _ _; exact HE.out.next ((Below.refl _ _).drew)
        have HXD : Hid (OwnArr wr.drew (w1.heap.size + 1) 26 [.int .i64 m, .bool false, v]) := HX.out
        have HOD : Hid (Out (w.heap.size + 1) wr.drew v (ints (tk j fun i => S ((a + i) % n)))) := HO.out
        clear is ht hz HE HX HO
        go_wp2_with fail
        go_still_tail 7, (by kernel_rfl)
        change wpList _ _ _ _ _ wr.drew
        go_wp2_with fail
        refine (IS2.out _ HED.out.bel).mono ?_
        rintro e wq ⟨rfl, hbq⟩
        have HEQ := Lib.hid (HED.out.next hbq)
        have HXQ := Lib.hid (HXD.out.below hbq HXD.out.lt)
        have HOQ := Lib.hid (HOD.out.below hbq)
        clear HED HXD HOD IS2 c0 c1 c2 hbq
        obtain ⟨x0, x1, x2, f0, f1, f2⟩ := HXQ.out.three
        cases t with
        | true =>
          have HT := Lib.hid (ints_tk_yes (T := fun i => S ((a + i) % n)) (k := j) ht')
          have HL := Lib.hid (ints_tk_len j (fun i => S ((a + i) % n)))
          have hne1 := Lib.hid (own_ne HOQ.out HXQ.out)
          have hne2 := Lib.hid (own_ne HOQ.out HEQ.out.row)
          have hne3 := Lib.hid (own_ne HOQ.out HEQ.out.res)
          have hblk := Lib.hid (own_block HOQ.out)
          obtain ⟨l, vs, hl, hvs, hown⟩ := HOQ.out.open'
          have hlk := HL.out
          rw [hl] at hlk
          have hsz2 := HXQ.out.lt
          have hszr := HEQ.out.res.lt
          replace hl := Lib.hid hl
          replace hvs := Lib.hid hvs
          clear ht'
          go_wp2_with (at_builtin; refine wpList_append_own _ rfl _ _ 22 rfl (w.heap.size + 1) 3 i0 (.int .i64 0) 1 8 Try.underlying22 hi hz0 hz1 hz2 rfl (by decide) _ _ _ rfl (hown.alloc _) ⟨wq.heap.size, 0, none⟩ 1 1 [.int .i64 (j : Int)] rfl rfl (cell_one_new _ _ _) (fun x hx => by simp at hx; subst hx; rfl) (by unfold maxLen; omega) (by omega) (by simp; omega) ?_; intro v' w5 hown' hgrow5 hnil5; obtain ⟨g', cp', rfl⟩ := Go.Joins.ownsRow_form hown' (by omega); have HX5 := Lib.hid (OwnArr.grown (HXQ.out.alloc _) hgrow5 hne1.out); have HR5 := Lib.hid (OwnArr.grown (HEQ.out.row.alloc _) hgrow5 hne2.out); have HS5 := Lib.hid (OwnArr.grown (HEQ.out.res.alloc _) hgrow5 hne3.out); obtain ⟨d0, d1, d2, g0, g1, g2⟩ := HX5.out.three)
          have hG : Below w.heap.size wq w5 := ((Below.refl w.heap.size wq).alloc (by omega) _).grown hgrow5 (by simp; omega) (fun k' h' => by have := hblk.out k' h'; omega)
          have HO5 : Hid (Out (w.heap.size + 1) w5 (.slice (some ⟨g', 0, none⟩) (l + 1) cp') (ints (tk (j + 1) fun i => S ((a + i) % n)))) := by
            show Out _ _ _ _
            rw [HT.out]; exact Out.close hl.out hvs.out hown'
          have hne5 := Lib.hid (own_ne HO5.out HX5.out)
          have HX6 := Lib.hid (HX5.out.set 2 (.slice (some ⟨g', 0, none⟩) (l + 1) cp'))
          have HE6 : Hid (Beg w n false p q cap (w5.setCell ⟨w1.heap.size + 1, 2, none⟩ (.slice (some ⟨g', 0, none⟩) (l + 1) cp'))) := by
            refine ⟨HR5.out.other (a := ⟨w1.heap.size + 1, 2, none⟩) (by show w.heap.size ≠ w1.heap.size + 1; omega) _, HS5.out.other (a := ⟨w1.heap.size + 1, 2, none⟩) (by show w.heap.size + 1 ≠ w1.heap.size + 1; omega) _, ?_⟩
            exact (HEQ.out.bel.trans hG).setCell (p := ⟨w1.heap.size + 1, 2, none⟩) (by show _ ≤ w1.heap.size + 1; omega) _
          have HO6 := Lib.hid (HO5.out.other (a := ⟨w1.heap.size + 1, 2, none⟩) hne5.out (.slice (some ⟨g', 0, none⟩) (l + 1) cp'))
          clear hown' hgrow5 hnil5 hown hG HO5 HX5 HR5 HS5 hne5 HXQ HEQ HOQ
          go_wp2_with fail
          go_roundw
          case rel => exact ⟨j + 1, _, by omega, by go_num, HE6, HX6, HO6⟩
          case measure => simp [intOf]; omega
        | false =>
          have HT := Lib.hid (ints_tk_no (T := fun i => S ((a + i) % n)) (k := j) ht')
          have ho := HOQ.out
          rw [← HT.out] at ho
          have HO6 := Lib.hid ho
          clear ho HOQ ht'
          go_wp2_with fail
          go_roundw
          case rel => exact ⟨j + 1, v, by omega, by go_num, HEQ, HXQ, HO6⟩
          case measure => simp [intOf]; omega
      · have hjm : j = m := by omega
        subst hjm
        obtain ⟨qa, qc, rfl, -⟩ := HO.out.rd
        have HO2 := Lib.hid HO.out
        obtain ⟨mm, hmm⟩ : ∃ mm, (ints (tk j fun i => S ((a + i) % n))).length = mm := ⟨_, rfl⟩
        rw [hmm] at HX HO2
        obtain ⟨x0, x1, x2, -⟩ := HX.out.three
        obtain ⟨z0, z1, z2, y0, y1, y2⟩ := HE.out.res.three
        clear HO hmm
        go_wp2_with fail
        exact ret_row2 Try.results20 rfl rfl (HE.out.out _ _ _).1 rfl ⟨_, rfl, (HO2.out.boxed HE.out.res _ _ _).mono (Nat.le_succ _), (HE.out.out _ _ _).2⟩
end Go.Proofs.Ytefbepebgmalpaa
