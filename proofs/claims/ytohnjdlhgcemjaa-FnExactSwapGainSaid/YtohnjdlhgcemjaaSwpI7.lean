/- Chapter 7, impl side: impl.SwapGain; both sides. -/
import Derived.Test.YtohnjdlhgcemjaaSwpS7
import Derived.Test.YtohnjdlhgcemjaaBrd7
import Derived.Deep.RegionWith
import Derived.Deep.RegionHeld3
import Derived.StillTailTactics
namespace Go.Proofs.Ytohnjdlhgcemjaa
open Go.RowKit

set_option maxRecDepth 4000 in
set_option maxHeartbeats 1000000 in
theorem clone_any (b off : Nat) (cap : Nat) (xs : List Int) (m : Nat) (hm : xs.length = m) (h0 : 0 < m) (w : World) (lo hi : Nat) (hin : Ri lo hi w (some ⟨b, off, none⟩) xs) (hlen : m ≤ 1000) :
    Calls Try.prog 39 #[.slice (some ⟨b, off, none⟩) m cap] w fun e w' => ∃ g c, e = .returned (.slice (some ⟨g, 0, none⟩) m c) ∧ w.heap.size ≤ g ∧ Out w.heap.size w' (.slice (some ⟨g, 0, none⟩) m c) xs ∧ Below w.heap.size w w' := by
  have hO := Out.nilLit w
  have hb : Below w.heap.size w (w.alloc (.cells #[] 3)) := (Below.refl _ w).alloc (Nat.le_refl _) _
  have hI := hin.bel hb
  obtain ⟨w1, hw1⟩ : ∃ w1, w1 = w.alloc (.cells #[] 3) := ⟨_, rfl⟩
  rw [← hw1] at hO hb hI
  have hs1 : w.heap.size ≤ w1.heap.size := by rw [hw1]; simp
  replace hO := Lib.hid hO
  replace hb := Lib.hid hb
  replace hI := Lib.hid hI
  have HM := Lib.hid hm
  have he : ∀ w' : World, (binOp .eql 22 (.slice (some ⟨b, off, none⟩) m cap) (.slice none 0 0)).run Try.prog w' = .ok (.bool false) w' := fun _ => rfl
  clear hin hm
  subst hw1
  go_enter Try.func39, Try.ntmps39
  go_wp2_with (at_builtin; refine wpList_app rfl _ _ rfl w.heap.size (.slice (some ⟨w.heap.size, 0, none⟩) 0 0) [] rfl hO.out _ _ _ _ _ _ rfl hI.out HM.out (by simp; omega) hs1 ?_; intro v' w3 hO3 hg3 hn3)
  rw [List.nil_append] at hO3
  obtain ⟨g, c, rfl, h1, h2, h3, h4⟩ := hO3.some' (by intro h; have := hn3.1 h; simp at this)
  rw [HM.out] at hO3 ⊢
  go_wp2_with fail
  go_ret
  exact ⟨g, c, rfl, h1, hO3, hb.out.grown hg3 hs1 (fun k hk => by simp [Value.ownBlock] at hk; omega)⟩

set_option maxRecDepth 4000 in
set_option maxHeartbeats 2000000 in
theorem swapI_bad (n s : Int) (p : Option Addr) (cap : Nat) (xs : List Int) (i : Int) (w : World) (lo hi : Nat) (hin : Ri lo hi w p xs) (hlen : xs.length ≤ 1048576) (h : swapB n s xs i = false) :
    Calls Try.prog 24 #[.int .i64 n, .int .i64 s, .slice p xs.length cap, .int .i64 i] w fun e w' => e = .returned (.tuple #[.int .i64 0, .bool false]) ∧ Below w.heap.size w w' := by
  have A := canBoardBy_any n s p cap xs w lo hi hin hlen
  obtain ⟨m, hm⟩ : ∃ m, xs.length = m := ⟨_, rfl⟩
  rw [hm] at A ⊢
  unfold swapB at h
  cases ha : ask7 n s xs with
  | false =>
    rw [ha] at A
    replace A := Lib.hid A
    clear hin h hm ha
    go_enter Try.func24, Try.ntmps24
    go_wp2_with fail
    refine A.out.mono ?_
    rintro e w1 ⟨rfl, hb⟩
    go_wp2_with fail
    go_ret2
    exact ⟨rfl, hb⟩
  | true =>
    rw [ha] at A
    rw [ha, Bool.true_and, Bool.and_eq_false_iff, decide_eq_false_iff_not, decide_eq_false_iff_not] at h
    have hw : IntKind.i64.wrap (n - 1) = n - 1 := IntWalk.i64_in _ (by obtain ⟨m', l', e', q1, q2, -⟩ := ask7_is ha; omega)
    replace A := Lib.hid A
    by_cases h1 : i < 0
    · clear hin h hm ha
      go_enter Try.func24, Try.ntmps24
      go_wp2_with fail
      refine A.out.mono ?_
      rintro e w1 ⟨rfl, hb⟩
      go_wp2_with fail
      go_ret2
      exact ⟨rfl, hb⟩
    · have h2 : n - 1 ≤ i := by omega
      clear hin h hm ha
      go_enter Try.func24, Try.ntmps24
      go_wp2_with fail
      refine A.out.mono ?_
      rintro e w1 ⟨rfl, hb⟩
      go_wp2_with fail
      go_ret2
      exact ⟨rfl, hb⟩

set_option maxRecDepth 4000 in
set_option maxHeartbeats 4000000 in
theorem swapI_any (n : Nat) (s : Int) (p : Option Addr) (cap : Nat) (l : List Nat) (i U V : Nat) (w : World) (lo hi : Nat) (hin : Ri lo hi w p (ints l)) (hn1 : 1 ≤ n) (hn : n ≤ 10) (hs1 : 1 ≤ s) (hs : s ≤ 5) (hl : ∀ x ∈ l, x < n) (ha : ∀ r, r < n → r ∈ l) (hll : l.length = n) (h : ask7 n s (ints l) = true) (hi' : i + 1 < n)
    (hnd : ∀ j k, j < n → k < n → j ≠ k → lrow l j ≠ lrow l k) (hU : runs7 n s (-1) l U) (hV : runs7 n s (-1) (swapM l i) V) :
    Calls Try.prog 24 #[.int .i64 (n : Nat), .int .i64 s, .slice p n cap, .int .i64 (i : Nat)] w fun e w' => e = .returned (.tuple #[.int .i64 ((U : Int) - (V : Int)), .bool true]) ∧ Below w.heap.size w w' := by
  have A := canBoardBy_any n s p cap (ints l) w lo hi hin (by rw [ints_length]; omega)
  rw [h, ints_length, hll] at A
  obtain ⟨k1, k2, k3, k4⟩ := swap_ok hll hi' hl ha hnd
  have T1 := Lib.hid (fun (w' : World) (h' : Below w.heap.size w w') => boardTime_any s n p cap l U w' lo hi (hin.below h' hin.top) hn1 hn hs1 hs hll hl ha hnd hU)
  have T2 := Lib.hid (fun (w' : World) (g c : Nat) (h' : Wr w' g (swapM l i)) => boardTime_any s n (some ⟨g, 0, none⟩) c (swapM l i) V w' 0 w'.heap.size h'.rd hn1 hn hs1 hs k1 k2 k3 k4 hV)
  obtain ⟨bq, off, rfl, -, -, -, -⟩ := hin.int (by rw [ints_length, hll]; omega)
  have O := Lib.hid (fun (w' : World) (h' : Below w.heap.size w w') => clone_any bq off cap (ints l) n (by rw [ints_length, hll]) (by omega) w' lo hi (hin.below h' hin.top) (by omega))
  have hUV1 := hU.few
  have hUV2 := hV.few
  have hw : IntKind.i64.wrap ((n : Int) - 1) = (n : Int) - 1 := IntWalk.i64_in _ (by omega)
  have hw2 : IntKind.i64.wrap ((U : Int) - (V : Int)) = (U : Int) - (V : Int) := IntWalk.i64_in _ (by omega)
  have hi0 : (0 : Int) ≤ (i : Int) := by omega
  have hi1 : (i : Int) < (n : Int) := by omega
  have hi2 : (0 : Int) ≤ (i : Int) + 1 := by omega
  have hi3 : (i : Int) + 1 < (n : Int) := by omega
  have hi4 : ¬ (i : Int) < 0 := by omega
  have hw3 : IntKind.i64.wrap ((i : Int) + 1) = (i : Int) + 1 := IntWalk.i64_in _ (by omega)
  have hi5 : ¬ (n : Int) - 1 ≤ (i : Int) := by omega
  have HLL := Lib.hid hll
  replace A := Lib.hid A
  clear hin h hU hV hl ha hnd k1 k2 k3 k4 hll
  go_enter Try.func24, Try.ntmps24
  go_wp2_with fail
  refine A.out.mono ?_
  rintro e w1 ⟨rfl, hb⟩
  go_wp2_with fail
  refine (O.out w1 hb).mono ?_
  rintro e w2 ⟨g, c, rfl, hg, hO, hb2⟩
  have hbw := hb.trans (hb2.mono hb.size)
  have hbs := hb.size
  have hwr := Wr.of_out HLL.out hO (by omega)
  have fg := hwr.free i
  have yg := hwr.cell (j := i) (by rw [HLL.out]; omega)
  have yg1 := hwr.cell (j := i + 1) (by rw [HLL.out]; omega)
  have yg1b : w2.cell? ⟨g, ((i : Int) + 1).toNat, none⟩ = some (.int .i64 (lrow l (i + 1) : Nat)) := by rw [show ((i : Int) + 1).toNat = i + 1 by omega]; exact yg1
  have fg2 := (hwr.set i (lrow l (i + 1))).free (i + 1)
  have yg2 := (hwr.set i (lrow l (i + 1))).cell (j := i + 1) (by rw [List.length_set, HLL.out]; omega)
  have hsw := hwr.swap i
  have hb4 : Below w.heap.size w ((w2.setCell ⟨g, i, none⟩ (.int .i64 (lrow l (i + 1) : Nat))).setCell ⟨g, i + 1, none⟩ (.int .i64 (lrow l i : Nat))) := (hbw.setCell (p := ⟨g, i, none⟩) (by show w.heap.size ≤ g; omega) _).setCell (p := ⟨g, i + 1, none⟩) (by show w.heap.size ≤ g; omega) _
  obtain ⟨X, hX⟩ : ∃ X, lrow l (i + 1) = X := ⟨_, rfl⟩
  obtain ⟨Y, hY⟩ : ∃ Y, lrow l i = Y := ⟨_, rfl⟩
  rw [hX] at yg1 yg1b fg2 yg2 hsw hb4
  rw [hY] at yg hsw hb4
  have HSW := Lib.hid hsw
  have HB4 := Lib.hid hb4
  clear hsw hb4 hbw hbs hO hb2 hwr hX hY O
  go_wp2_with fail
  go_region
  all_goals
    go_wp2_with fail
    refine (T1.out _ HB4.out.drew).mono ?_
    rintro e w5 ⟨rfl, hb5⟩
    have HSW5 := Lib.hid (HSW.out.drew.below hb5)
    have HB5 := Lib.hid (HB4.out.drew.trans (hb5.mono HB4.out.drew.size))
    clear hb5
    go_wp2_with fail
    refine (T2.out _ g c HSW5.out).mono ?_
    rintro e w6 ⟨rfl, hb6⟩
    have HB6 := Lib.hid (HB5.out.trans (hb6.mono HB5.out.size))
    clear hb6
    go_wp2_with fail
    go_ret2
    exact ⟨rfl, HB6.out⟩

theorem swapGain_both (a0 : Int) (a1 : Int) (xs2 : List Int) (a3 : Int) : ∃ (x0 : Int) (y1 : Bool), (∀ (q2 : Option Addr) (c2 : Nat) (w : World) (lo2 hi2 : Nat), Ri lo2 hi2 w q2 xs2 → xs2.length ≤ 1048576 → xs2.length ≤ c2 → c2 ≤ maxLen → Calls Try.prog 23 #[.int .i64 a0, .int .i64 a1, .slice q2 xs2.length c2, .int .i64 a3] w fun e w' => e = .returned (.tuple #[.int .i64 x0, .bool y1]) ∧ Below w.heap.size w w') ∧ (∀ (q2 : Option Addr) (c2 : Nat) (w : World) (lo2 hi2 : Nat), Ri lo2 hi2 w q2 xs2 → xs2.length ≤ 1048576 → xs2.length ≤ c2 → c2 ≤ maxLen → Calls Try.prog 24 #[.int .i64 a0, .int .i64 a1, .slice q2 xs2.length c2, .int .i64 a3] w fun e w' => e = .returned (.tuple #[.int .i64 x0, .bool y1]) ∧ Below w.heap.size w w') := by
  cases h : swapB a0 a1 xs2 a3 with
  | false =>
    exact ⟨0, false, fun q c w lo hi hin hlen hcap hcm => swapS_bad a0 a1 q c xs2 a3 w lo hi hin hcap hcm hlen h, fun q c w lo hi hin hlen _ _ => swapI_bad a0 a1 q c xs2 a3 w lo hi hin hlen h⟩
  | true =>
    unfold swapB at h
    rw [Bool.and_eq_true, Bool.and_eq_true, decide_eq_true_eq, decide_eq_true_eq] at h
    obtain ⟨h, hj0, hj1⟩ := h
    obtain ⟨n, l, rfl, h1, h2, h3, h4, rfl, h5, h6, h7⟩ := ask7_is h
    obtain ⟨i, rfl⟩ : ∃ i : Nat, a3 = i := ⟨a3.toNat, by omega⟩
    have hi : i + 1 < n := by omega
    obtain ⟨U, hU⟩ := runs_all h2 h3 h4 h6 h7
    have ho : orderB (n : Int) (ints l) = true := by unfold ask7 at h; rw [Bool.and_eq_true] at h; exact h.2
    have hnd := rows_apart ho
    obtain ⟨k1, k2, k3, k4⟩ := swap_ok h5 hi h6 h7 hnd
    obtain ⟨V, hV⟩ := runs_all h2 h3 h4 k2 k3
    refine ⟨(U : Int) - (V : Int), true, fun q c w lo hi' hin hlen hcap hcm => ?_, fun q c w lo hi' hin hlen _ _ => ?_⟩
    · rw [ints_length] at hcap
      rw [ints_length, h5]
      exact swapS_any start7_ok n a1 q c l i U V w lo hi' hin (by omega) hcm h1 h2 h3 h4 h6 h7 h5 h hi hnd hU hV
    · rw [ints_length, h5]
      exact swapI_any n a1 q c l i U V w lo hi' hin h1 h2 h3 h4 h6 h7 h5 h hi hnd hU hV
end Go.Proofs.Ytohnjdlhgcemjaa
