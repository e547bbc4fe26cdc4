/- Chapter 7: impl.GroupOrder, BackToFront, FrontToBack; both sides. -/
import Derived.Test.YtgojchjchhgeoaaPlnI7
import Derived.Test.YtgojchjchhgeoaaGrp7
namespace Go.Proofs.Ytgojchjchhgeoaa
open Go.RowKit

set_option maxRecDepth 4000 in
set_option maxHeartbeats 2000000 in
theorem grpI_bad (n g : Int) (w : World) (h : grpB n g = false) :
    Calls Try.prog 19 #[.int .i64 n, .int .i64 g] w fun e w' => ∃ v, e = .returned (.tuple #[v, .bool false]) ∧ Out w.heap.size w' v [] ∧ Below w.heap.size w w' := by
  have IN := fun w' => hasPlane_any n w'
  have HO0 := Lib.hid (Out.nilLit w)
  have HB0 : Hid (Below w.heap.size w (w.alloc (.cells #[] 3))) := (Below.refl _ _).alloc (Nat.le_refl _) _
  unfold grpB at h
  cases hg : rowsB n with
  | false =>
    rw [hg] at IN
    replace IN := Lib.hid IN
    clear hg h
    go_enter Try.func19, Try.ntmps19
    go_wp2_with fail
    refine (IN.out _).mono ?_
    rintro e w1 ⟨rfl, rfl⟩
    go_wp2_with fail
    go_ret2
    exact ⟨_, rfl, HO0.out, HB0.out⟩
  | true =>
    rw [hg] at IN
    rw [hg, Bool.true_and, Bool.and_eq_false_iff, decide_eq_false_iff_not, decide_eq_false_iff_not] at h
    replace IN := Lib.hid IN
    clear hg
    by_cases hg1 : g < 1
    · clear h
      go_enter Try.func19, Try.ntmps19
      go_wp2_with fail
      refine (IN.out _).mono ?_
      rintro e w1 ⟨rfl, rfl⟩
      go_wp2_with fail
      go_ret2
      exact ⟨_, rfl, HO0.out, HB0.out⟩
    · have hg2 : n < g := by omega
      clear h
      go_enter Try.func19, Try.ntmps19
      go_wp2_with fail
      refine (IN.out _).mono ?_
      rintro e w1 ⟨rfl, rfl⟩
      go_wp2_with fail
      go_ret2
      exact ⟨_, rfl, HO0.out, HB0.out⟩

set_option maxRecDepth 4000 in
set_option maxHeartbeats 4000000 in
theorem grpI_any (n g : Nat) (w : World) (hn1 : 1 ≤ n) (hn : n ≤ 10) (hg1 : 1 ≤ g) (hg : g ≤ n) :
    Calls Try.prog 19 #[.int .i64 (n : Nat), .int .i64 (g : Nat)] w fun e w' => ∃ v, e = .returned (.tuple #[v, .bool true]) ∧ Out w.heap.size w' v (grpR n g) ∧ Below w.heap.size w w' := by
  have IN := fun w' => hasPlane_any n w'
  have e1 : rowsB (n : Int) = true := by unfold rowsB; simp; omega
  rw [e1] at IN
  replace IN := Lib.hid IN
  have HO0 : Hid (Out w.heap.size (w.alloc (.cells #[] 3)) (.slice (some ⟨w.heap.size, 0, none⟩) 0 0) []) := Out.nilLit w
  have HB0 : Hid (Below w.heap.size w (w.alloc (.cells #[] 3))) := (Below.refl _ _).alloc (Nat.le_refl _) _
  obtain ⟨R, hR⟩ : ∃ R, grpR n g = R := ⟨_, rfl⟩
  have HR0 : Hid ([] ++ grpM g (n + 1) n = R) := hR
  rw [hR]
  have k1 : ¬ (g : Int) < 1 := by omega
  have k2 : ¬ (n : Int) < (g : Int) := by omega
  have k3 : decide ((g : Int) < 1) = false := decide_eq_false k1
  have k4 : decide (n < g) = false := decide_eq_false (by omega)
  clear hR e1
  go_enter Try.func19, Try.ntmps19
  go_wp2_with fail
  refine (IN.out _).mono ?_
  rintro e w1 ⟨rfl, rfl⟩
  clear IN
  go_wp2_with fail
  go_loopw [6, 7] (fun v i wr => ∃ (z : Int) (f : Nat) (D : List Int), -10 ≤ z ∧ z ≤ n ∧ z < f ∧ 0 < f ∧ i = .int .i64 z ∧ D.length + z.toNat ≤ n ∧ Hid (D ++ grpM g f z.toNat = R) ∧ Hid (Out w.heap.size wr v D) ∧ Hid (Below w.heap.size w wr)) (fun _ i _ => (intOf i).toNat)
  case atStart => exact ⟨n, n + 1, [], by omega, Int.le_refl _, by omega, by omega, rfl, by simp, HR0, HO0, HB0⟩
  case round =>
    obtain ⟨z, f, D, hz, hzn, hzf, hf0, rfl, hDe, HR, HO, HB⟩ := hrel
    clear HO0 HB0 HR0
    by_cases h0 : 0 < z
    · obtain ⟨e, rfl⟩ : ∃ e : Nat, z = e := ⟨z.toNat, by omega⟩
      rw [Int.toNat_natCast] at hDe HR
      replace h0 : 0 < e := by omega
      have h1 : (0 : Int) < (e : Int) := by omega
      obtain ⟨f, rfl⟩ : ∃ f', f = f' + 1 := ⟨f - 1, by omega⟩
      obtain ⟨b, hb⟩ : ∃ b, e - g = b := ⟨_, rfl⟩
      have HR1 : Hid (D ++ frM (fun i => ((b + i : Nat) : Int)) (e - b) ++ grpM g f b = R) := by
        show _ = _
        have := HR.out
        rw [grp_step h0, hb] at this
        rw [List.append_assoc]; exact this
      have hbe : b < e := by omega
      have HO1 := HO.out
      rw [← List.append_nil D, show ([] : List Int) = frM (fun i => ((b + i : Nat) : Int)) 0 from rfl] at HO1
      replace HO1 := Lib.hid HO1
      have HM : max ((e : Int) - (g : Int)) 0 = (b : Int) := by omega
      have HBB : Hid (b = e - g) := hb.symm
      clear hb HO HR
      by_cases hmx : e < g
      all_goals
        go_wp2_with fail
        go_loopw [6, 8] (fun v i wr => ∃ (j : Nat), b + j ≤ e ∧ i = .int .i64 ((b : Int) + (j : Int)) ∧ Hid (Out w.heap.size wr v (D ++ frM (fun i => ((b + i : Nat) : Int)) j)) ∧ Hid (Below w.heap.size w wr)) (fun _ i _ => e - (intOf i).toNat)
        case atStart => exact ⟨0, by omega, by (have h5 := HBB.out; show Value.int .i64 _ = Value.int .i64 _; congr 1; omega), HO1, HB⟩
        case round =>
          obtain ⟨j, hj, rfl, HO, HB⟩ := hrel
          clear HO1
          by_cases hlt : b + j < e
          · have hj1 : (b : Int) + (j : Int) < (e : Int) := by omega
            have HT : Hid (D ++ frM (fun i => ((b + i : Nat) : Int)) (j + 1) = D ++ frM (fun i => ((b + i : Nat) : Int)) j ++ [(b : Int) + (j : Int)]) := by
              show _ = _
              rw [frM_succ, List.append_assoc]; rfl
            have hl : (D ++ frM (fun i => ((b + i : Nat) : Int)) j).length ≤ 20 := by rw [List.length_append, frM_len]; omega
            have hblk := Lib.hid (own_block HO.out)
            have hsz := HB.out.size
            go_wp2_with (at_builtin; refine wpList_app rfl _ _ rfl w.heap.size _ (D ++ frM (fun i => ((b + i : Nat) : Int)) j) rfl (World.ownsRow.alloc HO.out (.cells #[.int .i64 ((b : Int) + (j : Int))] 3)) _ 1 1 0 (wr.heap.size + 1) [(b : Int) + (j : Int)] rfl (lit_one (OwnArr.made wr _ [_]) _ (Nat.lt_succ_self _) (by simp)) rfl (by omega) (by simp; omega) ?_; intro v3 w3 hO3 hg3 hn3)
            have hG3 : Below w.heap.size wr w3 := ((Below.refl w.heap.size wr).alloc (by omega) _).grown hg3 (by simp; omega) hblk.out
            have HB3 := Lib.hid (HB.out.trans hG3)
            rw [← HT.out] at hO3
            have HO3 := Lib.hid hO3
            clear hO3 hg3 hn3 hG3 HB HO
            go_wp2_with fail
            go_roundw
            case rel => exact ⟨j + 1, by omega, by go_num, HO3, HB3⟩
            case measure => simp [intOf]; omega
          · have hje : j = e - b := by omega
            subst hje
            have hj1 : ¬ (b : Int) + ((e - b : Nat) : Int) < (e : Int) := by omega
            have hl : (D ++ frM (fun i => ((b + i : Nat) : Int)) (e - b)).length = D.length + (e - b) := by rw [List.length_append, frM_len]
            obtain ⟨D2, hD2⟩ : ∃ D2, D ++ frM (fun i => ((b + i : Nat) : Int)) (e - b) = D2 := ⟨_, rfl⟩
            rw [hD2] at HO HR1 hl
            have hbt : ((e : Int) - (g : Int)).toNat = b := by have := HBB.out; omega
            have HR2 : Hid (D2 ++ grpM g f ((e : Int) - (g : Int)).toNat = R) := by
              show _ = _
              rw [hbt]; exact HR1.out
            have hbl : D2.length + ((e : Int) - (g : Int)).toNat ≤ n := by rw [hbt]; omega
            clear hD2 hbt HR1
            go_wp2_with fail
            go_roundw
            case rel => exact ⟨(e : Int) - (g : Int), f, D2, by omega, by omega, by omega, by omega, by go_num, hbl, HR2, HO, HB⟩
            case measure => simp [intOf]; omega
    · have h1 : ¬ (0 : Int) < z := h0
      have hz0 : z.toNat = 0 := by omega
      obtain ⟨f, rfl⟩ : ∃ f', f = f' + 1 := ⟨f - 1, by omega⟩
      have hr : D = R := by
        have := HR.out
        rw [hz0, show grpM g (f + 1) 0 = [] from rfl, List.append_nil] at this
        exact this
      subst hr
      clear hz0
      go_wp2_with fail
      go_ret2
      exact ⟨_, rfl, HO.out, HB.out⟩

theorem groupOrder_both (a0 : Int) (a1 : Int) : ∃ (L0 : List Int) (y1 : Bool), L0.length ≤ 1000 ∧ (∀  (w : World), Calls Try.prog 18 #[.int .i64 a0, .int .i64 a1] w fun e w' => ∃ v0, e = .returned (.tuple #[v0, .bool y1]) ∧ Out w.heap.size w' v0 L0 ∧ Below w.heap.size w w') ∧ (∀  (w : World), Calls Try.prog 19 #[.int .i64 a0, .int .i64 a1] w fun e w' => ∃ v0, e = .returned (.tuple #[v0, .bool y1]) ∧ Out w.heap.size w' v0 L0 ∧ Below w.heap.size w w') := by
  cases h : grpB a0 a1 with
  | false => exact ⟨[], false, by simp, fun w => grpS_bad a0 a1 w h, fun w => grpI_bad a0 a1 w h⟩
  | true =>
    unfold grpB at h
    rw [Bool.and_eq_true, Bool.and_eq_true, decide_eq_true_eq, decide_eq_true_eq] at h
    obtain ⟨n, rfl, h1, h2⟩ := rowsB_is h.1
    obtain ⟨g, rfl⟩ : ∃ g : Nat, a1 = g := ⟨a1.toNat, by omega⟩
    exact ⟨grpR n g, true, Nat.le_trans (grpM_len _ _) (by omega), fun w => grpS_any n g w h1 h2 (by omega) (by omega), fun w => grpI_any n g w h1 h2 (by omega) (by omega)⟩

/-- groups of one row -/
theorem frM_cons (F : Nat → Int) (n : Nat) : frM F (n + 1) = F 0 :: frM (fun i => F (i + 1)) n := by
  unfold frM
  rw [List.range_succ_eq_map, List.map_cons, List.map_map]
  rfl
theorem frM_congr {F G : Nat → Int} {n : Nat} (h : ∀ i, i < n → F i = G i) : frM F n = frM G n := by
  unfold frM
  apply List.map_congr_left
  intro i hi
  exact h i (List.mem_range.1 hi)
theorem grpM_one : ∀ f n, n < f → grpM 1 f n = frM (backF n) n
  | 0, _, h => absurd h (Nat.not_lt_zero _)
  | f + 1, 0, _ => rfl
  | f + 1, n + 1, h => by
    rw [grp_step (Nat.succ_pos n), show n + 1 - 1 = n from rfl, grpM_one f n (by omega), show n + 1 - n = 1 by omega, frM_cons (backF (n + 1)) n]
    show ((n + 0 : Nat) : Int) :: frM (backF n) n = _
    refine List.cons_eq_cons.2 ⟨?_, frM_congr fun i _ => ?_⟩
    · show ((n + 0 : Nat) : Int) = ((n + 1 : Nat) : Int) - 1 - ((0 : Nat) : Int)
      omega
    · show (n : Int) - 1 - (i : Int) = ((n + 1 : Nat) : Int) - 1 - ((i + 1 : Nat) : Int)
      omega
/-- one group of all rows -/
theorem grpM_all {n : Nat} (h : 1 ≤ n) : grpM n (n + 1) n = frM frontF n := by
  rw [grp_step h, Nat.sub_self, Nat.sub_zero]
  obtain ⟨m, rfl⟩ : ∃ m, n = m + 1 := ⟨n - 1, by omega⟩
  show frM (fun i => ((0 + i : Nat) : Int)) (m + 1) ++ (if 0 = 0 then [] else _) = _
  rw [if_pos rfl, List.append_nil]
  unfold frM frontF
  apply List.map_congr_left
  intro i _
  show ((0 + i : Nat) : Int) = (i : Int)
  rw [Nat.zero_add]

set_option maxRecDepth 4000 in
set_option maxHeartbeats 1000000 in
theorem backI_any (n : Int) (w : World) :
    Calls Try.prog 13 #[.int .i64 n] w fun e w' => ∃ v, e = .returned (.tuple #[v, .bool (rowsB n)]) ∧ Out w.heap.size w' v (if rowsB n then frM (backF n.toNat) n.toNat else []) ∧ Below w.heap.size w w' := by
  have G : Calls Try.prog 19 #[.int .i64 n, .int .i64 1] w fun e w' => ∃ v, e = .returned (.tuple #[v, .bool (rowsB n)]) ∧ Out w.heap.size w' v (if rowsB n then frM (backF n.toNat) n.toNat else []) ∧ Below w.heap.size w w' := by
    cases hg : rowsB n with
    | false =>
      exact grpI_bad n 1 w (by unfold grpB; rw [hg]; rfl)
    | true =>
      obtain ⟨n, rfl, h1, h2⟩ := rowsB_is hg
      rw [if_pos rfl, Int.toNat_natCast, ← grpM_one (n + 1) n (Nat.lt_succ_self _)]
      exact grpI_any n 1 w h1 h2 (Nat.le_refl _) h1
  obtain ⟨R, hR⟩ : ∃ R, (if rowsB n = true then frM (backF n.toNat) n.toNat else []) = R := ⟨_, rfl⟩
  rw [hR] at G ⊢
  replace G := Lib.hid G
  clear hR
  go_enter Try.func13, Try.ntmps13
  go_wp2_with fail
  refine G.out.mono ?_
  rintro e w1 ⟨v, rfl, hO, hB⟩
  go_wp2_with fail
  go_ret2
  exact ⟨_, rfl, hO, hB⟩

set_option maxRecDepth 4000 in
set_option maxHeartbeats 1000000 in
theorem frontI_any (n : Int) (w : World) :
    Calls Try.prog 17 #[.int .i64 n] w fun e w' => ∃ v, e = .returned (.tuple #[v, .bool (rowsB n)]) ∧ Out w.heap.size w' v (if rowsB n then frM frontF n.toNat else []) ∧ Below w.heap.size w w' := by
  have G : Calls Try.prog 19 #[.int .i64 n, .int .i64 n] w fun e w' => ∃ v, e = .returned (.tuple #[v, .bool (rowsB n)]) ∧ Out w.heap.size w' v (if rowsB n then frM frontF n.toNat else []) ∧ Below w.heap.size w w' := by
    cases hg : rowsB n with
    | false =>
      exact grpI_bad n n w (by unfold grpB; rw [hg]; rfl)
    | true =>
      obtain ⟨n, rfl, h1, h2⟩ := rowsB_is hg
      rw [if_pos rfl, Int.toNat_natCast, ← grpM_all h1]
      exact grpI_any n n w h1 h2 h1 (Nat.le_refl _)
  obtain ⟨R, hR⟩ : ∃ R, (if rowsB n = true then frM frontF n.toNat else []) = R := ⟨_, rfl⟩
  rw [hR] at G ⊢
  replace G := Lib.hid G
  clear hR
  go_enter Try.func17, Try.ntmps17
  go_wp2_with fail
  refine G.out.mono ?_
  rintro e w1 ⟨v, rfl, hO, hB⟩
  go_wp2_with fail
  go_ret2
  exact ⟨_, rfl, hO, hB⟩

theorem rows_len {n : Int} {F : Nat → Int} : (if rowsB n = true then frM F n.toNat else []).length ≤ 1000 := by
  cases h : rowsB n with
  | false => simp
  | true =>
    obtain ⟨n, rfl, h1, h2⟩ := rowsB_is h
    rw [if_pos rfl, frM_len]; omega
theorem backToFront_both (a0 : Int) : ∃ (L0 : List Int) (y1 : Bool), L0.length ≤ 1000 ∧ (∀  (w : World), Calls Try.prog 12 #[.int .i64 a0] w fun e w' => ∃ v0, e = .returned (.tuple #[v0, .bool y1]) ∧ Out w.heap.size w' v0 L0 ∧ Below w.heap.size w w') ∧ (∀  (w : World), Calls Try.prog 13 #[.int .i64 a0] w fun e w' => ∃ v0, e = .returned (.tuple #[v0, .bool y1]) ∧ Out w.heap.size w' v0 L0 ∧ Below w.heap.size w w') :=
  ⟨_, _, rows_len, fun w => backS_any a0 w, fun w => backI_any a0 w⟩
theorem frontToBack_both (a0 : Int) : ∃ (L0 : List Int) (y1 : Bool), L0.length ≤ 1000 ∧ (∀  (w : World), Calls Try.prog 16 #[.int .i64 a0] w fun e w' => ∃ v0, e = .returned (.tuple #[v0, .bool y1]) ∧ Out w.heap.size w' v0 L0 ∧ Below w.heap.size w w') ∧ (∀  (w : World), Calls Try.prog 17 #[.int .i64 a0] w fun e w' => ∃ v0, e = .returned (.tuple #[v0, .bool y1]) ∧ Out w.heap.size w' v0 L0 ∧ Below w.heap.size w w') :=
  ⟨_, _, rows_len, fun w => frontS_any a0 w, fun w => frontI_any a0 w⟩
end Go.Proofs.Ytgojchjchhgeoaa
