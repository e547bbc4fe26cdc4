/- Chapter 6, impl side: impl.shiftedBy, isParkingList, ShiftToPark; both sides. -/
import Derived.Test.YtfabannlebolfaaCycM6
import Derived.Test.YtfabannlebolfaaPowI6
import Derived.Test.YtfabannlebolfaaSeqVals
namespace Go.Proofs.Ytfabannlebolfaa
open Go.RowKit

set_option maxRecDepth 4000 in
set_option maxHeartbeats 2000000 in
theorem shiftedBy_any (n s : Nat) (q : Option Addr) (c : Nat) (l : List Nat) (w : World) (lo hi : Nat) (hin : Ri lo hi w q (ints l)) (hl : l.length = n) (hn : n ≤ 12) (hs : s ≤ 12) (hx : ∀ x ∈ l, x ≤ n) :
    Calls Try.prog 45 #[.slice q n c, .int .i64 (s : Nat)] w fun e w' => ∃ v, e = .returned v ∧ Out w.heap.size w' v (ints (mvM n l s n)) ∧ Below w.heap.size w w' := by
  obtain ⟨i0, hi0, hz0, hz1, hz2⟩ := info_parts infoInt
  have HI := Lib.hid (fun (w' : World) (h' : Below w.heap.size w w') => hin.below h' hin.top)
  have HX := Lib.hid hx
  have HL := Lib.hid hl
  have HO0 := Lib.hid (Out.nilLit w)
  have HB0 : Hid (Below w.heap.size w (w.alloc (.cells #[] 3))) := (Below.refl _ _).alloc (Nat.le_refl _) _
  have hwn : IntKind.i64.wrap ((n : Int) + 1) = (n : Int) + 1 := IntWalk.i64_in _ (by omega)
  have hn0 : ¬ (n : Int) + 1 = 0 := by omega
  clear hin hx hl
  go_enter Try.func45, Try.ntmps45
  go_wp2_with fail
  go_loopw [5, 11, 7] (fun v i _ wr => ∃ (j : Nat), j ≤ n ∧ i = .int .i64 (j : Int) ∧ Hid (Out w.heap.size wr v (ints (mvM n l s j))) ∧ Hid (Below w.heap.size w wr)) (fun _ i _ _ => n - (intOf i).toNat)
  case atStart => exact ⟨0, Nat.zero_le _, rfl, HO0, HB0⟩
  case round =>
    obtain ⟨j, hj, rfl, HO, HB⟩ := hrel
    clear HO0 HB0
    by_cases hlt : j < n
    · have hj1 : (j : Int) < (n : Int) := by omega
      have hjl : j < l.length := by rw [HL.out]; exact hlt
      obtain ⟨b, off, rfl, -, -, hbw, hc⟩ := (HI.out wr HB.out).int (by rw [ints_length, HL.out]; omega)
      have h0 := hc j (by rw [ints_length]; exact hjl)
      rw [ints_get hjl] at h0
      have hxn := HX.out _ (nat_mem hjl)
      have hst := mv_succ (n := n) (s := s) hjl
      have hlen : (ints (mvM n l s j)).length = j := by rw [ints_length, mv_len (by rw [HL.out]; omega)]
      obtain ⟨x, hx⟩ : ∃ x, l[j]?.getD 0 = x := ⟨_, rfl⟩
      rw [hx] at h0 hxn hst
      have hwx : IntKind.i64.wrap ((x : Int) + (s : Int)) = (x : Int) + (s : Int) := IntWalk.i64_in _ (by omega)
      have hmod : ((x : Int) + (s : Int)).tmod ((n : Int) + 1) = (((x + s) % (n + 1) : Nat) : Int) := by
        rw [← Int.natCast_add, show (n : Int) + 1 = ((n + 1 : Nat) : Int) by omega, Int.ofNat_tmod]
      have hql : (x + s) % (n + 1) < n + 1 := Nat.mod_lt _ (by omega)
      obtain ⟨y, hy⟩ : ∃ y, (x + s) % (n + 1) = y := ⟨_, rfl⟩
      rw [hy] at hmod hst hql
      have hwy : IntKind.i64.wrap (y : Int) = (y : Int) := IntWalk.i64_in _ (by omega)
      have HST := Lib.hid hst
      have hblk := Lib.hid (own_block HO.out)
      have hsz := HB.out.size
      obtain ⟨k, vs, hl2, hvs, hown⟩ := HO.out.open'
      rw [hlen] at hl2
      have hlk : k ≤ 12 := by omega
      replace hl2 : Hid _ := Lib.hid (hlen.trans hl2)
      replace hvs := Lib.hid hvs
      clear hst hc hbw hx hy hlen
      go_wp2_with (at_builtin; refine wpList_append_own _ rfl _ _ 22 rfl w.heap.size 3 i0 (.int .i64 0) 1 8 Try.underlying22 hi0 hz0 hz1 hz2 rfl (by decide) _ _ _ rfl (hown.alloc _) ⟨wr.heap.size, 0, none⟩ 1 1 [.int .i64 (y : Int)] rfl rfl (cell_one_new _ _ _) (fun x hx => by simp at hx; subst hx; rfl) (by unfold maxLen; omega) (by omega) (by simp; omega) ?_; intro v' w3 hown' hgrow3 hnil3)
      have hG : Below w.heap.size wr w3 := ((Below.refl w.heap.size wr).alloc hsz _).grown hgrow3 (by simp; omega) hblk.out
      have HB3 := Lib.hid (HB.out.trans hG)
      have HO3 : Hid (Out w.heap.size w3 v' (ints (mvM n l s (j + 1)))) := by
        show Out _ _ _ _
        rw [HST.out]
        exact Out.close hl2.out hvs.out hown'
      clear hown' hgrow3 hnil3 hown hG
      go_wp2_with fail
      go_roundw
      case rel => exact ⟨j + 1, by omega, by go_num, HO3, HB3⟩
      case measure => simp [intOf]; omega
    · have hjn : n = j := by omega
      subst hjn
      have hj1 : ¬ (n : Int) < (n : Int) := by omega
      go_wp2_with fail
      go_ret
      exact ⟨_, rfl, HO.out, HB.out⟩

set_option maxRecDepth 4000 in
set_option maxHeartbeats 2000000 in
theorem isParkingList_any (n : Nat) (q : Option Addr) (cap : Nat) (m : List Nat) (w : World) (lo hi : Nat) (hin : Ri lo hi w q (ints m)) (hl : m.length = n) (h1 : 1 ≤ n) (h12 : n ≤ 12) (hx : ∀ x ∈ m, x ≤ n) :
    Calls Try.prog 44 #[.slice q n cap] w fun e w' => e = .returned (.bool (parkB n m)) ∧ Below w.heap.size w w' := by
  have hln : (ints m).length = n := by rw [ints_length, hl]
  obtain ⟨b, off, rfl, -, -, hbw, hc⟩ := hin.int (by omega)
  have hb0 := (Below.refl w.heap.size w).alloc (Nat.le_refl _) (.cells #[.slice (some ⟨b, off, none⟩) n cap] 22)
  have S := sorted_any b off cap w.heap.size n (ints m) (w.alloc (.cells #[.slice (some ⟨b, off, none⟩) n cap] 22)) hln h1 h12 (by simp) (by simp; omega) ((OwnArr.made w 22 [.slice (some ⟨b, off, none⟩) n cap]).cell 0) (fun j hj => (hb0.cell (p := ⟨b, off + j, none⟩) hbw).trans (hc j hj))
  have T := fun (ss : List Int) (hp : ss.Perm (ints m)) (hs : ss.Pairwise (· ≤ ·)) => park_sorted hp hs hl hx
  obtain ⟨B, hB⟩ : ∃ B, parkB n m = B := ⟨_, rfl⟩
  rw [hB] at T ⊢
  replace S := Lib.hid S
  replace T := Lib.hid T
  have HB0 := Lib.hid hb0
  have HN := Lib.hid hln
  clear hin hc hb0 hB hln hl hx
  go_enter Try.func44, Try.ntmps44
  go_wp2_with fail
  refine (values_any _ _ _ _).mono ?_
  rintro e w1 ⟨rfl, rfl⟩
  go_wp2_with fail
  refine S.out.mono ?_
  rintro e w2 ⟨g, c, ss, rfl, hP, hS, hR, hb2⟩
  have HT := Lib.hid (T.out ss hP hS)
  have hsl : ss.length = n := by rw [hP.length_eq]; exact HN.out
  have HR := Lib.hid hR
  have HB2 := Lib.hid (HB0.out.trans (hb2.mono HB0.out.size))
  clear S T hb2 hR hP hS HB0
  go_wp2_with fail
  go_loop [9, 3, 4] (fun i _ _ => ∃ k : Nat, k ≤ n ∧ i = .int .i64 k ∧ Hid (∀ j, j < k → ss[j]?.getD 0 ≤ (j : Int))) (fun i _ _ => n - (intOf i).toNat)
  case atStart => exact ⟨0, Nat.zero_le _, rfl, by show ∀ _, _; intro j hj; omega⟩
  case round =>
    obtain ⟨k, hk, rfl, HJ⟩ := hrel
    by_cases hlt : k < n
    · have hk1 : (k : Int) < (n : Int) := by omega
      obtain ⟨_, _, e, -, -, -, hc⟩ := HR.out.int (by omega)
      simp only [Option.some.injEq, Addr.mk.injEq, and_true] at e
      obtain ⟨rfl, rfl⟩ := e
      have h0 := hc k (by omega)
      obtain ⟨y, hy⟩ : ∃ y, ss[k]?.getD 0 = y := ⟨_, rfl⟩
      rw [hy, Nat.zero_add] at h0
      by_cases hyk : y ≤ (k : Int)
      · have hyk2 : ¬ (k : Int) < y := by omega
        have HJ2 : Hid (∀ j, j < k + 1 → ss[j]?.getD 0 ≤ (j : Int)) := by
          show ∀ _, _
          intro j hj
          by_cases e : j = k
          · subst e; rw [hy]; exact hyk
          · exact HJ.out j (by omega)
        clear hy hc
        go_wp2_with fail
        go_round
        case rel => exact ⟨k + 1, by omega, by go_num, HJ2⟩
        case measure => simp [intOf]; omega
      · have hBf : B = false := by
          cases B with
          | false => rfl
          | true =>
            have := HT.out.1 rfl k hlt
            rw [hy] at this
            exact absurd this hyk
        subst hBf
        have hyk2 : (k : Int) < y := by omega
        clear hy hc
        go_wp2_with fail
        go_ret
        exact ⟨rfl, HB2.out⟩
    · have hkn : n = k := by omega
      have hBt := HT.out.2 (fun j hj => HJ.out j (by omega))
      subst hBt
      have hk1 : ¬ (k : Int) < (n : Int) := by omega
      go_wp2_with fail
      go_ret
      exact ⟨rfl, HB2.out⟩

theorem box_int (w : World) (n : Int) : OwnArr (w.alloc (.cells #[.int .i64 n] 3)) w.heap.size 3 [.int .i64 n] := OwnArr.made w 3 [.int .i64 n]
set_option maxHeartbeats 800000 in
theorem other_any (n x : Int) (g : Nat) (w : World) (hX : OwnArr w g 3 [.int .i64 n]) :
    Calls Try.prog 42 #[.int .i64 x, .pointer (some ⟨g, 0, none⟩)] w fun e w' => e = .returned (.bool (!(decide (0 ≤ x) && decide (x ≤ n)))) ∧ Below w.heap.size w w' := by
  have c0 := hX.cell 0
  simp only [List.getElem?_cons_zero] at c0
  clear hX
  by_cases h : x < 0
  · go_enter Try.func42, Try.ntmps42
    go_wp2_with fail
    go_ret
    exact ⟨ret_bool (by rw [decide_eq_false (show ¬ 0 ≤ x by omega)]; rfl), Below.refl _ _⟩
  · have h0 : 0 ≤ x := by omega
    go_enter Try.func42, Try.ntmps42
    go_wp2_with fail
    go_ret
    exact ⟨ret_bool (by
      by_cases e : x ≤ n
      · rw [decide_eq_true e, decide_eq_false (show ¬ n < x by omega)]; rfl
      · rw [decide_eq_false e, decide_eq_true (show n < x by omega)]; rfl), Below.refl _ _⟩
theorem any_takeO {P : Int → Bool} {xs : List Int} {k : Nat} (h : k < xs.length) : (xs.take (k + 1)).any P = ((xs.take k).any P || P (xs[k]?.getD 0)) := by
  rw [List.take_succ_eq_append_getElem h, List.any_append, List.getElem?_eq_getElem h]
  simp

set_option maxHeartbeats 1000000 in
theorem indexOther_any (P : Int → Bool) (cv : Value) (xs : List Int) (q : Option Addr) (c : Nat) (w : World) (lo hi : Nat) (hin : Ri lo hi w q xs) (hll : xs.length ≤ 1048576)
    (hG : ∀ x w', Below w.heap.size w w' → Calls Try.prog 42 #[.int .i64 x, cv] w' fun e w'' => e = .returned (.bool (P x)) ∧ Below w'.heap.size w' w'') :
    Calls Try.prog 59 #[.slice q xs.length c, .func (.func 42) #[] #[cv]] w fun e w' => ∃ r : Int, e = .returned (.int .i64 r) ∧ (0 ≤ r ↔ xs.any P = true) ∧ Below w.heap.size w w' := by
  have HI := Lib.hid hin
  have G := Lib.hid hG
  obtain ⟨k0, hk0⟩ : ∃ k, xs.length = k := ⟨_, rfl⟩
  rw [hk0] at hll ⊢
  have HM := Lib.hid hk0
  clear hin hk0 hG
  go_enter Try.func59, Try.ntmps59
  go_wp2_with fail
  go_loopw [5, 8] (fun _ i wr => ∃ (k : Nat), k ≤ k0 ∧ i = .int .i64 k ∧ Hid ((xs.take k).any P = false) ∧ Hid (Below w.heap.size w wr)) (fun _ i _ => k0 - (intOf i).toNat)
  case atStart => exact ⟨0, Nat.zero_le _, rfl, by show _ = _; simp, Lib.hid (Below.refl _ _)⟩
  case round =>
    obtain ⟨k, hk, rfl, HF, HB⟩ := hrel
    by_cases hlt : k < k0
    · have hk1 : (k : Int) < (k0 : Int) := by omega
      have hkl : k < xs.length := by have := HM.out; omega
      obtain ⟨b, off, rfl, -, -, hbw, hc⟩ := HI.out.int (by omega)
      have h0 := (HB.out.cell (p := ⟨b, off + k, none⟩) hbw).trans (hc k hkl)
      have hmem : xs[k]?.getD 0 ∈ xs := by rw [List.getElem?_eq_getElem hkl]; exact List.getElem_mem hkl
      have HT := Lib.hid (any_takeO (P := P) hkl)
      obtain ⟨y, hy⟩ : ∃ y, xs[k]?.getD 0 = y := ⟨_, rfl⟩
      rw [hy] at h0 HT hmem
      have G2 := Lib.hid (G.out y wr HB.out)
      have HY : Hid (P y = true → xs.any P = true) := by
        show _ → _
        intro h
        exact List.any_eq_true.2 ⟨y, hmem, h⟩
      obtain ⟨t, ht⟩ : ∃ t, P y = t := ⟨_, rfl⟩
      rw [ht] at G2 HT HY
      clear hc hy ht hmem
      cases t with
      | true =>
        go_wp2_with fail
        refine G2.out.mono ?_
        rintro e w2 ⟨rfl, hb2⟩
        have HB2 := Lib.hid (HB.out.trans (hb2.mono HB.out.size))
        clear hb2
        go_wp2_with fail
        go_ret
        exact ⟨_, rfl, by have := HY.out trivial; simp [this], HB2.out⟩
      | false =>
        have HF2 : Hid ((xs.take (k + 1)).any P = false) := by
          show _ = _
          rw [HT.out, HF.out]; rfl
        clear HT HF HY
        go_wp2_with fail
        refine G2.out.mono ?_
        rintro e w2 ⟨rfl, hb2⟩
        have HB2 := Lib.hid (HB.out.trans (hb2.mono HB.out.size))
        clear hb2 h0 G2 HB
        go_wp2_with fail
        go_roundw
        case rel => exact ⟨k + 1, by omega, by go_num, HF2, HB2⟩
        case measure => simp [intOf]; omega
    · have hkm : xs.take k = xs := List.take_of_length_le (by have := HM.out; omega)
      have hF := HF.out
      rw [hkm] at hF
      replace hF := Lib.hid hF
      clear HF hkm
      go_wp2_with fail
      go_ret
      exact ⟨_, rfl, by have := hF.out; simp [this], HB.out⟩

set_option maxHeartbeats 1000000 in
theorem containsOther_any (P : Int → Bool) (cv : Value) (xs : List Int) (q : Option Addr) (c : Nat) (w : World) (lo hi : Nat) (hin : Ri lo hi w q xs) (hll : xs.length ≤ 1048576)
    (hG : ∀ x w', Below w.heap.size w w' → Calls Try.prog 42 #[.int .i64 x, cv] w' fun e w'' => e = .returned (.bool (P x)) ∧ Below w'.heap.size w' w'') :
    Calls Try.prog 43 #[.slice q xs.length c, .func (.func 42) #[] #[cv]] w fun e w' => e = .returned (.bool (xs.any P)) ∧ Below w.heap.size w w' := by
  have I := Lib.hid (indexOther_any P cv xs q c w lo hi hin hll hG)
  obtain ⟨B, hB⟩ : ∃ B, xs.any P = B := ⟨_, rfl⟩
  rw [hB] at I ⊢
  clear hin hG hB
  go_enter Try.func43, Try.ntmps43
  go_wp2_with fail
  refine I.out.mono ?_
  rintro e w' ⟨r, rfl, hr, hb⟩
  replace hr := Lib.hid hr
  have HB := Lib.hid hb
  go_wp2_with fail
  go_ret
  exact ⟨ret_bool (by have := hr.out; cases B <;> simp_all), HB.out⟩

set_option maxRecDepth 4000 in
set_option maxHeartbeats 2000000 in
theorem shiftI_no (n : Int) (q : Option Addr) (c : Nat) (cs : List Int) (w : World) (lo hi : Nat) (hin : Ri lo hi w q cs) (hlen : cs.length ≤ 1048576) (h : shfB n cs = false) :
    Calls Try.prog 24 #[.int .i64 n, .slice q cs.length c] w fun e w' => e = .returned (.tuple #[.int .i64 0, .bool false]) ∧ Below w.heap.size w w' := by
  have hX := box_int w n
  have hB : Below w.heap.size w (w.alloc (.cells #[.int .i64 n] 3)) := (Below.refl _ _).alloc (Nat.le_refl _) _
  have IN := Lib.hid (fun w' => isCarNumber_any n w')
  have CF := Lib.hid (containsOther_any (fun x => !(decide (0 ≤ x) && decide (x ≤ n))) (.pointer (some ⟨w.heap.size, 0, none⟩)) cs q c (w.alloc (.cells #[.int .i64 n] 3)) lo hi (hin.below hB hin.top) hlen (fun x w2 hb2 => other_any n x w.heap.size w2 (hX.below hb2 hX.lt)))
  have hall : (cs.any fun x => !(decide (0 ≤ x) && decide (x ≤ n))) = !(cs.all fun x => decide (0 ≤ x) && decide (x ≤ n)) := by
    rw [List.not_all_eq_any_not]
  rw [hall] at CF
  unfold shfB at h
  have c0 := hX.cell 0
  simp only [List.getElem?_cons_zero] at c0
  have HB := Lib.hid hB
  obtain ⟨G, hG⟩ : ∃ G, good6 n = G := ⟨_, rfl⟩
  obtain ⟨A, hA⟩ : ∃ A, (cs.all fun x => decide (0 ≤ x) && decide (x ≤ n)) = A := ⟨_, rfl⟩
  rw [hG, hA] at h
  rw [hG] at IN
  rw [hA] at CF
  obtain ⟨m, hm⟩ : ∃ m, cs.length = m := ⟨_, rfl⟩
  rw [hm] at h CF ⊢
  clear hin hlen hX hB hG hA hm hall
  cases G with
  | false =>
    clear h
    go_enter Try.func24, Try.ntmps24
    go_wp2_with fail
    refine (IN.out _).mono ?_
    rintro e w1 ⟨rfl, rfl⟩
    go_wp2_with fail
    go_ret2
    exact ⟨rfl, HB.out⟩
  | true =>
    rw [Bool.true_and] at h
    by_cases hmn : (m : Int) = n
    · rw [decide_eq_true hmn, Bool.true_and] at h
      subst h
      subst hmn
      go_enter Try.func24, Try.ntmps24
      go_wp2_with fail
      refine (IN.out _).mono ?_
      rintro e w1 ⟨rfl, rfl⟩
      go_wp2_with fail
      refine CF.out.mono ?_
      rintro e w2 ⟨rfl, hb2⟩
      have HB2 := Lib.hid (HB.out.trans (hb2.mono HB.out.size))
      clear hb2
      go_wp2_with fail
      go_ret2
      exact ⟨rfl, HB2.out⟩
    · go_enter Try.func24, Try.ntmps24
      go_wp2_with fail
      refine (IN.out _).mono ?_
      rintro e w1 ⟨rfl, rfl⟩
      go_wp2_with fail
      go_ret2
      exact ⟨rfl, HB.out⟩

set_option maxRecDepth 4000 in
set_option maxHeartbeats 2000000 in
theorem shiftI_any (n s : Nat) (q : Option Addr) (c : Nat) (l : List Nat) (w : World) (lo hi : Nat) (hin : Ri lo hi w q (ints l)) (h : shfB n (ints l) = true) (hn1 : 1 ≤ n) (hn : n ≤ 12) (hl : l.length = n) (hx : ∀ x ∈ l, x ≤ n) (hs : s ≤ n) (hs1 : parkB n (mvM n l s n) = true) (hs0 : ∀ t, t < s → parkB n (mvM n l t n) = false) :
    Calls Try.prog 24 #[.int .i64 (n : Nat), .slice q (ints l).length c] w fun e w' => e = .returned (.tuple #[.int .i64 (s : Int), .bool true]) ∧ Below w.heap.size w w' := by
  have hX := box_int w n
  have hB : Below w.heap.size w (w.alloc (.cells #[.int .i64 (n : Int)] 3)) := (Below.refl _ _).alloc (Nat.le_refl _) _
  have IN := Lib.hid (fun w' => isCarNumber_any (n : Int) w')
  have CF := Lib.hid (containsOther_any (fun x => !(decide (0 ≤ x) && decide (x ≤ (n : Int)))) (.pointer (some ⟨w.heap.size, 0, none⟩)) (ints l) q c (w.alloc (.cells #[.int .i64 (n : Int)] 3)) lo hi (hin.below hB hin.top) (by rw [ints_length]; omega) (fun x w2 hb2 => other_any n x w.heap.size w2 (hX.below hb2 hX.lt)))
  have hall : ((ints l).any fun x => !(decide (0 ≤ x) && decide (x ≤ (n : Int)))) = !((ints l).all fun x => decide (0 ≤ x) && decide (x ≤ (n : Int))) := by
    rw [List.not_all_eq_any_not]
  rw [hall] at CF
  unfold shfB at h
  rw [Bool.and_eq_true, Bool.and_eq_true] at h
  obtain ⟨hg, -, ha⟩ := h
  rw [hg] at IN
  rw [ha] at CF
  have SH := Lib.hid (fun (t : Nat) (ht : t ≤ n) (w' : World) (h' : Below w.heap.size w w') => shiftedBy_any n t q c l w' lo hi (hin.below h' hin.top) hl hn (by omega) hx)
  have IP := Lib.hid (fun (t : Nat) (p : Option Addr) (cap : Nat) (w' : World) (lo' hi' : Nat) (hr : Ri lo' hi' w' p (ints (mvM n l t n))) => isParkingList_any n p cap (mvM n l t n) w' lo' hi' hr (by rw [← hl]; exact mv_len (Nat.le_refl _)) hn1 hn mv_le)
  have HLN : Hid (∀ t, (ints (mvM n l t n)).length = n) := by show ∀ _, _; intro t; rw [ints_length, ← hl]; exact mv_len (Nat.le_refl _)
  have HS0 := Lib.hid hs0
  have HS1 := Lib.hid hs1
  have hln : (ints l).length = n := by rw [ints_length, hl]
  rw [hln] at CF ⊢
  have c0 := hX.cell 0
  simp only [List.getElem?_cons_zero] at c0
  have HB := Lib.hid hB
  clear hin hX hB hall hg ha hl hx hs1 hs0 hln
  go_enter Try.func24, Try.ntmps24
  go_wp2_with fail
  refine (IN.out _).mono ?_
  rintro e w1 ⟨rfl, rfl⟩
  go_wp2_with fail
  refine CF.out.mono ?_
  rintro e w2 ⟨rfl, hb2⟩
  have HB2 := Lib.hid (HB.out.trans (hb2.mono HB.out.size))
  clear hb2 CF IN HB c0
  go_wp2_with fail
  go_loopw [7] (fun tv wr => ∃ t : Nat, t ≤ s ∧ tv = .int .i64 (t : Int) ∧ Hid (Below w.heap.size w wr)) (fun tv _ => n + 1 - (intOf tv).toNat)
  case atStart => exact ⟨0, Nat.zero_le _, rfl, HB2⟩
  case round =>
    obtain ⟨t, ht, rfl, HB⟩ := hrel
    clear HB2
    have S0 := Lib.hid (SH.out t (by omega) wr HB.out)
    have hwt : IntKind.i64.wrap ((t : Int) + 1) = (t : Int) + 1 := IntWalk.i64_in _ (by omega)
    go_wp2_with fail
    refine S0.out.mono ?_
    rintro e w3 ⟨v, rfl, hO, hb3⟩
    obtain ⟨qv, cv, rfl, -, -, hR, -⟩ := hO.rd
    have I0 := IP.out t qv cv w3 _ _ hR
    rw [HLN.out]
    have HB3 := Lib.hid (HB.out.trans (hb3.mono HB.out.size))
    by_cases hts : t < s
    · rw [HS0.out t hts] at I0
      replace I0 := Lib.hid I0
      clear hO hR hb3 S0 HB
      go_wp2_with fail
      refine I0.out.mono ?_
      rintro e w4 ⟨rfl, hb4⟩
      have HB4 := Lib.hid (HB3.out.trans (hb4.mono HB3.out.size))
      clear hb4 I0 HB3
      go_wp2_with fail
      go_roundw
      case rel => exact ⟨t + 1, by omega, by go_num, HB4⟩
      case measure => simp [intOf]; omega
    · have hts2 : t = s := by omega
      subst hts2
      rw [HS1.out] at I0
      replace I0 := Lib.hid I0
      clear hO hR hb3 S0 HB
      go_wp2_with fail
      refine I0.out.mono ?_
      rintro e w4 ⟨rfl, hb4⟩
      have HB4 := Lib.hid (HB3.out.trans (hb4.mono HB3.out.size))
      clear hb4 I0 HB3
      go_wp2_with fail
      go_ret2
      exact ⟨rfl, HB4.out⟩
theorem shiftToPark_both (a0 : Int) (xs1 : List Int) : ∃ (x0 : Int) (y1 : Bool), (∀ (q1 : Option Addr) (c1 : Nat) (w : World) (lo1 hi1 : Nat), Ri lo1 hi1 w q1 xs1 → xs1.length ≤ 1048576 → xs1.length ≤ c1 → c1 ≤ maxLen → Calls Try.prog 23 #[.int .i64 a0, .slice q1 xs1.length c1] w fun e w' => e = .returned (.tuple #[.int .i64 x0, .bool y1]) ∧ Below w.heap.size w w') ∧ (∀ (q1 : Option Addr) (c1 : Nat) (w : World) (lo1 hi1 : Nat), Ri lo1 hi1 w q1 xs1 → xs1.length ≤ 1048576 → xs1.length ≤ c1 → c1 ≤ maxLen → Calls Try.prog 24 #[.int .i64 a0, .slice q1 xs1.length c1] w fun e w' => e = .returned (.tuple #[.int .i64 x0, .bool y1]) ∧ Below w.heap.size w w') := by
  cases h : shfB a0 xs1 with
  | false =>
    have hr : shfR a0 xs1 = none := by unfold shfR; rw [h]; rfl
    refine ⟨_, _, fun q1 c1 w lo hi h1 h2 _ _ => shiftS_any a0 q1 c1 xs1 w lo hi h1 h2, fun q1 c1 w lo hi h1 h2 _ _ => ?_⟩
    rw [hr]
    exact shiftI_no a0 q1 c1 xs1 w lo hi h1 h2 h
  | true =>
    obtain ⟨n, l, rfl, rfl, h1, h2, hl, hx⟩ := shfB_is h
    obtain ⟨s, hf, hs, hs1, hs0⟩ := shfM_first hl hx
    rw [hl] at hs1 hs0
    have hr : shfR n (ints l) = some s := by rw [shfR_is h, hf]
    refine ⟨_, _, fun q1 c1 w lo hi g1 g2 _ _ => shiftS_any n q1 c1 (ints l) w lo hi g1 g2, fun q1 c1 w lo hi g1 g2 _ _ => ?_⟩
    rw [hr]
    exact shiftI_any n s q1 c1 l w lo hi g1 h h1 h2 hl hx hs hs1 hs0
end Go.Proofs.Ytfabannlebolfaa
