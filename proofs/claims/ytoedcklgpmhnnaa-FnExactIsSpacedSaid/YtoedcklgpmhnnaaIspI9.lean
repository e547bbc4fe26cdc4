/- Chapter 9, impl side: impl.IsSpaced; both sides. -/
import Derived.Test.YtoedcklgpmhnnaaIspM9
import Derived.Test.YtoedcklgpmhnnaaIspS9
import Derived.Test.YtoedcklgpmhnnaaSpoI9
namespace Go.Proofs.Ytoedcklgpmhnnaa
open Go.RowKit

theorem spc_good {n : Nat} {ring : Bool} {S : Nat → Bool} {D : Nat} {ss : List Int} : spcI n ring S D ss = (List.range ss.length).all (goodM n ring S D ss) := by
  rw [Bool.eq_iff_iff, List.all_eq_true]
  constructor
  · intro h j hj
    have hj' : j < ss.length := by simpa using hj
    unfold spcI at h
    rw [Bool.and_eq_true] at h
    obtain ⟨hr, hu⟩ := h
    have e := rising_is hr
    obtain ⟨T, hT⟩ : ∃ T, (fun k : Nat => decide ((k : Int) ∈ ss)) = T := ⟨_, rfl⟩
    rw [hT] at e
    subst e
    rw [ints_map] at hu
    unfold chUp at hu
    rw [List.all_eq_true] at hu
    rw [ints_length] at hj'
    have hu2 := hu j (by rw [ints_length]; simpa using hj')
    unfold goodM
    have et : (ints (tk n T)).take j = ints ((tk n T).take j) := by unfold ints; rw [List.map_take]
    rw [ints_get hj', et, ints_map, decide_eq_true_eq, mem_ints]
    refine ⟨_, rfl, ?_⟩
    unfold mayM at hu2
    rw [Bool.and_eq_true, List.all_eq_true] at hu2
    rw [mem_lfM]
    refine ⟨(mem_tk.1 (nat_mem hj')).1, hu2.1, fun c hc => ⟨?_, ?_⟩⟩
    · obtain ⟨i, hi, rfl⟩ := List.mem_take_iff_getElem.1 hc
      rw [List.getElem?_eq_getElem hj']
      exact List.pairwise_iff_getElem.1 (tk_sorted n T) i j (by omega) hj' (by omega)
    · have := hu2.2 c hc
      rw [gapM_comm]
      simpa using this
  · intro h
    have h' : ∀ j, j < ss.length → goodM n ring S D ss j = true := fun j hj => h j (by simpa using hj)
    have hr := good_rising h'
    unfold spcI
    rw [hr, Bool.true_and]
    have e := rising_is hr
    obtain ⟨T, hT⟩ : ∃ T, (fun k : Nat => decide ((k : Int) ∈ ss)) = T := ⟨_, rfl⟩
    rw [hT] at e
    subst e
    rw [ints_map]
    unfold chUp
    rw [List.all_eq_true]
    intro j hj
    have hj' : j < (tk n T).length := by rw [ints_length] at hj; simpa using hj
    have hg := h' j (by rw [ints_length]; exact hj')
    unfold goodM at hg
    have et : (ints (tk n T)).take j = ints ((tk n T).take j) := by unfold ints; rw [List.map_take]
    rw [ints_get hj', et, ints_map, decide_eq_true_eq, mem_ints] at hg
    obtain ⟨k, hk1, hk2⟩ := hg
    have hk3 : (tk n T)[j]?.getD 0 = k := by omega
    rw [hk3]
    obtain ⟨-, h2, h3⟩ := mem_lfM.1 hk2
    unfold mayM
    rw [h2, Bool.true_and, List.all_eq_true]
    intro c hc
    have := (h3 c hc).2
    rw [gapM_comm] at this
    exact decide_eq_true this

set_option maxHeartbeats 800000 in
theorem index9e_any (p : Option Addr) (cap : Nat) (l : List Nat) (x : Int) (w : World) (lo hi : Nat) (hin : Ri lo hi w p (ints l)) (hlen : l.length ≤ 1048576) :
    Calls Try.prog 35 #[.slice p l.length cap, .int .i64 x] w fun e w' => ∃ r : Int, e = .returned (.int .i64 r) ∧ ((r = -1 ∧ x ∉ ints l) ∨ ∃ i : Nat, r = i ∧ i < l.length ∧ x = ((l[i]?.getD 0 : Nat) : Int)) ∧ w = w' := by
  have HIN := Lib.hid hin
  obtain ⟨k0, hk0⟩ : ∃ k, l.length = k := ⟨_, rfl⟩
  rw [hk0] at hlen ⊢
  have HK := Lib.hid hk0
  clear hin hk0
  go_enter Try.func35, Try.ntmps35
  go_wp2
  go_loop [5, 8] (fun _ i => ∃ (k : Nat), k ≤ k0 ∧ i = .int .i64 k ∧ Hid (x ∉ (ints l).take k)) (fun _ i => k0 - (intOf i).toNat)
  case atStart => exact ⟨0, Nat.zero_le _, rfl, by show _ ∉ _; simp⟩
  case round =>
    obtain ⟨k, hk, rfl, HR⟩ := hrel
    by_cases hlt : k < k0
    · have hkl : k < l.length := by have := HK.out; omega
      obtain ⟨c, off, rfl, _, _, hc, hcell⟩ := HIN.out.int (by rw [ints_length]; omega)
      have h0 := hcell k (by rw [ints_length]; exact hkl)
      have HN := Lib.hid (fun h => notin_snoc HR.out (by rw [ints_length]; exact hkl) h)
      rw [ints_get hkl] at h0 HN
      have HY : Hid (x = ((l[k]?.getD 0 : Nat) : Int) → ∃ i : Nat, (k : Int) = i ∧ i < k0 ∧ x = ((l[i]?.getD 0 : Nat) : Int)) := fun h => ⟨k, rfl, hlt, h⟩
      obtain ⟨y, hy⟩ : ∃ y, l[k]?.getD 0 = y := ⟨_, rfl⟩
      rw [hy] at h0 HN HY
      clear hcell hy
      by_cases he : x = (y : Int)
      · have HY' := Lib.hid (HY.out he)
        clear HY HN
        go_wp2
        go_ret
        exact ⟨_, rfl, by first | exact .inr HY'.out | (rw [← he]; exact .inr HY'.out), rfl⟩
      · have HN' := Lib.hid (HN.out (fun h => he h.symm))
        clear HY HN
        go_wp2
        go_round
        case rel => exact ⟨k + 1, by omega, by go_num, HN'⟩
        case measure => simp [intOf]; omega
    · have HF : Hid (x ∉ ints l) := by
        show _ ∉ _
        have := HR.out
        rwa [List.take_of_length_le (by rw [ints_length, HK.out]; omega)] at this
      go_wp2
      go_ret
      exact ⟨_, rfl, .inl ⟨rfl, HF.out⟩, rfl⟩

set_option maxHeartbeats 1000000 in
theorem isSpacedI_bad (s : Int) (ring : Bool) (p : Option Addr) (cap : Nat) (xs : List Int) (q : Option Addr) (c m2 : Nat) (d : Int) (w : World) (lo hi : Nat) (hin : Ri lo hi w p xs) (hlen : xs.length ≤ 1048576) (hr : (rowB s ring xs && decide (1 ≤ d)) = false) :
    Calls Try.prog 13 #[rowV s ring p xs.length cap, .slice q m2 c, .int .i64 d] w fun e w' => e = .returned (.tuple #[.bool false, .bool false]) ∧ Below w.heap.size w w' := by
  have hB := box_below w s ring p xs.length cap 28
  have I := canSpace_any s ring p cap xs d _ lo hi (hin.below hB hin.top) hlen
  rw [hr] at I
  replace I := Lib.hid I
  obtain ⟨m0, hm0⟩ : ∃ m, xs.length = m := ⟨_, rfl⟩
  rw [hm0] at hB I ⊢
  have HB := Lib.hid hB
  clear hin hm0 hlen hB hr
  go_enter Try.func13, Try.ntmps13
  go_wp2_with fail
  refine I.out.mono ?_
  rintro e w2 ⟨rfl, hb2⟩
  have HB2 := Lib.hid (HB.out.trans (hb2.mono HB.out.size))
  clear I HB hb2
  go_wp2_with fail
  go_ret2
  exact ⟨rfl, HB2.out⟩

set_option maxRecDepth 4000 in
set_option maxHeartbeats 2000000 in
theorem isSpacedI_any (n : Nat) (ring : Bool) (p : Option Addr) (cap : Nat) (S : Nat → Bool) (q : Option Addr) (c : Nat) (ss : List Int) (D : Nat) (w : World) (lo hi lo2 hi2 : Nat) (hin : Ri lo hi w p (ints (tk n S))) (hin2 : Ri lo2 hi2 w q ss) (hlen2 : ss.length ≤ 1048576) (hr : rowB n ring (ints (tk n S)) = true) (hD : 1 ≤ D) :
    Calls Try.prog 13 #[rowV n ring p (ints (tk n S)).length cap, .slice q ss.length c, .int .i64 (D : Int)] w fun e w' => e = .returned (.tuple #[.bool (spcI n ring S D ss), .bool true]) ∧ Below w.heap.size w w' := by
  have hn : 2 ≤ n ∧ n ≤ 24 ∧ (ring = true → 3 ≤ n) := by
    obtain ⟨n', S', e, -, h0, h, h3⟩ := rowB_is hr
    have : n = n' := by omega
    subst this
    exact ⟨h0, h, h3⟩
  obtain ⟨hn2, hn24, hn3⟩ := hn
  have hlen := ints_tk_len n S
  have hX := OwnArr.made w 28 [.int .i64 n, .bool ring, .slice p (ints (tk n S)).length cap]
  have hB := box_below w n ring p (ints (tk n S)).length cap 28
  have I := canSpace_any n ring p cap (ints (tk n S)) D _ lo hi (hin.below hB hin.top) (by omega)
  rw [hr, decide_eq_true (by omega : (1 : Int) ≤ (D : Int))] at I
  replace I := Lib.hid I
  have SO := Lib.hid (fun (w' : World) (h' : Below w.heap.size w w') => spacingOf_any n ring p cap S D w' lo hi (hin.below h' hin.top) hn2 hn24 hn3)
  have HI2 := Lib.hid (fun (w' : World) (h' : Below w.heap.size w w') => hin2.below h' hin2.top)
  have HG := Lib.hid (spc_good (n := n) (ring := ring) (S := S) (D := D) (ss := ss))
  obtain ⟨R, hR⟩ : ∃ R, spcI n ring S D ss = R := ⟨_, rfl⟩
  rw [hR] at HG ⊢
  obtain ⟨m, hm⟩ : ∃ m, (ints (tk n S)).length = m := ⟨_, rfl⟩
  rw [hm] at hX hB I SO ⊢
  obtain ⟨k0, hk0⟩ : ∃ m, ss.length = m := ⟨_, rfl⟩
  rw [hk0] at HG hlen2 ⊢
  have HK := Lib.hid hk0
  have HX := Lib.hid hX
  have HB := Lib.hid hB
  obtain ⟨c0, c1, c2, -⟩ := HX.out.three
  clear hin hin2 hm hlen hX hB hr hR hk0
  go_enter Try.func13, Try.ntmps13
  go_wp2_with fail
  refine I.out.mono ?_
  rintro e w2 ⟨rfl, hb2⟩
  have HB2 := Lib.hid (HB.out.trans (hb2.mono HB.out.size))
  have HX2 := Lib.hid (HX.out.below hb2 HX.out.lt)
  clear I HB hb2 c0 c1 c2 HX
  obtain ⟨c0, c1, c2, -⟩ := HX2.out.three
  go_wp2_with fail
  refine (SO.out _ HB2.out).mono ?_
  rintro e w3 ⟨v, rfl, hO, hb3⟩
  obtain ⟨qo, ko, rfl, -⟩ := hO.rd
  have HB3 := Lib.hid (HB2.out.trans (hb3.mono HB2.out.size))
  have hs3 := HX2.out.lt
  obtain ⟨l0, hl0⟩ : ∃ k, (ints (opn n ring S D)).length = k := ⟨_, rfl⟩
  rw [hl0] at hO ⊢
  have HX3 := Lib.hid (OwnArr.made w3 49 [.int .i64 n, .bool ring, .slice p m cap, .int .i64 D, .slice qo l0 ko])
  have HO3 := Lib.hid (show Out w.heap.size (w3.alloc (.cells #[.int .i64 n, .bool ring, .slice p m cap, .int .i64 D, .slice qo l0 ko] 49)) (.slice qo l0 ko) (ints (lfM n ring S D ((ss.take 0).map Int.toNat))) from by
    rw [List.take_zero, List.map_nil, lfM_nil]
    exact World.ownsRow.alloc (hO.mono HB2.out.size) _)
  have HB4 := Lib.hid (HB3.out.alloc (Nat.le_trans HB2.out.size hb3.size) (.cells #[.int .i64 n, .bool ring, .slice p m cap, .int .i64 D, .slice qo l0 ko] 49))
  have HL0 : Hid ((ints (lfM n ring S D ((ss.take 0).map Int.toNat))).length = l0) := by
    show _ = _
    rw [List.take_zero, List.map_nil, lfM_nil]; exact hl0
  obtain ⟨X, hXs⟩ : ∃ X, w3.heap.size = X := ⟨_, rfl⟩
  have hXw : w.heap.size < X := by have := hb3.size; omega
  rw [hXs] at HX3
  replace hXs := Lib.hid hXs
  obtain ⟨d0, d1, d2, d3, d4⟩ := HX3.out.five
  clear hO hl0 hb3 HB2 HX2 c0 c1 c2 SO HB3 hs3
  go_wp2_with fail
  rw [hXs.out]
  clear d0 d1 d2 d3 d4
  go_loopw [9, 11, 12, 24] (fun v _ _ i wr => ∃ (j : Nat) (q : Option Addr) (k c : Nat), j ≤ k0 ∧ i = .int .i64 (j : Int) ∧ v = .slice q k c ∧ Hid (∀ t, t < j → goodM n ring S D ss t = true) ∧ Hid ((ints (lfM n ring S D ((ss.take j).map Int.toNat))).length = k) ∧ Hid (OwnArr wr X 49 [.int .i64 n, .bool ring, .slice p m cap, .int .i64 D, .slice qo l0 ko]) ∧ Hid (Out w.heap.size wr (.slice q k c) (ints (lfM n ring S D ((ss.take j).map Int.toNat)))) ∧ Hid (Below w.heap.size w wr)) (fun _ _ _ i _ => k0 - (intOf i).toNat)
  case atStart => exact ⟨0, qo, l0, ko, Nat.zero_le _, rfl, rfl, Lib.hid (fun t h => absurd h (Nat.not_lt_zero _)), HL0, HX3, HO3, HB4⟩
  case round =>
    obtain ⟨j, q', k, c', hj, rfl, rfl, HGD, HLK, HX, HO, HB⟩ := hrel
    clear HX3 HO3 HB4 HL0
    by_cases hlt : j < k0
    · have hj1 : (j : Int) < (k0 : Int) := by omega
      have hj0 : (0 : Int) ≤ (j : Int) := by omega
      have hjl : j < ss.length := by rw [HK.out]; exact hlt
      obtain ⟨b, off, rfl, -, -, hbw, hc⟩ := (HI2.out wr HB.out).int (by omega)
      have h0 := hc j hjl
      have hgj : goodM n ring S D ss j = decide (ss[j]?.getD 0 ∈ ints (lfM n ring S D ((ss.take j).map Int.toNat))) := rfl
      have htk : ss.take (j + 1) = ss.take j ++ [ss[j]?.getD 0] := by
        rw [List.take_succ_eq_append_getElem hjl, List.getElem?_eq_getElem hjl]; rfl
      have hmp : (ss.take (j + 1)).map Int.toNat = (ss.take j).map Int.toNat ++ [(ss[j]?.getD 0).toNat] := by
        rw [htk, List.map_append]; rfl
      obtain ⟨x, hx⟩ : ∃ x, ss[j]?.getD 0 = x := ⟨_, rfl⟩
      rw [hx] at h0 hgj hmp
      obtain ⟨q2, c2, e, hk1, hk2, hR, -⟩ := HO.out.rd
      simp only [Value.slice.injEq] at e
      obtain ⟨rfl, -, rfl⟩ := e
      have hlk := HLK.out
      have hll := lfM_len (n := n) (ring := ring) (S := S) (D := D) (cs := (ss.take j).map Int.toNat)
      have hnx := fun i (hi : i < (lfM n ring S D ((ss.take j).map Int.toNat)).length) => lfM_next' (n := n) (ring := ring) (S := S) (D := D) hi
      have hlt' := lfM_lt (n := n) (ring := ring) (S := S) (D := D) (cs := (ss.take j).map Int.toNat)
      obtain ⟨l, hl⟩ : ∃ l, lfM n ring S D ((ss.take j).map Int.toNat) = l := ⟨_, rfl⟩
      rw [hl] at hgj hR hlk hll hlt' hk1
      simp only [hl] at hnx
      have IX := index9e_any q' c' l x wr _ _ hR (by omega)
      rw [ints_length] at hlk
      rw [hlk] at IX
      replace IX := Lib.hid IX
      clear hc htk
      go_wp2_with fail
      refine IX.out.mono ?_
      rintro e w4 ⟨r, rfl, hr, rfl⟩
      rcases hr with ⟨rfl, hnm⟩ | ⟨i, rfl, hik, hxi⟩
      · have hrF : R = false := by
          rw [HG.out, List.all_eq_false]
          exact ⟨j, by simpa using hlt, by rw [hgj, decide_eq_false hnm]; simp⟩
        subst hrF
        clear hgj hnx hmp hl hx
        go_wp2_with fail
        go_ret2
        exact ⟨rfl, HB.out⟩
      · have hi1 : ¬ (i : Int) < 0 := by omega
        obtain ⟨b2, off2, rfl, -, -, -, -⟩ := hR.int (by rw [ints_length]; omega)
        have hil : i < l.length := by omega
        have hgT : goodM n ring S D ss j = true := by
          rw [hgj, hxi]
          exact decide_eq_true (mem_ints.2 ⟨_, rfl, nat_mem hil⟩)
        have hn4 := hnx i hil
        have han := hlt' _ (nat_mem hil)
        rw [hxi, Int.toNat_natCast] at hmp
        obtain ⟨a, ha⟩ : ∃ a, l[i]?.getD 0 = a := ⟨_, rfl⟩
        rw [ha] at hxi hn4 hmp han
        have hbe := hR.behind (k := i + 1) (cap := c') hk1
        have AF := fun u uc w' lo hi (h : Ri lo hi w' u (ints (l.drop (i + 1)))) => apartFrom_any n ring p m cap D qo l0 ko a u uc (l.drop (i + 1)) w' lo hi h (fun y hy => hlt' y (List.mem_of_mem_drop hy)) (by rw [List.length_drop]; omega) hn24 han
        rw [hn4, ← hmp] at AF
        obtain ⟨I1, hI1⟩ : ∃ I, i + 1 = I := ⟨_, rfl⟩
        rw [hI1] at hbe AF
        have hI1i : (i : Int) + 1 = (I1 : Int) := by omega
        have hik2 : (I1 : Int) ≤ (c' : Int) := by rw [ints_length] at hk1; omega
        have hik3 : (I1 : Int) ≤ (k : Int) := by omega
        have hik4 : (k : Int) ≤ (c' : Int) := by rw [ints_length] at hk1; omega
        have hik5 : (0 : Int) ≤ (I1 : Int) := by omega
        have hw1 : IntKind.i64.wrap (I1 : Int) = (I1 : Int) := IntWalk.i64_in _ (by omega)
        obtain ⟨d0, d1, d2, d3, d4⟩ := HX.out.five
        subst hxi
        obtain ⟨U, hU⟩ : ∃ U, (if c' = I1 then some (⟨b2, off2, none⟩ : Addr) else some ⟨b2, off2 + I1, none⟩) = U := ⟨_, rfl⟩
        rw [hU] at hbe
        have hlen2 : (l.drop I1).length = k - I1 := by rw [List.length_drop]; omega
        have AF2 := AF U (c' - I1) wr.drew _ _ (by
          have := hbe.bel ((Below.refl _ wr).drew)
          rw [show (ints l).drop I1 = ints (l.drop I1) from by unfold ints; rw [← List.map_drop]] at this
          exact this)
        rw [hlen2] at AF2
        replace AF2 := Lib.hid AF2
        have HGD2 : Hid (∀ t, t < j + 1 → goodM n ring S D ss t = true) := by
          show ∀ _, _
          intro t ht
          by_cases e : t = j
          · subst e; exact hgT
          · exact HGD.out t (by omega)
        clear hgj hnx hmp hl hx h0 IX AF hbe hlen2 hI1 hgT HGD hn4 hR hk1 hk2 HLK HO hlk hll hlt' hik hil han hik2
        by_cases hci : c' = I1
        · rw [if_pos hci] at hU
          subst hU
          rw [show c' - I1 = 0 by omega] at AF2
          go_wp2_with fail
          go_still_tail 6, (by kernel_rfl)
          change wpList _ _ _ _ _ wr.drew
          go_wp2_with fail
          refine AF2.out.mono ?_
          rintro e w5 ⟨v5, rfl, hO5, hb5⟩
          have hb6 : Below wr.heap.size wr w5 := ((Below.refl _ wr).drew).trans hb5
          have HX5 := Lib.hid (HX.out.below hb6 HX.out.lt)
          have HB5 := Lib.hid (HB.out.trans (hb6.mono HB.out.size))
          obtain ⟨q5, c5, rfl, -⟩ := hO5.rd
          obtain ⟨l5, hl5⟩ : ∃ k, (ints (lfM n ring S D ((ss.take (j + 1)).map Int.toNat))).length = k := ⟨_, rfl⟩
          rw [hl5] at hO5 ⊢
          have HO5 := Lib.hid (hO5.mono (show w.heap.size ≤ wr.drew.heap.size + 1 from Nat.le_succ_of_le HB.out.size))
          have HL5 := Lib.hid hl5
          clear hb5 hb6 hO5 hl5 AF2 d0 d1 d2 d3 d4 HX HB
          go_wp2_with fail
          go_roundw
          case rel => exact ⟨j + 1, q5, l5, c5, by omega, by go_num, rfl, HGD2, HL5, HX5, HO5, HB5⟩
          case measure => simp [intOf]; omega
        · rw [if_neg hci] at hU
          subst hU
          go_wp2_with fail
          go_still_tail 6, (by kernel_rfl)
          change wpList _ _ _ _ _ wr.drew
          go_wp2_with fail
          refine AF2.out.mono ?_
          rintro e w5 ⟨v5, rfl, hO5, hb5⟩
          have hb6 : Below wr.heap.size wr w5 := ((Below.refl _ wr).drew).trans hb5
          have HX5 := Lib.hid (HX.out.below hb6 HX.out.lt)
          have HB5 := Lib.hid (HB.out.trans (hb6.mono HB.out.size))
          obtain ⟨q5, c5, rfl, -⟩ := hO5.rd
          obtain ⟨l5, hl5⟩ : ∃ k, (ints (lfM n ring S D ((ss.take (j + 1)).map Int.toNat))).length = k := ⟨_, rfl⟩
          rw [hl5] at hO5 ⊢
          have HO5 := Lib.hid (hO5.mono (show w.heap.size ≤ wr.drew.heap.size + 1 from Nat.le_succ_of_le HB.out.size))
          have HL5 := Lib.hid hl5
          clear hb5 hb6 hO5 hl5 AF2 d0 d1 d2 d3 d4 HX HB
          go_wp2_with fail
          go_roundw
          case rel => exact ⟨j + 1, q5, l5, c5, by omega, by go_num, rfl, HGD2, HL5, HX5, HO5, HB5⟩
          case measure => simp [intOf]; omega
    · have hjk : j = k0 := by omega
      subst hjk
      have hrT : R = true := by
        rw [HG.out, List.all_eq_true]
        intro t ht
        exact HGD.out t (by simpa using ht)
      subst hrT
      clear HG
      go_wp2_with fail
      go_ret2
      exact ⟨rfl, HB.out⟩

theorem isSpaced_both (s0 : Int) (r0 : Bool) (xs0 : List Int) (xs1 : List Int) (a2 : Int) : ∃ (y0 : Bool) (y1 : Bool), (∀ (q0 : Option Addr) (c0 : Nat) (q1 : Option Addr) (c1 : Nat) (w : World) (lo0 hi0 : Nat) (lo1 hi1 : Nat), Ri lo0 hi0 w q0 xs0 → xs0.length ≤ 1048576 → xs0.length ≤ c0 → c0 ≤ maxLen → Ri lo1 hi1 w q1 xs1 → xs1.length ≤ 1048576 → xs1.length ≤ c1 → c1 ≤ maxLen → Calls Try.prog 10 #[rowV s0 r0 q0 xs0.length c0, .slice q1 xs1.length c1, .int .i64 a2] w fun e w' => e = .returned (.tuple #[.bool y0, .bool y1]) ∧ Below w.heap.size w w') ∧ (∀ (q0 : Option Addr) (c0 : Nat) (q1 : Option Addr) (c1 : Nat) (w : World) (lo0 hi0 : Nat) (lo1 hi1 : Nat), Ri lo0 hi0 w q0 xs0 → xs0.length ≤ 1048576 → xs0.length ≤ c0 → c0 ≤ maxLen → Ri lo1 hi1 w q1 xs1 → xs1.length ≤ 1048576 → xs1.length ≤ c1 → c1 ≤ maxLen → Calls Try.prog 13 #[rowV s0 r0 q0 xs0.length c0, .slice q1 xs1.length c1, .int .i64 a2] w fun e w' => e = .returned (.tuple #[.bool y0, .bool y1]) ∧ Below w.heap.size w w') := by
  cases h : (rowB s0 r0 xs0 && decide (1 ≤ a2)) with
  | false =>
    exact ⟨false, false,
      fun q0 c0 q1 c1 w lo0 hi0 lo1 hi1 h1 h2 _ _ _ _ _ _ => isSpacedS_bad s0 r0 q0 c0 xs0 q1 c1 _ a2 w lo0 hi0 h1 h2 h,
      fun q0 c0 q1 c1 w lo0 hi0 lo1 hi1 h1 h2 _ _ _ _ _ _ => isSpacedI_bad s0 r0 q0 c0 xs0 q1 c1 _ a2 w lo0 hi0 h1 h2 h⟩
  | true =>
    rw [Bool.and_eq_true, decide_eq_true_eq] at h
    obtain ⟨g2, hd⟩ := h
    obtain ⟨n, S, rfl, rfl, -⟩ := rowB_is g2
    obtain ⟨D, rfl⟩ : ∃ D : Nat, a2 = D := ⟨a2.toNat, by omega⟩
    exact ⟨spcI n r0 S D xs1, true,
      fun q0 c0 q1 c1 w lo0 hi0 lo1 hi1 h1 _ _ _ h3 h4 h5 h6 => isSpacedS_any n r0 q0 c0 S q1 c1 xs1 D w lo0 hi0 lo1 hi1 h1 h3 h4 h5 h6 g2 (by omega),
      fun q0 c0 q1 c1 w lo0 hi0 lo1 hi1 h1 _ _ _ h3 h4 _ _ => isSpacedI_any n r0 q0 c0 S q1 c1 xs1 D w lo0 hi0 lo1 hi1 h1 h3 h4 g2 (by omega)⟩
end Go.Proofs.Ytoedcklgpmhnnaa
