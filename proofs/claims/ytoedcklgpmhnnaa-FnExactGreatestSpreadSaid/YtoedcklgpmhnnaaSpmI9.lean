/- Chapter 9, impl side: impl.MostSpaced, impl.FirstSpaced, impl.GreatestSpread. -/
import Derived.Test.YtoedcklgpmhnnaaErlI9
import Derived.Test.YtoedcklgpmhnnaaSpoI9
import Derived.Test.YtoedcklgpmhnnaaMstS9
namespace Go.Proofs.Ytoedcklgpmhnnaa
open Go.RowKit

theorem out_form9 {B : Nat} {w : World} {q : Option Addr} {n c : Nat} {xs : List Int} (h : Out B w (.slice q n c) xs) : (q = none ∧ c = 0) ∨ ∃ b off, q = some ⟨b, off, none⟩ := by
  rcases h.2 with ⟨e, -⟩ | ⟨g, cap, cur, e, -⟩
  · simp only [Value.slice.injEq] at e
    exact .inl ⟨e.1, e.2.2⟩
  · simp only [Value.slice.injEq] at e
    exact .inr ⟨g, 0, e.1⟩
theorem mx_drop {n : Nat} {ring : Bool} {D : Nat} {l : List Nat} {j : Nat} (h : j < l.length) : mxSp n ring D (l.drop j) = max (grg n ring D (l.drop j)).length (mxSp n ring D (l.drop (j + 1))) := by
  rw [List.drop_eq_getElem_cons h]
  rfl
theorem row_parts9 {n : Nat} {ring : Bool} {S : Nat → Bool} (hr : rowB n ring (ints (tk n S)) = true) : 2 ≤ n ∧ n ≤ 24 ∧ (ring = true → 3 ≤ n) := by
  obtain ⟨n', S', e, -, h2, h, h3⟩ := rowB_is hr
  have : n = n' := by omega
  subst this
  exact ⟨h2, h, h3⟩

set_option maxHeartbeats 1000000 in
theorem mostSpacedI_bad (s : Int) (ring : Bool) (p : Option Addr) (cap : Nat) (xs : List Int) (d : Int) (w : World) (lo hi : Nat) (hin : Ri lo hi w p xs) (hlen : xs.length ≤ 1048576) (hr : (rowB s ring xs && decide (1 ≤ d)) = false) :
    Calls Try.prog 24 #[rowV s ring p xs.length cap, .int .i64 d] w fun e w' => e = .returned (.tuple #[.int .i64 0, .bool false]) ∧ Below w.heap.size w w' := by
  have hB := box_below w s ring p xs.length cap 28
  have I := canSpace_any s ring p cap xs d _ lo hi (hin.below hB hin.top) hlen
  rw [hr] at I
  replace I := Lib.hid I
  obtain ⟨m0, hm0⟩ : ∃ m, xs.length = m := ⟨_, rfl⟩
  rw [hm0] at hB I ⊢
  have HB := Lib.hid hB
  clear hin hm0 hlen hB hr
  go_enter Try.func24, Try.ntmps24
  go_wp2_with fail
  refine I.out.mono ?_
  rintro e w2 ⟨rfl, hb2⟩
  have HB2 := Lib.hid (HB.out.trans (hb2.mono HB.out.size))
  clear I HB hb2
  go_wp2_with fail
  go_ret2
  exact ⟨rfl, HB2.out⟩

set_option maxRecDepth 4000 in
set_option maxHeartbeats 2000000 in
theorem mostSpacedI_any (n : Nat) (ring : Bool) (p : Option Addr) (cap : Nat) (S : Nat → Bool) (D : Nat) (w : World) (lo hi : Nat) (hin : Ri lo hi w p (ints (tk n S))) (hr : rowB n ring (ints (tk n S)) = true) (hD : 1 ≤ D) :
    Calls Try.prog 24 #[rowV n ring p (ints (tk n S)).length cap, .int .i64 (D : Int)] w fun e w' => e = .returned (.tuple #[.int .i64 ((mxSp n ring D (opn n ring S D) : Nat) : Int), .bool true]) ∧ Below w.heap.size w w' := by
  obtain ⟨h2, hn, h3⟩ := row_parts9 hr
  have hlen := ints_tk_len n S
  have hX := OwnArr.made w 28 [Value.int .i64 n, Value.bool ring, Value.slice p (ints (tk n S)).length cap]
  have hB := box_below w n ring p (ints (tk n S)).length cap 28
  have I := canSpace_any n ring p cap (ints (tk n S)) D _ lo hi (hin.below hB hin.top) (by omega)
  rw [hr, decide_eq_true (by omega : (1 : Int) ≤ (D : Int))] at I
  replace I := Lib.hid I
  have SP := Lib.hid (fun (w' : World) (h' : Below w.heap.size w w') => spacingOf_any n ring p cap S D w' lo hi (hin.below h' hin.top) h2 hn h3)
  have hol : (opn n ring S D).length ≤ 24 := Nat.le_trans (tk_length_le n _) hn
  have holt : ∀ x ∈ opn n ring S D, x < n := opn_lt
  obtain ⟨l, hl⟩ : ∃ l, opn n ring S D = l := ⟨_, rfl⟩
  rw [hl] at SP hol holt ⊢
  obtain ⟨M, hM⟩ : ∃ M, mxSp n ring D l = M := ⟨_, rfl⟩
  have HM0 : Hid (max 0 (mxSp n ring D (l.drop 0)) = M) := by show max 0 _ = _; rw [List.drop_zero, hM]; exact Nat.max_eq_right (Nat.zero_le _)
  have hM24 : M ≤ 24 := by rw [← hM]; exact Nat.le_trans (mxSp_le n ring D l) hol
  rw [hM]
  have HLT := Lib.hid holt
  obtain ⟨m, hm⟩ : ∃ m, (ints (tk n S)).length = m := ⟨_, rfl⟩
  rw [hm] at hX hB I SP ⊢
  have HX := Lib.hid hX
  have HB := Lib.hid hB
  obtain ⟨c0, c1, c2, -⟩ := HX.out.three
  clear hin hm hlen hX hB hr hM hl holt h3
  go_enter Try.func24, Try.ntmps24
  go_wp2_with fail
  refine I.out.mono ?_
  rintro e w2 ⟨rfl, hb2⟩
  have HB2 := Lib.hid (HB.out.trans (hb2.mono HB.out.size))
  have HX2 := Lib.hid (HX.out.below hb2 HX.out.lt)
  clear I HB hb2 HX c0 c1 c2
  obtain ⟨c0, c1, c2, -⟩ := HX2.out.three
  go_wp2_with fail
  refine (SP.out _ HB2.out).mono ?_
  rintro e w3 ⟨v, rfl, hO, hb3⟩
  have HOF := Lib.hid hO
  obtain ⟨qv, kv, rfl, hk1, hk2, hR, -⟩ := hO.rd
  rw [ints_length] at hk1
  have HB3 := Lib.hid (HB2.out.trans (hb3.mono HB2.out.size))
  have hq := out_form9 HOF.out
  have hil := ints_length l
  rw [hil]
  obtain ⟨k, hk⟩ : ∃ k, l.length = k := ⟨_, rfl⟩
  rw [hk] at hk1 hol ⊢
  have HK := Lib.hid hk
  have HXS := Lib.hid (OwnArr.made w3 49 [.int .i64 n, .bool ring, .slice p m cap, .int .i64 D, .slice qv k kv])
  have HBS := Lib.hid (HB3.out.alloc HB3.out.size (.cells #[.int .i64 n, .bool ring, .slice p m cap, .int .i64 D, .slice qv k kv] 49))
  have ERL : Hid (∀ (j : Nat), j ≤ k → ∀ w', Below w3.heap.size w3 w' → Calls Try.prog 43 #[spcV n ring p m cap D qv k kv, .int .i64 (j : Int)] w' fun e w'' => ∃ v, e = .returned v ∧ Out w'.heap.size w'' v (ints (grg n ring D (l.drop j))) ∧ Below w'.heap.size w' w'') := by
    show ∀ _, _
    intro j hj w' h'
    exact earliest_any n ring p m cap D qv k kv j l w' _ _ (hR.below h' hR.top) HLT.out hk hol hk1 hk2 hj hn hD hq
  have HBZ : Hid (Below w3.heap.size w3 (w3.alloc (.cells #[.int .i64 n, .bool ring, .slice p m cap, .int .i64 D, .slice qv k kv] 49))) := by
    show Below _ _ _
    exact (Below.refl _ _).alloc (Nat.le_refl _) _
  have HMX : Hid (∀ j, j < k → mxSp n ring D (l.drop j) = max (grg n ring D (l.drop j)).length (mxSp n ring D (l.drop (j + 1)))) := fun j hj => mx_drop (by rw [hk]; exact hj)
  have HME : Hid (mxSp n ring D (l.drop k) = 0) := by
    show _ = _
    rw [List.drop_of_length_le (by omega)]; rfl
  have HBB : Hid (∀ w', Below w3.heap.size w3 w' → w3.heap.size ≤ w'.heap.size) := fun w' h => by have := h.size; omega
  have hwb : w.heap.size ≤ w3.heap.size := by have := HB3.out.size; omega
  have HW3 : Hid (∀ w', Below w3.heap.size w3 w' → Below w.heap.size w w') := fun w' h => HB3.out.trans (h.mono hwb)
  clear hb3 hO hR hk hil HOF HB2 HX2 c0 c1 c2 SP hq HB3 HBS
  obtain ⟨c0, c1, c2, c3, c4⟩ := HXS.out.five
  go_wp2_with fail
  clear c0 c1 c2 c3 c4
  go_loopw [7, 8, 19] (fun v _ i wr => ∃ (j a : Nat), j ≤ k ∧ i = .int .i64 (j : Int) ∧ v = .int .i64 (a : Int) ∧ Hid (max a (mxSp n ring D (l.drop j)) = M) ∧ Hid (OwnArr wr w3.heap.size 49 [.int .i64 n, .bool ring, .slice p m cap, .int .i64 D, .slice qv k kv]) ∧ Hid (Below w3.heap.size w3 wr)) (fun _ _ i _ => k - (intOf i).toNat)
  case atStart => exact ⟨0, 0, Nat.zero_le _, rfl, rfl, HM0, HXS, HBZ⟩
  case round =>
    obtain ⟨j, a, hj, rfl, rfl, HMA, HX, HB⟩ := hrel
    clear HM0 HXS HBZ
    obtain ⟨c0, c1, c2, c3, c4⟩ := HX.out.five
    by_cases hlt : j < k
    · have hj1 : (j : Int) < (k : Int) := by omega
      have E := ERL.out j hj wr HB.out
      have hmx := HMX.out j hlt
      have hma := HMA.out
      rw [hmx] at hma
      obtain ⟨gl, hgl⟩ : ∃ g, grg n ring D (l.drop j) = g := ⟨_, rfl⟩
      rw [hgl] at E hma
      have hil := ints_length gl
      replace E := Lib.hid E
      have HMA2 := Lib.hid hma
      clear hmx hma hgl HMA
      go_wp2_with fail
      refine E.out.mono ?_
      rintro e w4 ⟨v, rfl, hO, hb4⟩
      obtain ⟨q4, k4, rfl, -⟩ := hO.rd
      have HX4 := Lib.hid (HX.out.below hb4 HX.out.lt)
      have HB4 := Lib.hid (HB.out.trans (hb4.mono (HBB.out _ HB.out)))
      rw [hil]
      obtain ⟨y, hy⟩ : ∃ y, gl.length = y := ⟨_, rfl⟩
      rw [hy] at HMA2 ⊢
      clear hO hb4 E c0 c1 c2 c3 c4 HX HB hil hy
      by_cases hay : a < y
      · have hay1 : (a : Int) < (y : Int) := by omega
        have HMA3 : Hid (max y (mxSp n ring D (l.drop (j + 1))) = M) := by
          show max _ _ = _
          have := HMA2.out
          omega
        clear HMA2
        go_wp2_with fail
        go_roundw
        case rel => exact ⟨j + 1, y, by omega, by go_num, rfl, HMA3, HX4, HB4⟩
        case measure => simp [intOf]; omega
      · have hay1 : ¬ (a : Int) < (y : Int) := by omega
        have HMA3 : Hid (max a (mxSp n ring D (l.drop (j + 1))) = M) := by
          show max _ _ = _
          have := HMA2.out
          omega
        clear HMA2
        go_wp2_with fail
        go_roundw
        case rel => exact ⟨j + 1, a, by omega, by go_num, rfl, HMA3, HX4, HB4⟩
        case measure => simp [intOf]; omega
    · have hjk : j = k := by omega
      have ham : a = M := by
        have := HMA.out
        rw [hjk, HME.out] at this
        simpa using this
      subst ham
      have hj1 : ¬ (j : Int) < (k : Int) := by omega
      have HBF := Lib.hid (HW3.out _ HB.out)
      clear hjk HMA
      go_wp2_with fail
      go_ret2
      exact ⟨rfl, HBF.out⟩
end Go.Proofs.Ytoedcklgpmhnnaa
