/- spec.l2With and spec.TakeSeat, for every Row and all seats. -/
import Derived.Test.YtefbepebgmalpaaPut
import Derived.Test.YtefbepebgmalpaaMade
import Derived.Test.YtefbepebgmalpaaHasS
import Derived.Test.YtefbepebgmalpaaSeat
namespace Go.Proofs.Ytefbepebgmalpaa
open Go.RowKit

theorem seat_is {s : Int} {ring : Bool} {xs : List Int} {x : Int} (h : seatB s ring xs x = true) :
    ∃ (n : Nat) (S : Nat → Bool) (k : Nat), s = (n : Int) ∧ xs = ints (tk n S) ∧ x = (k : Int) ∧ k < n ∧ 2 ≤ n ∧ n ≤ 24 ∧ (ring = true → 3 ≤ n) := by
  unfold seatB at h
  simp only [Bool.and_eq_true, decide_eq_true_eq] at h
  obtain ⟨n, S, rfl, rfl, h1, h2, h3⟩ := rowB_is h.1
  exact ⟨n, S, x.toNat, rfl, rfl, by omega, by omega, h1, h2, h3⟩

set_option maxRecDepth 4000 in
set_option maxHeartbeats 2000000 in
theorem with_any (s : Int) (ring : Bool) (p : Option Addr) (cap : Nat) (xs : List Int) (k : Int) (w : World) (lo hi' : Nat) (hin : Ri lo hi' w p xs) (hlen : xs.length ≤ 1000) (hx : k ∉ xs) :
    Calls Try.prog 29 #[rowV s ring p xs.length cap, .int .i64 k] w fun e w' => ∃ v, e = .returned (.agg #[.int .i64 s, .bool ring, v]) ∧ Out w.heap.size w' v (putM k xs) ∧ Below w.heap.size w w' := by
  have hE := (Beg.start w s ring p xs.length cap).next ((Below.refl _ _).drew)
  have O := fun (w' : World) (h' : Below w.heap.size w w') => l1Own_any p cap xs w' lo hi' (hin.below h' hin.top) hlen
  have U := fun (w' : World) (g c : Nat) (h1 : w.heap.size ≤ g) (h2 : xs.length ≤ c) (h3 : c ≤ maxLen) (h4 : Out w.heap.size w' (.slice (some ⟨g, 0, none⟩) xs.length c) xs) => l1Put_any g 0 c xs k w' w.heap.size w'.heap.size (by obtain ⟨p', c', e, -, -, h, -⟩ := h4.rd; simp only [Value.slice.injEq, true_and] at e; obtain ⟨rfl, -⟩ := e; exact h) hlen h2 h3 hx
  replace O := Lib.hid O
  replace U := Lib.hid U
  have HE := Lib.hid hE
  obtain ⟨m, hm⟩ : ∃ m, xs.length = m := ⟨_, rfl⟩
  have hpl : (putM k xs).length = m + 1 := by rw [putM_length, hm]
  rw [hm] at HE O U hlen ⊢
  replace hpl := Lib.hid hpl
  clear hE hin hx hm
  obtain ⟨c0, c1, c2, -⟩ := HE.out.row.three
  go_enter Try.func29, Try.ntmps29
  go_wp2_with fail
  go_region_with (first
    | (go_at_call 45; refine (O.out _ HE.out.bel).mono ?_; rintro e w1 ⟨g1, k1, rfl, hg1, hk1, hk1', ho1, hb1⟩; have HE1 := Lib.hid (HE.out.next hb1); have HO1 := Lib.hid (ho1.mono HE.out.bel.size); clear ho1 hb1 c0 c1 c2; obtain ⟨d0, d1, d2, -⟩ := HE1.out.row.three)
    | (go_at_call 43; refine (U.out _ _ _ (Nat.le_trans HE.out.bel.size hg1) hk1 hk1' HO1.out).mono ?_; rintro e w2 ⟨g2, k2, rfl, hg2, hk2, hk2', ho2, hb2⟩; have HE2 := Lib.hid (HE1.out.next hb2); have HO2 := Lib.hid (ho2.mono HE1.out.bel.size); clear ho2 hb2 d0 d1 d2; obtain ⟨d0, d1, d2, -⟩ := HE2.out.row.three)
    | (go_at_call 39; refine (l2Made_any _ _ _ _ _ _ _ _ _).mono ?_; rintro e w3 ⟨rfl, hb3⟩; have HE3 := Lib.hid (HE2.out.next hb3); have HO3 := Lib.hid (HO2.out.below hb3); obtain ⟨z0, z1, z2, y0, y1, y2⟩ := HE3.out.res.three; clear hb3))
  all_goals
    go_wp2_with fail
    refine ret_row Try.results29 rfl (HE3.out.out _ _ _).1 rfl ⟨_, rfl, HO3.out.boxed HE3.out.res _ _ _, (HE3.out.out _ _ _).2⟩

theorem seat_row {s : Int} {ring : Bool} {xs : List Int} {x : Int} (h : seatB s ring xs x = true) : rowB s ring xs = true := by
  unfold seatB at h
  simp only [Bool.and_eq_true] at h
  exact h.1

set_option maxRecDepth 4000 in
set_option maxHeartbeats 2000000 in
/-- it fails: no seat of a valid Row, or a free one -/
theorem takeS_bad (s : Int) (ring : Bool) (p : Option Addr) (cap : Nat) (xs : List Int) (k : Int) (w : World) (lo hi : Nat) (hin : Ri lo hi w p xs) (hlen : xs.length ≤ 1048576) (h : (seatB s ring xs k && !decide (k ∈ xs)) = false) :
    Calls Try.prog 10 #[rowV s ring p xs.length cap, .int .i64 k] w (MadeRow w 0 false [] false) := by
  have hE := Beg.start w s ring p xs.length cap
  have I := fun (w' : World) (h' : Below w.heap.size w w') => l2Seat_any s ring p cap xs k w' lo hi (hin.below h' hin.top) hlen
  have J := fun (w' : World) (h' : Below w.heap.size w w') => l2Is_any s ring p cap xs k w' lo hi (hin.below h' hin.top) hlen
  have HE := Lib.hid hE
  replace I := Lib.hid I
  replace J := Lib.hid J
  clear hE hin
  unfold MadeRow
  cases hs : seatB s ring xs k with
  | false =>
    rw [hs] at I
    clear h hs J
    go_enter Try.func10, Try.ntmps10
    go_wp2_with fail
    refine (I.out _ HE.out.bel).mono ?_
    rintro e w1 ⟨rfl, hb1⟩
    have HE1 := Lib.hid (HE.out.next hb1)
    obtain ⟨z0, z1, z2, y0, y1, y2⟩ := HE1.out.res.three
    clear HE hb1 I
    go_wp2_with fail
    exact ret_row2 Try.results10 rfl rfl (HE1.out.out _ _ _).1 rfl ⟨_, rfl, Out.none _ _, (HE1.out.out _ _ _).2⟩
  | true =>
    rw [hs] at I h
    simp only [Bool.true_and] at h
    have h' : decide (k ∈ xs) = true := by simpa using h
    rw [h'] at J
    clear h h' hs
    go_enter Try.func10, Try.ntmps10
    go_wp2_with fail
    refine (I.out _ HE.out.bel).mono ?_
    rintro e w1 ⟨rfl, hb1⟩
    have HE1 := Lib.hid (HE.out.next hb1)
    clear HE hb1 I
    obtain ⟨c0, c1, c2, -⟩ := HE1.out.row.three
    go_wp2_with fail
    refine (J.out _ HE1.out.bel).mono ?_
    rintro e w2 ⟨rfl, hb2⟩
    have HE2 := Lib.hid (HE1.out.next hb2)
    clear HE1 hb2 J c0 c1 c2
    obtain ⟨z0, z1, z2, y0, y1, y2⟩ := HE2.out.res.three
    go_wp2_with fail
    exact ret_row2 Try.results10 rfl rfl (HE2.out.out _ _ _).1 rfl ⟨_, rfl, Out.none _ _, (HE2.out.out _ _ _).2⟩

set_option maxRecDepth 4000 in
set_option maxHeartbeats 2000000 in
theorem takeS_any (s : Int) (ring : Bool) (p : Option Addr) (cap : Nat) (xs : List Int) (k : Int) (w : World) (lo hi : Nat) (hin : Ri lo hi w p xs) (hlen : xs.length ≤ 1000) (h1 : seatB s ring xs k = true) (h2 : decide (k ∈ xs) = false) :
    Calls Try.prog 10 #[rowV s ring p xs.length cap, .int .i64 k] w (MadeRow w s ring (putM k xs) true) := by
  have hE := Beg.start w s ring p xs.length cap
  have I := fun (w' : World) (h' : Below w.heap.size w w') => l2Seat_any s ring p cap xs k w' lo hi (hin.below h' hin.top) (by omega)
  have J := fun (w' : World) (h' : Below w.heap.size w w') => l2Is_any s ring p cap xs k w' lo hi (hin.below h' hin.top) (by omega)
  have K := fun (w' : World) (h' : Below w.heap.size w w') => with_any s ring p cap xs k w' lo hi (hin.below h' hin.top) hlen (of_decide_eq_false h2)
  rw [h1] at I
  rw [h2] at J
  have HE := Lib.hid hE
  replace I := Lib.hid I
  replace J := Lib.hid J
  replace K := Lib.hid K
  obtain ⟨m, hm⟩ : ∃ m, xs.length = m := ⟨_, rfl⟩
  rw [hm] at HE I J K ⊢
  clear hE hin h1 h2 hm hlen
  unfold MadeRow
  go_enter Try.func10, Try.ntmps10
  go_wp2_with fail
  refine (I.out _ HE.out.bel).mono ?_
  rintro e w1 ⟨rfl, hb1⟩
  have HE1 := Lib.hid (HE.out.next hb1)
  clear HE hb1 I
  obtain ⟨c0, c1, c2, -⟩ := HE1.out.row.three
  go_wp2_with fail
  refine (J.out _ HE1.out.bel).mono ?_
  rintro e w2 ⟨rfl, hb2⟩
  have HE2 := Lib.hid (HE1.out.next hb2)
  clear HE1 hb2 J c0 c1 c2
  obtain ⟨c0, c1, c2, -⟩ := HE2.out.row.three
  go_wp2_with fail
  refine (K.out _ HE2.out.bel).mono ?_
  rintro e w3 ⟨v, rfl, hO, hb3⟩
  obtain ⟨q, qc, rfl, -⟩ := hO.rd
  have HE3 := Lib.hid (HE2.out.next hb3)
  have HO3 := Lib.hid (hO.mono HE2.out.bel.size)
  clear HE2 hb3 hO K c0 c1 c2
  obtain ⟨z0, z1, z2, y0, y1, y2⟩ := HE3.out.res.three
  go_wp2_with fail
  exact ret_row2 Try.results10 rfl rfl (HE3.out.out _ _ _).1 rfl ⟨_, rfl, HO3.out.boxed HE3.out.res _ _ _, (HE3.out.out _ _ _).2⟩
end Go.Proofs.Ytefbepebgmalpaa
