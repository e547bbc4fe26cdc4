/- impl.PartSeats, for every Row and all numbers; both functions give the same Row. -/
import Derived.Test.YtefbepebgmalpaaPart
import Derived.Test.YtefbepebgmalpaaRowOf
import Derived.Test.YtefbepebgmalpaaRound
namespace Go.Proofs.Ytefbepebgmalpaa
open Go.RowKit

set_option maxRecDepth 4000 in
set_option maxHeartbeats 1600000 in
theorem partI_bad (s : Int) (ring : Bool) (p : Option Addr) (cap : Nat) (xs : List Int) (a m : Int) (w : World) (lo hi : Nat) (hin : Ri lo hi w p xs) (hlen : xs.length ≤ 1048576) (h : partB s ring xs a m = false) :
    Calls Try.prog 21 #[rowV s ring p xs.length cap, .int .i64 a, .int .i64 m] w (MadeRow w 0 false [] false) := by
  have hE := Beg.start w s ring p xs.length cap
  have R := fun (w' : World) (h' : Below w.heap.size w w') => isSeatOf_any s ring p cap xs a w' lo hi (hin.below h' hin.top) hlen
  have HE := Lib.hid hE
  replace R := Lib.hid R
  clear hE hin
  unfold MadeRow
  unfold partB at h
  cases hr : seatB s ring xs a with
  | false =>
    rw [hr] at R
    clear h hr
    go_enter Try.func21, Try.ntmps21
    go_wp2_with fail
    refine (R.out _ HE.out.bel).mono ?_
    rintro e w1 ⟨rfl, hb1⟩
    have HE1 := Lib.hid (HE.out.next hb1)
    obtain ⟨z0, z1, z2, y0, y1, y2⟩ := HE1.out.res.three
    clear HE hb1 R
    go_wp2_with fail
    exact ret_row2 Try.results21 rfl rfl (HE1.out.out _ _ _).1 rfl ⟨_, rfl, Out.none _ _, (HE1.out.out _ _ _).2⟩
  | true =>
    rw [hr] at R h
    simp only [Bool.true_and] at h
    have h8 : 0 ≤ a ∧ a < 24 ∧ s ≤ 24 := by
      obtain ⟨n, S, k, rfl, -, rfl, h1, h2, h3, -⟩ := seat_is hr
      omega
    obtain ⟨h81, h82, h83⟩ := h8
    clear hr
    by_cases hm1 : 2 ≤ m
    · by_cases hm2 : m ≤ s
      · have hm3 : ¬ m < 2 := by omega
        have hm4 : ¬ s < m := by omega
        cases ring with
        | true => simp [hm1, hm2] at h
        | false =>
          have h9 : s < a + m := by simp [hm1, hm2] at h; exact h
          have e1 : IntKind.i64.wrap (a + m) = a + m := IntWalk.i64_in _ (by omega)
          clear h
          go_enter Try.func21, Try.ntmps21
          go_wp2_with fail
          refine (R.out _ HE.out.bel).mono ?_
          rintro e w1 ⟨rfl, hb1⟩
          have HE1 := Lib.hid (HE.out.next hb1)
          obtain ⟨z0, z1, z2, y0, y1, y2⟩ := HE1.out.res.three
          obtain ⟨c0, c1, c2, -⟩ := HE1.out.row.three
          clear HE hb1 R
          go_wp2_with fail
          exact ret_row2 Try.results21 rfl rfl (HE1.out.out _ _ _).1 rfl ⟨_, rfl, Out.none _ _, (HE1.out.out _ _ _).2⟩
      · have hm3 : ¬ m < 2 := by omega
        have hm4 : s < m := by omega
        clear h
        go_enter Try.func21, Try.ntmps21
        go_wp2_with fail
        refine (R.out _ HE.out.bel).mono ?_
        rintro e w1 ⟨rfl, hb1⟩
        have HE1 := Lib.hid (HE.out.next hb1)
        obtain ⟨z0, z1, z2, y0, y1, y2⟩ := HE1.out.res.three
        obtain ⟨c0, c1, c2, -⟩ := HE1.out.row.three
        clear HE hb1 R
        go_wp2_with fail
        exact ret_row2 Try.results21 rfl rfl (HE1.out.out _ _ _).1 rfl ⟨_, rfl, Out.none _ _, (HE1.out.out _ _ _).2⟩
    · have hm3 : m < 2 := by omega
      clear h
      go_enter Try.func21, Try.ntmps21
      go_wp2_with fail
      refine (R.out _ HE.out.bel).mono ?_
      rintro e w1 ⟨rfl, hb1⟩
      have HE1 := Lib.hid (HE.out.next hb1)
      obtain ⟨z0, z1, z2, y0, y1, y2⟩ := HE1.out.res.three
      obtain ⟨c0, c1, c2, -⟩ := HE1.out.row.three
      clear HE hb1 R
      go_wp2_with fail
      exact ret_row2 Try.results21 rfl rfl (HE1.out.out _ _ _).1 rfl ⟨_, rfl, Out.none _ _, (HE1.out.out _ _ _).2⟩

set_option maxRecDepth 4000 in
set_option maxHeartbeats 4000000 in
theorem partI_any (n : Nat) (ring : Bool) (p : Option Addr) (cap : Nat) (S : Nat → Bool) (a m : Nat) (w : World) (lo hi : Nat) (hin : Ri lo hi w p (ints (tk n S))) (h2 : 2 ≤ n) (hn : n ≤ 24) (h3 : ring = true → 3 ≤ n) (ha : a < n) (hm2 : 2 ≤ m) (hmn : m ≤ n) (hr : ring = false → a + m ≤ n) :
    Calls Try.prog 21 #[rowV n ring p (ints (tk n S)).length cap, .int .i64 a, .int .i64 m] w (MadeRow w m false (ints (tk m fun i => S ((a + i) % n))) true) := by
  have hlen := ints_tk_len n S
  have hE := Beg.start w n ring p (ints (tk n S)).length cap
  have R := fun (w' : World) (h' : Below w.heap.size w w') => isSeatOf_any n ring p cap (ints (tk n S)) a w' lo hi (hin.below h' hin.top) (by omega)
  have hv : seatB n ring (ints (tk n S)) a = true := by
    unfold seatB
    rw [rowB_of h2 hn h3]
    simp
    omega
  rw [hv] at R
  have MK := Lib.hid (fun (w' : World) (h' : Below w.heap.size w w') => marksOf_any n ring p cap S w' lo hi (hin.below h' hin.top) hn)
  have RF := fun (g : Nat) (w' : World) (h : OwnArr w' g 4 (bv (bl n S))) => roundFrom_any g n n a m S w' h (by omega) hn (by omega) (by omega)
  have RO := Lib.hid (fun (q : Option Addr) (w' : World) (l h' : Nat) (h : Rd l h' w' q (bv (bl m fun i => S ((a + i) % n)))) => rowOf_any m false q m (fun i => S ((a + i) % n)) w' l h' h (by omega) true (rowB_of hm2 (by omega) (fun e => absurd e (by simp))))
  obtain ⟨T, hT⟩ : ∃ T : Nat → Bool, (fun i => S ((a + i) % n)) = T := ⟨_, rfl⟩
  rw [hT] at RF RO ⊢
  have hC2 : ring = true ∨ (a : Int) + (m : Int) ≤ (n : Int) := by
    cases ring with
    | true => exact .inl rfl
    | false => exact .inr (by have := hr rfl; omega)
  have HE := Lib.hid hE
  replace R := Lib.hid R
  replace RF := Lib.hid RF
  have e1 : IntKind.i64.wrap ((a : Int) + (m : Int)) = (a : Int) + (m : Int) := IntWalk.i64_in _ (by omega)
  have k1 : ¬ (m : Int) < 2 := by omega
  have k2 : ¬ (n : Int) < (m : Int) := by omega
  clear hE hin hv hlen hT hr h3
  obtain ⟨q, hq⟩ : ∃ q, (ints (tk n S)).length = q := ⟨_, rfl⟩
  rw [hq] at HE R MK ⊢
  clear hq
  unfold MadeRow
  cases ring with
  | true =>
    clear hC2
    go_enter Try.func21, Try.ntmps21
    go_wp2_with fail
    refine (R.out _ HE.out.bel).mono ?_
    rintro e w1 ⟨rfl, hb1⟩
    have HE1 := Lib.hid (HE.out.next hb1)
    clear HE hb1 R
    obtain ⟨c0, c1, c2, -⟩ := HE1.out.row.three
    go_wp2_with fail
    refine (MK.out _ HE1.out.bel).mono ?_
    rintro e w3 ⟨g, rfl, hg, hO, hb3⟩
    have HE3 := Lib.hid (HE1.out.next hb3)
    have RF2 := Lib.hid (RF.out _ _ hO)
    clear HE1 hb3 MK c0 c1 c2 hO RF hg
    go_wp2_with fail
    refine RF2.out.mono ?_
    rintro e w4 ⟨q', rfl, hR, hb4⟩
    have HE4 := Lib.hid (HE3.out.next hb4)
    have RO2 := Lib.hid (RO.out _ _ _ _ hR)
    clear HE3 hb4 hR RO RF2
    go_wp2_with fail
    refine RO2.out.mono ?_
    rintro e w5 ⟨v, rfl, hO5, hb5⟩
    obtain ⟨qv, qc, rfl, -⟩ := (hO5 trivial).rd
    have HO5 := Lib.hid ((hO5 trivial).mono HE4.out.bel.size)
    have HE5 := Lib.hid (HE4.out.next hb5)
    clear hO5 hb5 HE4 RO2
    obtain ⟨z0, z1, z2, y0, y1, y2⟩ := HE5.out.res.three
    go_wp2_with fail
    exact ret_row2 Try.results21 rfl rfl (HE5.out.out _ _ _).1 rfl ⟨_, rfl, HO5.out.boxed HE5.out.res _ _ _, (HE5.out.out _ _ _).2⟩
  | false =>
    have h9 : ¬ (n : Int) < (a : Int) + (m : Int) := by have := hC2.resolve_left (by simp); omega
    clear hC2
    go_enter Try.func21, Try.ntmps21
    go_wp2_with fail
    refine (R.out _ HE.out.bel).mono ?_
    rintro e w1 ⟨rfl, hb1⟩
    have HE1 := Lib.hid (HE.out.next hb1)
    clear HE hb1 R
    obtain ⟨c0, c1, c2, -⟩ := HE1.out.row.three
    go_wp2_with fail
    refine (MK.out _ HE1.out.bel).mono ?_
    rintro e w3 ⟨g, rfl, hg, hO, hb3⟩
    have HE3 := Lib.hid (HE1.out.next hb3)
    have RF2 := Lib.hid (RF.out _ _ hO)
    clear HE1 hb3 MK c0 c1 c2 hO RF hg
    go_wp2_with fail
    refine RF2.out.mono ?_
    rintro e w4 ⟨q', rfl, hR, hb4⟩
    have HE4 := Lib.hid (HE3.out.next hb4)
    have RO2 := Lib.hid (RO.out _ _ _ _ hR)
    clear HE3 hb4 hR RO RF2
    go_wp2_with fail
    refine RO2.out.mono ?_
    rintro e w5 ⟨v, rfl, hO5, hb5⟩
    obtain ⟨qv, qc, rfl, -⟩ := (hO5 trivial).rd
    have HO5 := Lib.hid ((hO5 trivial).mono HE4.out.bel.size)
    have HE5 := Lib.hid (HE4.out.next hb5)
    clear hO5 hb5 HE4 RO2
    obtain ⟨z0, z1, z2, y0, y1, y2⟩ := HE5.out.res.three
    go_wp2_with fail
    exact ret_row2 Try.results21 rfl rfl (HE5.out.out _ _ _).1 rfl ⟨_, rfl, HO5.out.boxed HE5.out.res _ _ _, (HE5.out.out _ _ _).2⟩

theorem partSeats_both (s : Int) (ring : Bool) (xs : List Int) (a b : Int) : ∃ (s' : Int) (ring' : Bool) (L : List Int) (B : Bool), L.length ≤ 24 ∧
    (∀ (p : Option Addr) (cap : Nat) (w : World) (lo hi : Nat), Ri lo hi w p xs → xs.length ≤ 1048576 → Calls Try.prog 20 #[rowV s ring p xs.length cap, .int .i64 a, .int .i64 b] w (MadeRow w s' ring' L B)) ∧
    (∀ (p : Option Addr) (cap : Nat) (w : World) (lo hi : Nat), Ri lo hi w p xs → xs.length ≤ 1048576 → Calls Try.prog 21 #[rowV s ring p xs.length cap, .int .i64 a, .int .i64 b] w (MadeRow w s' ring' L B)) := by
  cases h : partB s ring xs a b with
  | true =>
    have h' := h
    unfold partB at h'
    simp only [Bool.and_eq_true, decide_eq_true_eq, Bool.or_eq_true] at h'
    obtain ⟨h1, ⟨h4, h5⟩, h6⟩ := h'
    obtain ⟨n, S, k, rfl, rfl, rfl, hk, h2, hn, h3⟩ := seat_is h1
    obtain ⟨m, rfl⟩ : ∃ m : Nat, b = m := ⟨b.toNat, by omega⟩
    have hr : ring = false → k + m ≤ n := by
      rintro rfl
      have := h6.resolve_left (by simp)
      omega
    exact ⟨m, false, ints (tk m fun i => S ((k + i) % n)), true, by have := ints_tk_len m (fun i => S ((k + i) % n)); omega,
      fun p cap w lo hi hin _ => partS_any n ring p cap S k m w lo hi hin h2 hn h3 hk (by omega) (by omega) hr,
      fun p cap w lo hi hin _ => partI_any n ring p cap S k m w lo hi hin h2 hn h3 hk (by omega) (by omega) hr⟩
  | false =>
    exact ⟨0, false, [], false, by simp,
      fun p cap w lo hi hin hl => partS_bad s ring p cap xs a b w lo hi hin hl h,
      fun p cap w lo hi hin hl => partI_bad s ring p cap xs a b w lo hi hin hl h⟩
end Go.Proofs.Ytefbepebgmalpaa
