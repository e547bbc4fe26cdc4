/- impl.seatsThat on Rows that are not valid; impl.nearestSeat at isTaken and at isFree, for every Row and all seats. -/
import Derived.Test.YtlapbdiiolaefaaNearest
import Derived.Deep.RegionHeld3
namespace Go.Proofs.Ytlapbdiiolaefaa
open Go.RowKit


set_option maxHeartbeats 800000 in
theorem seatsTaken_bad (s : Int) (ring : Bool) (p : Option Addr) (cap : Nat) (xs : List Int) (w : World) (lo hi : Nat) (hin : Ri lo hi w p xs) (hlen : xs.length ≤ 1048576) (hr : rowB s ring xs = false) :
    Calls Try.prog 46 #[rowV s ring p xs.length cap, .func (.func 43) #[] #[]] w fun e w' => ∃ v, e = .returned (.tuple #[v, .bool false]) ∧ Out (w.heap.size + 1) w' v [] ∧ Below w.heap.size w w' := by
  have hs : (w.alloc (.cells #[Value.int .i64 s, Value.bool ring, Value.slice p xs.length cap] 27)).heap.size = w.heap.size + 1 := by simp
  have hO := Out.nilLit (w.alloc (.cells #[Value.int .i64 s, Value.bool ring, Value.slice p xs.length cap] 27))
  rw [hs] at hO
  have hb : Below w.heap.size w ((w.alloc (.cells #[Value.int .i64 s, Value.bool ring, Value.slice p xs.length cap] 27)).alloc (.cells #[] 3)) := ((Below.refl _ _).alloc (Nat.le_refl _) _).alloc (by simp) _
  have R := Lib.hid (isRow_any s ring p cap xs _ lo hi (hin.below hb hin.top) hlen)
  rw [hr] at R
  have HO := Lib.hid hO
  have HB := Lib.hid hb
  clear hs hO hb hin hr
  go_enter Try.func46, Try.ntmps46
  go_wp2_with fail
  refine R.out.mono ?_
  rintro e w1 ⟨rfl, hb1⟩
  go_wp2_with fail
  go_ret2
  exact ⟨_, rfl, HO.out.below hb1, HB.out.trans (hb1.mono HB.out.size)⟩


set_option maxHeartbeats 800000 in
theorem nearTaken_bad (s : Int) (ring : Bool) (p : Option Addr) (cap : Nat) (xs : List Int) (a : Int) (w : World) (lo hi : Nat) (hin : Ri lo hi w p xs) (hlen : xs.length ≤ 1048576) (hr : rowB s ring xs = false) :
    Calls Try.prog 42 #[rowV s ring p xs.length cap, .int .i64 a, .func (.func 43) #[] #[]] w fun e w' => e = .returned (.tuple #[.int .i64 0, .int .i64 0, .bool false]) ∧ Below w.heap.size w w' := by
  have hb := box_below w s ring p xs.length cap 27
  have R := Lib.hid (seatsTaken_bad s ring p cap xs _ lo hi (hin.bel hb) hlen hr)
  have HB := Lib.hid hb
  clear hb hin hr
  go_enter Try.func42, Try.ntmps42
  go_wp2_with fail
  refine R.out.mono ?_
  rintro e w1 ⟨v, rfl, hO1, hb1⟩
  obtain ⟨q, qcap, rfl, -⟩ := hO1.rd
  go_wp2_with fail
  go_ret3
  exact ⟨rfl, HB.out.trans (hb1.mono HB.out.size)⟩

set_option maxRecDepth 4000 in
set_option maxHeartbeats 2000000 in
theorem nearTaken_any (n : Nat) (ring : Bool) (p : Option Addr) (cap : Nat) (S : Nat → Bool) (a : Int) (w : World) (lo hi : Nat) (hin : Ri lo hi w p (ints (tk n S))) (h2 : 2 ≤ n) (hn : n ≤ 24) (h3 : ring = true → 3 ≤ n) (R1 R2 : Int) (B : Bool)
    (hgood : B = true → ∃ k : Nat, a = k ∧ k < n ∧ tk n (S) ≠ [] ∧ nearP (gapM n ring k) (tk n (S)) = (R1, R2))
    (hbad : B = false → R1 = 0 ∧ R2 = 0 ∧ (tk n (S) = [] ∨ ¬ (0 ≤ a ∧ a < n))) :
    Calls Try.prog 42 #[rowV n ring p (ints (tk n S)).length cap, .int .i64 a, .func (.func 43) #[] #[]] w fun e w' => e = .returned (.tuple #[.int .i64 R1, .int .i64 R2, .bool B]) ∧ Below w.heap.size w w' := by
  have hb := box_below w n ring p (ints (tk n S)).length cap 27
  have hlen := ints_tk_len n S
  have R := Lib.hid (seatsTaken_any n ring p cap S (S) _ lo hi (hin.bel hb) h2 hn h3 (fun k hk w' hb' => by
    have := isTaken_any n ring p cap (ints (tk n S)) k w' lo hi ((hin.bel hb).below hb' (hin.bel hb).top) (by omega)
    rw [has_tk hk] at this
    exact this))
  have HX := Lib.hid (OwnArr.made w 27 [.int .i64 n, .bool ring, .slice p (ints (tk n S)).length cap])
  have HI := Lib.hid (hin.bel hb)
  have HB := Lib.hid hb
  have I := Lib.hid (fun w' (h : Ri lo hi w' p (ints (tk n S))) => isSeatOf_any n ring p cap (ints (tk n S)) a w' lo hi h (by omega))
  obtain ⟨l, hl⟩ : ∃ l, tk n (S) = l := ⟨_, rfl⟩
  have hll : l.length ≤ n := by rw [← hl]; exact tk_length_le _ _
  have HL : Hid (∀ x ∈ l, x < n) := by
    show ∀ _ ∈ _, _
    intro x hx
    rw [← hl] at hx
    exact (mem_tk.1 hx).1
  obtain ⟨m, hm⟩ : ∃ m, (ints (tk n S)).length = m := ⟨_, rfl⟩
  rw [hm] at R HX HI HB I ⊢
  rw [hl] at R hgood hbad
  have hrow := rowB_of (S := S) h2 hn h3
  clear hb hin hl hm
  by_cases h0 : l.length = 0
  · have hB : B = false := by
      cases B with
      | false => rfl
      | true =>
        obtain ⟨k, _, _, h, _⟩ := hgood rfl
        exact absurd (List.length_eq_zero_iff.1 h0) h
    subst hB
    obtain ⟨rfl, rfl, _⟩ := hbad rfl
    have hl0 : l = [] := List.length_eq_zero_iff.1 h0
    subst hl0
    clear hgood hbad hrow h0
    go_enter Try.func42, Try.ntmps42
    go_wp2_with fail
    refine R.out.mono ?_
    rintro e w1 ⟨v, rfl, hO1, hb1⟩
    obtain ⟨q, qcap, rfl, -⟩ := hO1.rd
    go_wp2_with fail
    go_ret3
    exact ⟨rfl, HB.out.trans (hb1.mono HB.out.size)⟩
  · by_cases hv : seatB n ring (ints (tk n S)) a = true
    · rw [hv] at I
      obtain ⟨k, rfl⟩ : ∃ k : Nat, a = k := by
        unfold seatB at hv
        simp only [Bool.and_eq_true, decide_eq_true_eq] at hv
        exact ⟨a.toNat, by omega⟩
      have hk : k < n := by
        unfold seatB at hv
        simp only [Bool.and_eq_true, decide_eq_true_eq] at hv
        omega
      have hB : B = true := by
        cases B with
        | true => rfl
        | false =>
          obtain ⟨_, _, h⟩ := hbad rfl
          rcases h with h | h
          · exact absurd (by rw [h]; rfl) h0
          · exact absurd ⟨by omega, by omega⟩ h
      subst hB
      obtain ⟨k', hk', _, _, hres⟩ := hgood rfl
      have : k' = k := by omega
      subst this
      replace hres := Lib.hid hres
      clear hgood hbad hrow hv hk'
      obtain ⟨x0, hx0⟩ : ∃ x0, l[0]?.getD 0 = x0 := ⟨_, rfl⟩
      have hx0n : x0 < n := by rw [← hx0]; exact HL.out _ (nat_mem (by omega))
      go_enter Try.func42, Try.ntmps42
      go_wp2_with fail
      refine R.out.mono ?_
      rintro e w1 ⟨v, rfl, hO1, hb1⟩
      obtain ⟨q, qcap, rfl, -, -, hR1, -⟩ := hO1.rd
      rw [ints_length]
      obtain ⟨b, off, rfl, -, -, hbq, hc⟩ := hR1.int (by rw [ints_length]; omega)
      rw [ints_length] at hc
      have HC := Lib.hid hc
      have HX1 := Lib.hid (HX.out.below hb1 (by simp))
      have HI1 := Lib.hid (HI.out.bel hb1)
      have HB1 := Lib.hid (HB.out.trans (hb1.mono HB.out.size))
      have hz := hc 0 (by omega)
      rw [ints_get (by omega), hx0] at hz
      have hoff : off + 0 = off := rfl
      rw [hoff] at hz
      clear hc hb1 hR1 HX HI HB R hoff hO1
      obtain ⟨c0, c1, c2, -⟩ := HX1.out.three
      have hl1 : (0 : Int) < (l.length : Int) := by omega
      have hl2 : ((l.length : Int) == 0) = false := by
        have : ¬ (l.length : Int) = 0 := by omega
        simpa using this
      go_wp2_with fail
      refine (I.out _ HI1.out).mono ?_
      rintro e w2 ⟨rfl, hb2⟩
      have HX2 := Lib.hid (HX1.out.below hb2 HX1.out.lt)
      have HB2 := Lib.hid (HB1.out.trans (hb2.mono HB1.out.size))
      have hbq2 : b < w2.heap.size := Nat.lt_of_lt_of_le hbq hb2.size
      have HC2 : Hid (∀ i, i < l.length → w2.cell? ⟨b, off + i, none⟩ = some (.int .i64 ((l[i]?.getD 0 : Nat) : Int))) := by
        show ∀ _, _
        intro i hi'
        rw [← ints_get hi']
        exact (hb2.cell (p := ⟨b, off + i, none⟩) hbq).trans (HC.out i hi')
      have hz2 := (hb2.cell (p := ⟨b, off, none⟩) hbq).trans hz
      clear c0 c1 c2 hz HX1 HI1 HB1 HC I hb2
      replace hx0 := Lib.hid hx0
      go_wp2_with fail
      clear hz2
      go_loopw [11, 13, 34] (fun y _ i wr => ∃ (j y' : Nat), j ≤ l.length ∧ i = .int .i64 j ∧ y = .int .i64 y' ∧ y' < n ∧ Hid (y' = leastOf (gapM n ring k') x0 (l.take j)) ∧ Hid (OwnArr wr w.heap.size 27 [.int .i64 n, .bool ring, .slice p m cap]) ∧ Hid (Below w.heap.size w wr) ∧ Hid (Below w2.heap.size w2 wr)) (fun _ _ i _ => l.length - (intOf i).toNat)
      case atStart => exact ⟨0, x0, Nat.zero_le _, rfl, rfl, hx0n, by show _ = _; simp [leastOf], HX2, HB2, Below.refl _ _⟩
      case round =>
        obtain ⟨j, y, hj, rfl, rfl, hyn, hy, HX, HB, HW⟩ := hrel
        clear HX2 HB2
        by_cases hlt : j < l.length
        · have h0 := (HW.out.cell (p := ⟨b, off + j, none⟩) hbq2).trans (HC2.out j hlt)
          have hst := least_step (gapM n ring k') x0 hlt
          have hxn := HL.out _ (nat_mem hlt)
          obtain ⟨x, hx⟩ : ∃ x, l[j]?.getD 0 = x := ⟨_, rfl⟩
          rw [hx] at h0 hst hxn
          rw [← hy.out] at hst
          clear hx
          have G := Lib.hid (fun (z : Nat) (hz : z < n) (w' : World) => gapI_any n ring p m cap k' z w' hn hk hz)
          have hj1 : (j : Int) < (l.length : Int) := by omega
          obtain ⟨c0, c1, c2, -⟩ := HX.out.three
          have HXd := Lib.hid HX.out.drew
          have HBd := Lib.hid HB.out.drew
          have HWd := Lib.hid HW.out.drew
          by_cases hlt2 : gapM n ring k' x < gapM n ring k' y
          · rw [if_pos hlt2] at hst
            replace hst := Lib.hid hst.symm
            have hI2 : ((gapM n ring k' x : Nat) : Int) < ((gapM n ring k' y : Nat) : Int) := by omega
            clear hlt2 HX HB HW
            go_wp2_with fail
            go_region_held3 (fun w' => w'.cell? ⟨w.heap.size, 0, none⟩ = some (.int .i64 n) ∧ w'.cell? ⟨w.heap.size, 1, none⟩ = some (.bool ring) ∧ w'.cell? ⟨w.heap.size, 2, none⟩ = some (.slice p m cap) ∧ Hid (OwnArr w' w.heap.size 27 [.int .i64 n, .bool ring, .slice p m cap]) ∧ Hid (Below w.heap.size w w') ∧ Hid (Below w2.heap.size w2 w')) ((first | exact ⟨c0, c1, c2, HXd, HBd, HWd⟩ | exact ⟨d0, d1, d2, HXe, HBe, HWe⟩)) (first | (go_at_call 40; obtain ⟨-, -, -, HXc, HBc, HWc⟩ := (by assumption : _ ∧ _ ∧ _ ∧ Hid (OwnArr _ _ _ _) ∧ Hid (Below w.heap.size w _) ∧ Hid (Below w2.heap.size w2 _)); refine (G.out _ (by assumption) _).mono ?_; rintro e w' ⟨rfl, hb'⟩; have HXe := Lib.hid (HXc.out.below hb' HXc.out.lt); have HBe := Lib.hid (HBc.out.trans (hb'.mono HBc.out.size)); have HWe := Lib.hid (HWc.out.trans (hb'.mono HWc.out.size)); clear hb'; obtain ⟨d0, d1, d2, -⟩ := HXe.out.three))
            obtain ⟨-, -, -, HXf, HBf, HWf⟩ := (by assumption : _ ∧ _ ∧ _ ∧ Hid (OwnArr _ _ _ _) ∧ Hid (Below w.heap.size w _) ∧ Hid (Below w2.heap.size w2 _))
            go_wp2_with fail
            go_roundw
            case rel => exact ⟨j + 1, x, by omega, by go_num, rfl, hxn, hst, HXf, HBf, HWf⟩
            case measure => simp [intOf]; omega
          · rw [if_neg hlt2] at hst
            replace hst := Lib.hid hst.symm
            have hI2 : ¬ ((gapM n ring k' x : Nat) : Int) < ((gapM n ring k' y : Nat) : Int) := by omega
            clear hlt2 HX HB HW
            go_wp2_with fail
            go_region_held3 (fun w' => w'.cell? ⟨w.heap.size, 0, none⟩ = some (.int .i64 n) ∧ w'.cell? ⟨w.heap.size, 1, none⟩ = some (.bool ring) ∧ w'.cell? ⟨w.heap.size, 2, none⟩ = some (.slice p m cap) ∧ Hid (OwnArr w' w.heap.size 27 [.int .i64 n, .bool ring, .slice p m cap]) ∧ Hid (Below w.heap.size w w') ∧ Hid (Below w2.heap.size w2 w')) ((first | exact ⟨c0, c1, c2, HXd, HBd, HWd⟩ | exact ⟨d0, d1, d2, HXe, HBe, HWe⟩)) (first | (go_at_call 40; obtain ⟨-, -, -, HXc, HBc, HWc⟩ := (by assumption : _ ∧ _ ∧ _ ∧ Hid (OwnArr _ _ _ _) ∧ Hid (Below w.heap.size w _) ∧ Hid (Below w2.heap.size w2 _)); refine (G.out _ (by assumption) _).mono ?_; rintro e w' ⟨rfl, hb'⟩; have HXe := Lib.hid (HXc.out.below hb' HXc.out.lt); have HBe := Lib.hid (HBc.out.trans (hb'.mono HBc.out.size)); have HWe := Lib.hid (HWc.out.trans (hb'.mono HWc.out.size)); clear hb'; obtain ⟨d0, d1, d2, -⟩ := HXe.out.three))
            obtain ⟨-, -, -, HXf, HBf, HWf⟩ := (by assumption : _ ∧ _ ∧ _ ∧ Hid (OwnArr _ _ _ _) ∧ Hid (Below w.heap.size w _) ∧ Hid (Below w2.heap.size w2 _))
            go_wp2_with fail
            go_roundw
            case rel => exact ⟨j + 1, y, by omega, by go_num, rfl, hyn, hst, HXf, HBf, HWf⟩
            case measure => simp [intOf]; omega
        · have hjl : j = l.length := by omega
          have G := Lib.hid (fun (z : Nat) (hz : z < n) (w' : World) => gapI_any n ring p m cap k' z w' hn hk hz)
          have hAB : Hid (R1 = (y : Int) ∧ R2 = ((gapM n ring k' y : Nat) : Int)) := by
            show _ ∧ _
            have e := hy.out
            have e2 := hres.out
            rw [hjl, List.take_of_length_le (Nat.le_refl _), ← hx0.out] at e
            unfold nearP at e2
            rw [if_neg h0, ← e, Prod.mk.injEq] at e2
            exact ⟨e2.1.symm, e2.2.symm⟩
          obtain ⟨c0, c1, c2, -⟩ := HX.out.three
          go_wp2_with fail
          refine (G.out _ hyn _).mono ?_
          rintro e w3 ⟨rfl, hb3⟩
          go_wp2_with fail
          go_ret3
          exact ⟨by rw [hAB.out.1, hAB.out.2]; rfl, HB.out.trans (hb3.mono HB.out.size)⟩
    · have hv' : seatB n ring (ints (tk n S)) a = false := by simpa using hv
      have hB : B = false := by
        cases B with
        | false => rfl
        | true =>
          obtain ⟨k, rfl, hk, _, _⟩ := hgood rfl
          exfalso
          apply hv
          unfold seatB
          rw [hrow]
          simp
          omega
      subst hB
      obtain ⟨rfl, rfl, _⟩ := hbad rfl
      rw [hv'] at I
      clear hgood hbad hrow hv hv'
      have hl2 : ¬ (l.length : Int) = 0 := by omega
      go_enter Try.func42, Try.ntmps42
      go_wp2_with fail
      refine R.out.mono ?_
      rintro e w1 ⟨v, rfl, hO1, hb1⟩
      obtain ⟨q, qcap, rfl, -⟩ := hO1.rd
      rw [ints_length]
      have HX1 := Lib.hid (HX.out.below hb1 (by simp))
      have HI1 := Lib.hid (HI.out.bel hb1)
      have HB1 := Lib.hid (HB.out.trans (hb1.mono HB.out.size))
      obtain ⟨c0, c1, c2, -⟩ := HX1.out.three
      clear hb1 hO1 HX HI HB R
      go_wp2_with fail
      refine (I.out _ HI1.out).mono ?_
      rintro e w2 ⟨rfl, hb2⟩
      go_wp2_with fail
      go_ret3
      exact ⟨rfl, HB1.out.trans (hb2.mono HB1.out.size)⟩


set_option maxHeartbeats 800000 in
theorem seatsFree_bad (s : Int) (ring : Bool) (p : Option Addr) (cap : Nat) (xs : List Int) (w : World) (lo hi : Nat) (hin : Ri lo hi w p xs) (hlen : xs.length ≤ 1048576) (hr : rowB s ring xs = false) :
    Calls Try.prog 46 #[rowV s ring p xs.length cap, .func (.func 45) #[] #[]] w fun e w' => ∃ v, e = .returned (.tuple #[v, .bool false]) ∧ Out (w.heap.size + 1) w' v [] ∧ Below w.heap.size w w' := by
  have hs : (w.alloc (.cells #[Value.int .i64 s, Value.bool ring, Value.slice p xs.length cap] 27)).heap.size = w.heap.size + 1 := by simp
  have hO := Out.nilLit (w.alloc (.cells #[Value.int .i64 s, Value.bool ring, Value.slice p xs.length cap] 27))
  rw [hs] at hO
  have hb : Below w.heap.size w ((w.alloc (.cells #[Value.int .i64 s, Value.bool ring, Value.slice p xs.length cap] 27)).alloc (.cells #[] 3)) := ((Below.refl _ _).alloc (Nat.le_refl _) _).alloc (by simp) _
  have R := Lib.hid (isRow_any s ring p cap xs _ lo hi (hin.below hb hin.top) hlen)
  rw [hr] at R
  have HO := Lib.hid hO
  have HB := Lib.hid hb
  clear hs hO hb hin hr
  go_enter Try.func46, Try.ntmps46
  go_wp2_with fail
  refine R.out.mono ?_
  rintro e w1 ⟨rfl, hb1⟩
  go_wp2_with fail
  go_ret2
  exact ⟨_, rfl, HO.out.below hb1, HB.out.trans (hb1.mono HB.out.size)⟩


set_option maxHeartbeats 800000 in
theorem nearFree_bad (s : Int) (ring : Bool) (p : Option Addr) (cap : Nat) (xs : List Int) (a : Int) (w : World) (lo hi : Nat) (hin : Ri lo hi w p xs) (hlen : xs.length ≤ 1048576) (hr : rowB s ring xs = false) :
    Calls Try.prog 42 #[rowV s ring p xs.length cap, .int .i64 a, .func (.func 45) #[] #[]] w fun e w' => e = .returned (.tuple #[.int .i64 0, .int .i64 0, .bool false]) ∧ Below w.heap.size w w' := by
  have hb := box_below w s ring p xs.length cap 27
  have R := Lib.hid (seatsFree_bad s ring p cap xs _ lo hi (hin.bel hb) hlen hr)
  have HB := Lib.hid hb
  clear hb hin hr
  go_enter Try.func42, Try.ntmps42
  go_wp2_with fail
  refine R.out.mono ?_
  rintro e w1 ⟨v, rfl, hO1, hb1⟩
  obtain ⟨q, qcap, rfl, -⟩ := hO1.rd
  go_wp2_with fail
  go_ret3
  exact ⟨rfl, HB.out.trans (hb1.mono HB.out.size)⟩

set_option maxRecDepth 4000 in
set_option maxHeartbeats 2000000 in
theorem nearFree_any (n : Nat) (ring : Bool) (p : Option Addr) (cap : Nat) (S : Nat → Bool) (a : Int) (w : World) (lo hi : Nat) (hin : Ri lo hi w p (ints (tk n S))) (h2 : 2 ≤ n) (hn : n ≤ 24) (h3 : ring = true → 3 ≤ n) (R1 R2 : Int) (B : Bool)
    (hgood : B = true → ∃ k : Nat, a = k ∧ k < n ∧ tk n (fun q => !S q) ≠ [] ∧ nearP (gapM n ring k) (tk n (fun q => !S q)) = (R1, R2))
    (hbad : B = false → R1 = 0 ∧ R2 = 0 ∧ (tk n (fun q => !S q) = [] ∨ ¬ (0 ≤ a ∧ a < n))) :
    Calls Try.prog 42 #[rowV n ring p (ints (tk n S)).length cap, .int .i64 a, .func (.func 45) #[] #[]] w fun e w' => e = .returned (.tuple #[.int .i64 R1, .int .i64 R2, .bool B]) ∧ Below w.heap.size w w' := by
  have hb := box_below w n ring p (ints (tk n S)).length cap 27
  have hlen := ints_tk_len n S
  have R := Lib.hid (seatsFree_any n ring p cap S (fun q => !S q) _ lo hi (hin.bel hb) h2 hn h3 (fun k hk w' hb' => by
    have := isFree_any n ring p cap (ints (tk n S)) k w' lo hi ((hin.bel hb).below hb' (hin.bel hb).top) (by omega)
    rw [has_tk hk] at this
    exact this))
  have HX := Lib.hid (OwnArr.made w 27 [.int .i64 n, .bool ring, .slice p (ints (tk n S)).length cap])
  have HI := Lib.hid (hin.bel hb)
  have HB := Lib.hid hb
  have I := Lib.hid (fun w' (h : Ri lo hi w' p (ints (tk n S))) => isSeatOf_any n ring p cap (ints (tk n S)) a w' lo hi h (by omega))
  obtain ⟨l, hl⟩ : ∃ l, tk n (fun q => !S q) = l := ⟨_, rfl⟩
  have hll : l.length ≤ n := by rw [← hl]; exact tk_length_le _ _
  have HL : Hid (∀ x ∈ l, x < n) := by
    show ∀ _ ∈ _, _
    intro x hx
    rw [← hl] at hx
    exact (mem_tk.1 hx).1
  obtain ⟨m, hm⟩ : ∃ m, (ints (tk n S)).length = m := ⟨_, rfl⟩
  rw [hm] at R HX HI HB I ⊢
  rw [hl] at R hgood hbad
  have hrow := rowB_of (S := S) h2 hn h3
  clear hb hin hl hm
  by_cases h0 : l.length = 0
  · have hB : B = false := by
      cases B with
      | false => rfl
      | true =>
        obtain ⟨k, _, _, h, _⟩ := hgood rfl
        exact absurd (List.length_eq_zero_iff.1 h0) h
    subst hB
    obtain ⟨rfl, rfl, _⟩ := hbad rfl
    have hl0 : l = [] := List.length_eq_zero_iff.1 h0
    subst hl0
    clear hgood hbad hrow h0
    go_enter Try.func42, Try.ntmps42
    go_wp2_with fail
    refine R.out.mono ?_
    rintro e w1 ⟨v, rfl, hO1, hb1⟩
    obtain ⟨q, qcap, rfl, -⟩ := hO1.rd
    go_wp2_with fail
    go_ret3
    exact ⟨rfl, HB.out.trans (hb1.mono HB.out.size)⟩
  · by_cases hv : seatB n ring (ints (tk n S)) a = true
    · rw [hv] at I
      obtain ⟨k, rfl⟩ : ∃ k : Nat, a = k := by
        unfold seatB at hv
        simp only [Bool.and_eq_true, decide_eq_true_eq] at hv
        exact ⟨a.toNat, by omega⟩
      have hk : k < n := by
        unfold seatB at hv
        simp only [Bool.and_eq_true, decide_eq_true_eq] at hv
        omega
      have hB : B = true := by
        cases B with
        | true => rfl
        | false =>
          obtain ⟨_, _, h⟩ := hbad rfl
          rcases h with h | h
          · exact absurd (by rw [h]; rfl) h0
          · exact absurd ⟨by omega, by omega⟩ h
      subst hB
      obtain ⟨k', hk', _, _, hres⟩ := hgood rfl
      have : k' = k := by omega
      subst this
      replace hres := Lib.hid hres
      clear hgood hbad hrow hv hk'
      obtain ⟨x0, hx0⟩ : ∃ x0, l[0]?.getD 0 = x0 := ⟨_, rfl⟩
      have hx0n : x0 < n := by rw [← hx0]; exact HL.out _ (nat_mem (by omega))
      go_enter Try.func42, Try.ntmps42
      go_wp2_with fail
      refine R.out.mono ?_
      rintro e w1 ⟨v, rfl, hO1, hb1⟩
      obtain ⟨q, qcap, rfl, -, -, hR1, -⟩ := hO1.rd
      rw [ints_length]
      obtain ⟨b, off, rfl, -, -, hbq, hc⟩ := hR1.int (by rw [ints_length]; omega)
      rw [ints_length] at hc
      have HC := Lib.hid hc
      have HX1 := Lib.hid (HX.out.below hb1 (by simp))
      have HI1 := Lib.hid (HI.out.bel hb1)
      have HB1 := Lib.hid (HB.out.trans (hb1.mono HB.out.size))
      have hz := hc 0 (by omega)
      rw [ints_get (by omega), hx0] at hz
      have hoff : off + 0 = off := rfl
      rw [hoff] at hz
      clear hc hb1 hR1 HX HI HB R hoff hO1
      obtain ⟨c0, c1, c2, -⟩ := HX1.out.three
      have hl1 : (0 : Int) < (l.length : Int) := by omega
      have hl2 : ((l.length : Int) == 0) = false := by
        have : ¬ (l.length : Int) = 0 := by omega
        simpa using this
      go_wp2_with fail
      refine (I.out _ HI1.out).mono ?_
      rintro e w2 ⟨rfl, hb2⟩
      have HX2 := Lib.hid (HX1.out.below hb2 HX1.out.lt)
      have HB2 := Lib.hid (HB1.out.trans (hb2.mono HB1.out.size))
      have hbq2 : b < w2.heap.size := Nat.lt_of_lt_of_le hbq hb2.size
      have HC2 : Hid (∀ i, i < l.length → w2.cell? ⟨b, off + i, none⟩ = some (.int .i64 ((l[i]?.getD 0 : Nat) : Int))) := by
        show ∀ _, _
        intro i hi'
        rw [← ints_get hi']
        exact (hb2.cell (p := ⟨b, off + i, none⟩) hbq).trans (HC.out i hi')
      have hz2 := (hb2.cell (p := ⟨b, off, none⟩) hbq).trans hz
      clear c0 c1 c2 hz HX1 HI1 HB1 HC I hb2
      replace hx0 := Lib.hid hx0
      go_wp2_with fail
      clear hz2
      go_loopw [11, 13, 34] (fun y _ i wr => ∃ (j y' : Nat), j ≤ l.length ∧ i = .int .i64 j ∧ y = .int .i64 y' ∧ y' < n ∧ Hid (y' = leastOf (gapM n ring k') x0 (l.take j)) ∧ Hid (OwnArr wr w.heap.size 27 [.int .i64 n, .bool ring, .slice p m cap]) ∧ Hid (Below w.heap.size w wr) ∧ Hid (Below w2.heap.size w2 wr)) (fun _ _ i _ => l.length - (intOf i).toNat)
      case atStart => exact ⟨0, x0, Nat.zero_le _, rfl, rfl, hx0n, by show _ = _; simp [leastOf], HX2, HB2, Below.refl _ _⟩
      case round =>
        obtain ⟨j, y, hj, rfl, rfl, hyn, hy, HX, HB, HW⟩ := hrel
        clear HX2 HB2
        by_cases hlt : j < l.length
        · have h0 := (HW.out.cell (p := ⟨b, off + j, none⟩) hbq2).trans (HC2.out j hlt)
          have hst := least_step (gapM n ring k') x0 hlt
          have hxn := HL.out _ (nat_mem hlt)
          obtain ⟨x, hx⟩ : ∃ x, l[j]?.getD 0 = x := ⟨_, rfl⟩
          rw [hx] at h0 hst hxn
          rw [← hy.out] at hst
          clear hx
          have G := Lib.hid (fun (z : Nat) (hz : z < n) (w' : World) => gapI_any n ring p m cap k' z w' hn hk hz)
          have hj1 : (j : Int) < (l.length : Int) := by omega
          obtain ⟨c0, c1, c2, -⟩ := HX.out.three
          have HXd := Lib.hid HX.out.drew
          have HBd := Lib.hid HB.out.drew
          have HWd := Lib.hid HW.out.drew
          by_cases hlt2 : gapM n ring k' x < gapM n ring k' y
          · rw [if_pos hlt2] at hst
            replace hst := Lib.hid hst.symm
            have hI2 : ((gapM n ring k' x : Nat) : Int) < ((gapM n ring k' y : Nat) : Int) := by omega
            clear hlt2 HX HB HW
            go_wp2_with fail
            go_region_held3 (fun w' => w'.cell? ⟨w.heap.size, 0, none⟩ = some (.int .i64 n) ∧ w'.cell? ⟨w.heap.size, 1, none⟩ = some (.bool ring) ∧ w'.cell? ⟨w.heap.size, 2, none⟩ = some (.slice p m cap) ∧ Hid (OwnArr w' w.heap.size 27 [.int .i64 n, .bool ring, .slice p m cap]) ∧ Hid (Below w.heap.size w w') ∧ Hid (Below w2.heap.size w2 w')) ((first | exact ⟨c0, c1, c2, HXd, HBd, HWd⟩ | exact ⟨d0, d1, d2, HXe, HBe, HWe⟩)) (first | (go_at_call 40; obtain ⟨-, -, -, HXc, HBc, HWc⟩ := (by assumption : _ ∧ _ ∧ _ ∧ Hid (OwnArr _ _ _ _) ∧ Hid (Below w.heap.size w _) ∧ Hid (Below w2.heap.size w2 _)); refine (G.out _ (by assumption) _).mono ?_; rintro e w' ⟨rfl, hb'⟩; have HXe := Lib.hid (HXc.out.below hb' HXc.out.lt); have HBe := Lib.hid (HBc.out.trans (hb'.mono HBc.out.size)); have HWe := Lib.hid (HWc.out.trans (hb'.mono HWc.out.size)); clear hb'; obtain ⟨d0, d1, d2, -⟩ := HXe.out.three))
            obtain ⟨-, -, -, HXf, HBf, HWf⟩ := (by assumption : _ ∧ _ ∧ _ ∧ Hid (OwnArr _ _ _ _) ∧ Hid (Below w.heap.size w _) ∧ Hid (Below w2.heap.size w2 _))
            go_wp2_with fail
            go_roundw
            case rel => exact ⟨j + 1, x, by omega, by go_num, rfl, hxn, hst, HXf, HBf, HWf⟩
            case measure => simp [intOf]; omega
          · rw [if_neg hlt2] at hst
            replace hst := Lib.hid hst.symm
            have hI2 : ¬ ((gapM n ring k' x : Nat) : Int) < ((gapM n ring k' y : Nat) : Int) := by omega
            clear hlt2 HX HB HW
            go_wp2_with fail
            go_region_held3 (fun w' => w'.cell? ⟨w.heap.size, 0, none⟩ = some (.int .i64 n) ∧ w'.cell? ⟨w.heap.size, 1, none⟩ = some (.bool ring) ∧ w'.cell? ⟨w.heap.size, 2, none⟩ = some (.slice p m cap) ∧ Hid (OwnArr w' w.heap.size 27 [.int .i64 n, .bool ring, .slice p m cap]) ∧ Hid (Below w.heap.size w w') ∧ Hid (Below w2.heap.size w2 w')) ((first | exact ⟨c0, c1, c2, HXd, HBd, HWd⟩ | exact ⟨d0, d1, d2, HXe, HBe, HWe⟩)) (first | (go_at_call 40; obtain ⟨-, -, -, HXc, HBc, HWc⟩ := (by assumption : _ ∧ _ ∧ _ ∧ Hid (OwnArr _ _ _ _) ∧ Hid (Below w.heap.size w _) ∧ Hid (Below w2.heap.size w2 _)); refine (G.out _ (by assumption) _).mono ?_; rintro e w' ⟨rfl, hb'⟩; have HXe := Lib.hid (HXc.out.below hb' HXc.out.lt); have HBe := Lib.hid (HBc.out.trans (hb'.mono HBc.out.size)); have HWe := Lib.hid (HWc.out.trans (hb'.mono HWc.out.size)); clear hb'; obtain ⟨d0, d1, d2, -⟩ := HXe.out.three))
            obtain ⟨-, -, -, HXf, HBf, HWf⟩ := (by assumption : _ ∧ _ ∧ _ ∧ Hid (OwnArr _ _ _ _) ∧ Hid (Below w.heap.size w _) ∧ Hid (Below w2.heap.size w2 _))
            go_wp2_with fail
            go_roundw
            case rel => exact ⟨j + 1, y, by omega, by go_num, rfl, hyn, hst, HXf, HBf, HWf⟩
            case measure => simp [intOf]; omega
        · have hjl : j = l.length := by omega
          have G := Lib.hid (fun (z : Nat) (hz : z < n) (w' : World) => gapI_any n ring p m cap k' z w' hn hk hz)
          have hAB : Hid (R1 = (y : Int) ∧ R2 = ((gapM n ring k' y : Nat) : Int)) := by
            show _ ∧ _
            have e := hy.out
            have e2 := hres.out
            rw [hjl, List.take_of_length_le (Nat.le_refl _), ← hx0.out] at e
            unfold nearP at e2
            rw [if_neg h0, ← e, Prod.mk.injEq] at e2
            exact ⟨e2.1.symm, e2.2.symm⟩
          obtain ⟨c0, c1, c2, -⟩ := HX.out.three
          go_wp2_with fail
          refine (G.out _ hyn _).mono ?_
          rintro e w3 ⟨rfl, hb3⟩
          go_wp2_with fail
          go_ret3
          exact ⟨by rw [hAB.out.1, hAB.out.2]; rfl, HB.out.trans (hb3.mono HB.out.size)⟩
    · have hv' : seatB n ring (ints (tk n S)) a = false := by simpa using hv
      have hB : B = false := by
        cases B with
        | false => rfl
        | true =>
          obtain ⟨k, rfl, hk, _, _⟩ := hgood rfl
          exfalso
          apply hv
          unfold seatB
          rw [hrow]
          simp
          omega
      subst hB
      obtain ⟨rfl, rfl, _⟩ := hbad rfl
      rw [hv'] at I
      clear hgood hbad hrow hv hv'
      have hl2 : ¬ (l.length : Int) = 0 := by omega
      go_enter Try.func42, Try.ntmps42
      go_wp2_with fail
      refine R.out.mono ?_
      rintro e w1 ⟨v, rfl, hO1, hb1⟩
      obtain ⟨q, qcap, rfl, -⟩ := hO1.rd
      rw [ints_length]
      have HX1 := Lib.hid (HX.out.below hb1 (by simp))
      have HI1 := Lib.hid (HI.out.bel hb1)
      have HB1 := Lib.hid (HB.out.trans (hb1.mono HB.out.size))
      obtain ⟨c0, c1, c2, -⟩ := HX1.out.three
      clear hb1 hO1 HX HI HB R
      go_wp2_with fail
      refine (I.out _ HI1.out).mono ?_
      rintro e w2 ⟨rfl, hb2⟩
      go_wp2_with fail
      go_ret3
      exact ⟨rfl, HB1.out.trans (hb2.mono HB1.out.size)⟩

end Go.Proofs.Ytlapbdiiolaefaa
