/- Guards: spec.l9Guards, spec.IsGuarded. -/
import Derived.Test.YtogdiahojbonaaaNearest
import Derived.Test.YtogdiahojbonaaaIsRow
namespace Go.Proofs.Ytogdiahojbonaaa
open Go.RowKit

/-- the gap of the nearest one of a list, or -1 -/
def nearG (n : Nat) (ring : Bool) (l : List Nat) (a : Nat) : Int := (nearP (gapM n ring a) l).2
/-- each of the first k seats has a guard within the reach -/
def grdUp (n : Nat) (ring : Bool) (l : List Nat) (h : Int) (k : Nat) : Bool := (List.range k).all fun p => decide (0 ≤ nearG n ring l p) && decide (nearG n ring l p ≤ h)
theorem grdUp_succ (n : Nat) (ring : Bool) (l : List Nat) (h : Int) (k : Nat) : grdUp n ring l h (k + 1) = (grdUp n ring l h k && (decide (0 ≤ nearG n ring l k) && decide (nearG n ring l k ≤ h))) := by
  unfold grdUp
  rw [List.range_succ, List.all_append]
  simp
theorem grdUp_false {n : Nat} {ring : Bool} {l : List Nat} {h : Int} {k : Nat} (hk : k < n) (h1 : (decide (0 ≤ nearG n ring l k) && decide (nearG n ring l k ≤ h)) = false) : grdUp n ring l h n = false := by
  unfold grdUp
  rw [List.all_eq_false]
  exact ⟨k, by simpa using hk, by rw [h1]; simp⟩

set_option maxRecDepth 4000 in
set_option maxHeartbeats 1000000 in
theorem guardsS_any (n : Nat) (ring : Bool) (p : Option Addr) (m cap : Nat) (q : Option Addr) (qcap : Nat) (l : List Nat) (h : Int) (w : World) (lo hi : Nat) (hin : Ri lo hi w q (ints l)) (hl : ∀ x ∈ l, x < n) (hll : l.length ≤ 24) (hn : n ≤ 24) :
    Calls Try.prog 37 #[rowV n ring p m cap, .slice q l.length qcap, .int .i64 h] w fun e w' => e = .returned (.bool (grdUp n ring l h n)) ∧ Below w.heap.size w w' := by
  have HX0 := Lib.hid (OwnArr.made w 28 [.int .i64 n, .bool ring, .slice p m cap])
  have HB0 := Lib.hid (box_below w n ring p m cap 28)
  have NS := Lib.hid (fun (a : Nat) (ha : a < n) (w' : World) (h' : Below w.heap.size w w') => nearestS_any n ring p m cap q qcap l a w' lo hi (hin.below h' hin.top) hl hll hn ha)
  obtain ⟨m2, hm2⟩ : ∃ m, l.length = m := ⟨_, rfl⟩
  rw [hm2] at NS ⊢
  clear hin hl hll hm2
  go_enter Try.func37, Try.ntmps37
  go_wp2_with fail
  go_loopw [7, 8, 9] (fun i _ _ wr => ∃ (k : Nat), k ≤ n ∧ i = .int .i64 k ∧ Hid (grdUp n ring l h k = true) ∧ Hid (OwnArr wr w.heap.size 28 [.int .i64 n, .bool ring, .slice p m cap]) ∧ Hid (Below w.heap.size w wr)) (fun i _ _ _ => n - (intOf i).toNat)
  case atStart => exact ⟨0, Nat.zero_le _, rfl, rfl, HX0, HB0⟩
  case round =>
    obtain ⟨k, hk, rfl, HG, HX, HB⟩ := hrel
    clear HX0 HB0
    obtain ⟨c0, c1, c2, -⟩ := HX.out.three
    by_cases hlt : k < n
    · have hk1 : (k : Int) < (n : Int) := by omega
      have G := NS.out k hlt _ HB.out
      have HS := Lib.hid (grdUp_succ n ring l h k)
      have HF := Lib.hid (fun e => grdUp_false (ring := ring) (l := l) (h := h) hlt e)
      obtain ⟨g1, hg1⟩ : ∃ g, (nearP (gapM n ring k) l).1 = g := ⟨_, rfl⟩
      have hg2 : (nearP (gapM n ring k) l).2 = nearG n ring l k := rfl
      rw [hg1, hg2] at G
      obtain ⟨g, hg⟩ : ∃ g, nearG n ring l k = g := ⟨_, rfl⟩
      rw [hg] at G HS HF
      replace G := Lib.hid G
      clear hg hg1 hg2
      by_cases h1 : g < 0
      · have HR := Lib.hid (HF.out (by have : ¬ 0 ≤ g := by omega
                                       simp [this]))
        clear HF HS HG
        go_wp2_with fail
        refine G.out.mono ?_
        rintro e w2 ⟨rfl, hb2⟩
        have HB2 := Lib.hid (HB.out.trans (hb2.mono HB.out.size))
        clear HX HB hb2 c0 c1 c2 G
        go_wp2_with fail
        go_ret
        exact ⟨ret_bool HR.out.symm, HB2.out⟩
      · by_cases h2 : g > h
        · have HR := Lib.hid (HF.out (by have : ¬ g ≤ h := by omega
                                         simp [this]))
          clear HF HS HG
          go_wp2_with fail
          refine G.out.mono ?_
          rintro e w2 ⟨rfl, hb2⟩
          have HB2 := Lib.hid (HB.out.trans (hb2.mono HB.out.size))
          clear HX HB hb2 c0 c1 c2 G
          go_wp2_with fail
          go_ret
          exact ⟨ret_bool HR.out.symm, HB2.out⟩
        · have HG2 : Hid (grdUp n ring l h (k + 1) = true) := by
            show _ = _
            have a1 : 0 ≤ g := by omega
            have a2 : g ≤ h := by omega
            rw [HS.out, HG.out, decide_eq_true a1, decide_eq_true a2]; rfl
          clear HF HS HG
          go_wp2_with fail
          refine G.out.mono ?_
          rintro e w2 ⟨rfl, hb2⟩
          have HX2 := Lib.hid (HX.out.below hb2 HX.out.lt)
          have HB2 := Lib.hid (HB.out.trans (hb2.mono HB.out.size))
          clear HX HB hb2 c0 c1 c2 G
          go_wp2_with fail
          go_roundw
          case rel => exact ⟨k + 1, by omega, by go_num, HG2, HX2, HB2⟩
          case measure => simp [intOf]; omega
    · have hkn : k = n := by omega
      subst hkn
      go_wp2_with fail
      go_ret
      exact ⟨ret_bool HG.out.symm, HB.out⟩

/-- what IsGuarded tells -/
def grdI (s : Int) (ring : Bool) (ss : List Int) (h : Int) : Bool := rising (-1) s ss && grdUp s.toNat ring (ss.map Int.toNat) h s.toNat
theorem ints_toNat (l : List Nat) : (ints l).map Int.toNat = l := by
  unfold ints
  rw [List.map_map]
  conv => rhs; rw [← List.map_id l]
  apply List.map_congr_left
  intro x _
  simp
theorem tk_len24 {n : Nat} {S : Nat → Bool} (h : n ≤ 24) : (tk n S).length ≤ 24 := Nat.le_trans (tk_length_le n S) h

set_option maxHeartbeats 1000000 in
theorem isGuardedS_bad (s : Int) (ring : Bool) (p : Option Addr) (cap : Nat) (xs : List Int) (q : Option Addr) (c : Nat) (ss : List Int) (h : Int) (w : World) (lo hi : Nat) (hin : Ri lo hi w p xs) (hlen : xs.length ≤ 1048576) (hr : (rowB s ring xs && decide (0 ≤ h)) = false) :
    Calls Try.prog 18 #[rowV s ring p xs.length cap, .slice q ss.length c, .int .i64 h] w fun e w' => e = .returned (.tuple #[.bool false, .bool false]) ∧ Below w.heap.size w w' := by
  have hX := OwnArr.made w 28 [.int .i64 s, .bool ring, .slice p xs.length cap]
  have hB := box_below w s ring p xs.length cap 28
  have I := Lib.hid (l2Row_any s ring p cap xs _ lo hi (hin.below hB hin.top) hlen)
  obtain ⟨RB, hRB⟩ : ∃ RB, rowB s ring xs = RB := ⟨_, rfl⟩
  rw [hRB] at hr I
  obtain ⟨m0, hm0⟩ : ∃ m, xs.length = m := ⟨_, rfl⟩
  rw [hm0] at hX hB I ⊢
  obtain ⟨c0, c1, c2, -⟩ := hX.three
  have HB := Lib.hid hB
  clear hin hRB hm0 hlen hX hB
  cases RB with
  | false =>
    clear hr
    go_enter Try.func18, Try.ntmps18
    go_wp2_with fail
    refine I.out.mono ?_
    rintro e w2 ⟨rfl, hb2⟩
    have HB2 := Lib.hid (HB.out.trans (hb2.mono HB.out.size))
    clear I HB hb2 c0 c1 c2
    go_wp2_with fail
    go_ret2
    exact ⟨rfl, HB2.out⟩
  | true =>
    have h1 : h < 0 := by simpa using hr
    clear hr
    go_enter Try.func18, Try.ntmps18
    go_wp2_with fail
    refine I.out.mono ?_
    rintro e w2 ⟨rfl, hb2⟩
    have HB2 := Lib.hid (HB.out.trans (hb2.mono HB.out.size))
    clear I HB hb2 c0 c1 c2
    go_wp2_with fail
    go_ret2
    exact ⟨rfl, HB2.out⟩

set_option maxRecDepth 4000 in
set_option maxHeartbeats 1000000 in
theorem isGuardedS_any (s : Int) (ring : Bool) (p : Option Addr) (cap : Nat) (xs : List Int) (q : Option Addr) (c : Nat) (ss : List Int) (h : Int) (w : World) (lo hi lo2 hi2 : Nat) (hin : Ri lo hi w p xs) (hlen : xs.length ≤ 1048576) (hin2 : Ri lo2 hi2 w q ss) (hlen2 : ss.length ≤ 1048576) (hr : rowB s ring xs = true) (hh : 0 ≤ h) :
    Calls Try.prog 18 #[rowV s ring p xs.length cap, .slice q ss.length c, .int .i64 h] w fun e w' => e = .returned (.tuple #[.bool (grdI s ring ss h), .bool true]) ∧ Below w.heap.size w w' := by
  have hX := OwnArr.made w 28 [.int .i64 s, .bool ring, .slice p xs.length cap]
  have hB := box_below w s ring p xs.length cap 28
  have I := Lib.hid (l2Row_any s ring p cap xs _ lo hi (hin.below hB hin.top) hlen)
  rw [hr] at I
  have RS := Lib.hid (fun (w' : World) (h' : Below w.heap.size w w') => rising_spec s q c ss w' lo2 hi2 (hin2.below h' hin2.top) hlen2)
  have hn1 : ¬ h < 0 := by omega
  obtain ⟨n, S, rfl, -, hn2, hn24, -⟩ := rowB_is hr
  have GD : Hid (rising (-1) n ss = true → ∀ (w' : World), Below w.heap.size w w' → ∀ m, Calls Try.prog 37 #[rowV n ring p m cap, .slice q ss.length c, .int .i64 h] w' fun e w'' => e = .returned (.bool (grdI n ring ss h)) ∧ Below w'.heap.size w' w'') := by
    show _ → ∀ _, _
    intro hrs w' h' m
    have hrs' := hrs
    have e := rising_is hrs
    have e2 : grdI n ring ss h = grdUp n ring (tk n fun k => decide ((k : Int) ∈ ss)) h n := by
      unfold grdI
      rw [hrs, Int.toNat_natCast, Bool.true_and]
      congr 1
      conv => lhs; rw [e]
      exact ints_toNat _
    rw [e2]
    obtain ⟨T, hT⟩ : ∃ T, (fun k : Nat => decide ((k : Int) ∈ ss)) = T := ⟨_, rfl⟩
    rw [hT] at e ⊢
    have hi' := hin2.below h' hin2.top
    rw [e] at hi' ⊢
    rw [ints_length]
    exact guardsS_any n ring p m cap q c (tk n T) h w' lo2 hi2 hi' (fun x hx => (mem_tk.1 hx).1) (tk_len24 hn24) hn24
  have HD : Hid (rising (-1) n ss = false → grdI n ring ss h = false) := by
    show _ → _
    intro h
    unfold grdI
    rw [h]; rfl
  obtain ⟨D, hD⟩ : ∃ D, grdI n ring ss h = D := ⟨_, rfl⟩
  rw [hD] at GD HD ⊢
  obtain ⟨RR, hRR⟩ : ∃ R, rising (-1) n ss = R := ⟨_, rfl⟩
  rw [hRR] at RS GD HD
  obtain ⟨m0, hm0⟩ : ∃ m, xs.length = m := ⟨_, rfl⟩
  rw [hm0] at hX hB I ⊢
  obtain ⟨m2, hm2⟩ : ∃ m, ss.length = m := ⟨_, rfl⟩
  rw [hm2] at RS GD ⊢
  have HX := Lib.hid hX
  have HB := Lib.hid hB
  obtain ⟨c0, c1, c2, -⟩ := HX.out.three
  clear hin hr hm0 hlen hX hB hin2 hlen2 hD hRR hm2
  cases RR with
  | false =>
    have hd := HD.out rfl
    subst hd
    go_enter Try.func18, Try.ntmps18
    go_wp2_with fail
    refine I.out.mono ?_
    rintro e w2 ⟨rfl, hb2⟩
    have HB2 := Lib.hid (HB.out.trans (hb2.mono HB.out.size))
    have HX2 := Lib.hid (HX.out.below hb2 HX.out.lt)
    clear I HB hb2 c0 c1 c2 HX
    obtain ⟨c0, c1, c2, -⟩ := HX2.out.three
    have RS2 := Lib.hid (RS.out _ HB2.out)
    go_wp2_with fail
    refine RS2.out.mono ?_
    rintro e w3 ⟨rfl, hb3⟩
    have HB3 := Lib.hid (HB2.out.trans (hb3.mono HB2.out.size))
    clear HB2 hb3 c0 c1 c2 HX2
    go_wp2_with fail
    go_ret2
    exact ⟨rfl, HB3.out⟩
  | true =>
    clear HD
    go_enter Try.func18, Try.ntmps18
    go_wp2_with fail
    refine I.out.mono ?_
    rintro e w2 ⟨rfl, hb2⟩
    have HB2 := Lib.hid (HB.out.trans (hb2.mono HB.out.size))
    have HX2 := Lib.hid (HX.out.below hb2 HX.out.lt)
    clear I HB hb2 c0 c1 c2 HX
    obtain ⟨c0, c1, c2, -⟩ := HX2.out.three
    have RS2 := Lib.hid (RS.out _ HB2.out)
    go_wp2_with fail
    refine RS2.out.mono ?_
    rintro e w3 ⟨rfl, hb3⟩
    have HB3 := Lib.hid (HB2.out.trans (hb3.mono HB2.out.size))
    have HX3 := Lib.hid (HX2.out.below hb3 HX2.out.lt)
    clear HB2 hb3 c0 c1 c2 HX2
    obtain ⟨c0, c1, c2, -⟩ := HX3.out.three
    have GD2 := Lib.hid (GD.out trivial _ HB3.out m0)
    go_wp2_with fail
    refine GD2.out.mono ?_
    rintro e w4 ⟨rfl, hb4⟩
    have HB4 := Lib.hid (HB3.out.trans (hb4.mono HB3.out.size))
    clear HB3 hb4 c0 c1 c2 HX3
    go_wp2_with fail
    go_ret2
    exact ⟨rfl, HB4.out⟩
end Go.Proofs.Ytogdiahojbonaaa
