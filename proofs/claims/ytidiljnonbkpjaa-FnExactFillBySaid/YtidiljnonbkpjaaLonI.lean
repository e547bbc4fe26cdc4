/- impl's isLonely, at the seats of a valid Row; impl.LonelySeats, for every Row. -/
import Derived.Test.YtidiljnonbkpjaaLonM
import Derived.Test.YtidiljnonbkpjaaNbAny
import Derived.Test.YtidiljnonbkpjaaIsFree
import Derived.Test.YtidiljnonbkpjaaFiltL
import Derived.Deep.RegionHeld3
import Derived.StillTailTactics
namespace Go.Proofs.Ytidiljnonbkpjaa
open Go.RowKit

set_option maxHeartbeats 1000000 in
theorem indexFunc_any (S : Nat → Bool) (n : Nat) (rv : Value) (l : List Nat) (q : Option Addr) (c : Nat) (w : World) (lo hi : Nat) (hin : Ri lo hi w q (ints l)) (hl : ∀ x ∈ l, x < n) (hll : l.length ≤ 24)
    (hG : ∀ a, a < n → ∀ w', Below w.heap.size w w' → Calls Try.prog 103 #[rv, .int .i64 (a : Nat)] w' fun e w'' => e = .returned (.bool (S a)) ∧ Below w'.heap.size w' w'') :
    Calls Try.prog 124 #[.slice q l.length c, .func (.func 103) #[rv] #[]] w fun e w' => ∃ r : Int, e = .returned (.int .i64 r) ∧ (0 ≤ r ↔ l.any S = true) ∧ Below w.heap.size w w' := by
  have HI := Lib.hid hin
  have HL := Lib.hid hl
  have G := Lib.hid hG
  obtain ⟨k0, hk0⟩ : ∃ k, l.length = k := ⟨_, rfl⟩
  rw [hk0] at hll ⊢
  have HM := Lib.hid hk0
  clear hin hl hk0 hG
  go_enter Try.func124, Try.ntmps124
  go_wp2_with fail
  go_loopw [5, 8] (fun _ i wr => ∃ (k : Nat), k ≤ k0 ∧ i = .int .i64 k ∧ Hid ((l.take k).any S = false) ∧ Hid (Below w.heap.size w wr)) (fun _ i _ => k0 - (intOf i).toNat)
  case atStart => exact ⟨0, Nat.zero_le _, rfl, by show _ = _; simp, Lib.hid (Below.refl _ _)⟩
  case round =>
    obtain ⟨k, hk, rfl, HF, HB⟩ := hrel
    by_cases hlt : k < k0
    · have hk1 : (k : Int) < (k0 : Int) := by omega
      have hkl : k < l.length := by have := HM.out; omega
      obtain ⟨b, off, rfl, -, -, hbw, hc⟩ := HI.out.int (by rw [ints_length]; omega)
      have h0 := (HB.out.cell (p := ⟨b, off + k, none⟩) hbw).trans (hc k (by rw [ints_length]; exact hkl))
      rw [ints_get hkl] at h0
      have hmem := nat_mem hkl
      have hyn := HL.out _ hmem
      have HT := Lib.hid (any_take (S := S) hkl)
      obtain ⟨y, hy⟩ : ∃ y, l[k]?.getD 0 = y := ⟨_, rfl⟩
      rw [hy] at h0 hyn HT hmem
      have G2 := Lib.hid (G.out y hyn wr HB.out)
      have HY : Hid (S y = true → l.any S = true) := by
        show _ → _
        intro h
        exact List.any_eq_true.2 ⟨y, hmem, h⟩
      obtain ⟨t, ht⟩ : ∃ t, S y = t := ⟨_, rfl⟩
      rw [ht] at G2 HT HY
      clear hc hy ht hmem
      cases t with
      | true =>
        go_wp2_with fail
        refine G2.out.mono ?_
        rintro e w2 ⟨rfl, hb2⟩
        have HB2 := Lib.hid (HB.out.trans (hb2.mono HB.out.size))
        clear hb2
        go_wp2_with fail
        go_ret
        exact ⟨_, rfl, by have := HY.out trivial; simp [this], HB2.out⟩
      | false =>
        have HF2 : Hid ((l.take (k + 1)).any S = false) := by
          show _ = _
          rw [HT.out, HF.out]; rfl
        clear HT HF HY
        go_wp2_with fail
        refine G2.out.mono ?_
        rintro e w2 ⟨rfl, hb2⟩
        have HB2 := Lib.hid (HB.out.trans (hb2.mono HB.out.size))
        clear hb2 h0 G2 HB
        go_wp2_with fail
        go_roundw
        case rel => exact ⟨k + 1, by omega, by go_num, HF2, HB2⟩
        case measure => simp [intOf]; omega
    · have hkm : l.take k = l := List.take_of_length_le (by have := HM.out; omega)
      have hF := HF.out
      rw [hkm] at hF
      replace hF := Lib.hid hF
      clear HF hkm
      go_wp2_with fail
      go_ret
      exact ⟨_, rfl, by have := hF.out; simp [this], HB.out⟩

set_option maxHeartbeats 1000000 in
theorem containsFunc_any (S : Nat → Bool) (n : Nat) (rv : Value) (l : List Nat) (q : Option Addr) (c : Nat) (w : World) (lo hi : Nat) (hin : Ri lo hi w q (ints l)) (hl : ∀ x ∈ l, x < n) (hll : l.length ≤ 24)
    (hG : ∀ a, a < n → ∀ w', Below w.heap.size w w' → Calls Try.prog 103 #[rv, .int .i64 (a : Nat)] w' fun e w'' => e = .returned (.bool (S a)) ∧ Below w'.heap.size w' w'') :
    Calls Try.prog 101 #[.slice q l.length c, .func (.func 103) #[rv] #[]] w fun e w' => e = .returned (.bool (l.any S)) ∧ Below w.heap.size w w' := by
  have I := Lib.hid (indexFunc_any S n rv l q c w lo hi hin hl hll hG)
  obtain ⟨B, hB⟩ : ∃ B, l.any S = B := ⟨_, rfl⟩
  rw [hB] at I ⊢
  clear hin hl hG hB
  go_enter Try.func101, Try.ntmps101
  go_wp2_with fail
  refine I.out.mono ?_
  rintro e w' ⟨r, rfl, hr, hb⟩
  replace hr := Lib.hid hr
  have HB := Lib.hid hb
  go_wp2_with fail
  go_ret
  exact ⟨ret_bool (by have := hr.out; cases B <;> simp_all), HB.out⟩

set_option maxRecDepth 4000 in
set_option maxHeartbeats 2000000 in
theorem isLonely_any (n : Nat) (ring : Bool) (p : Option Addr) (cap : Nat) (S : Nat → Bool) (a : Nat) (w : World) (lo hi : Nat) (hin : Ri lo hi w p (ints (tk n S))) (h2 : 2 ≤ n) (hn : n ≤ 24) (h3 : ring = true → 3 ≤ n) (ha : a < n) :
    Calls Try.prog 79 #[rowV n ring p (ints (tk n S)).length cap, .int .i64 (a : Nat)] w fun e w' => e = .returned (.bool (lonM n ring S a)) ∧ Below w.heap.size w w' := by
  have hlen := ints_tk_len n S
  have hb := box_below w n ring p (ints (tk n S)).length cap 26
  have FR : ∀ (w' : World) (_ : Below w.heap.size w w'), Calls Try.prog 87 #[rowV n ring p (ints (tk n S)).length cap, .int .i64 (a : Nat)] w' fun e w'' => e = .returned (.bool (!S a)) ∧ Below w'.heap.size w' w'' := by
    intro w' h'
    have := isFree_any n ring p cap (ints (tk n S)) a w' lo hi (hin.below h' hin.top) (by omega)
    rw [has_tk ha] at this
    exact this
  have NB := Lib.hid (fun (m : Nat) w' => nearI_any n ring p m cap a w' h2 hn h3 ha)
  have CF := fun (q : Option Addr) (c : Nat) (w' : World) (l' h' : Nat) (hb' : Below w.heap.size w w') (hq : Ri l' h' w' q (ints (nearM n ring a))) => containsFunc_any S n (rowV n ring p (ints (tk n S)).length cap) (nearM n ring a) q c w' l' h' hq (fun x hx => (mem_tk.1 hx).1) (by have := tk_length_le n (fun q => decide (gapM n ring a q = 1)); unfold nearM; omega)
    (fun x hx w'' hb'' => by
      have := isTaken_any n ring p cap (ints (tk n S)) x w'' lo hi (hin.below (hb'.trans (hb''.mono hb'.size)) hin.top) (by omega)
      rw [has_tk hx] at this
      exact this)
  have HV := lon_any n ring S a
  have HV0 : S a = true → lonM n ring S a = false := by intro h; unfold lonM; rw [h]; rfl
  obtain ⟨L, hL⟩ : ∃ L, nearM n ring a = L := ⟨_, rfl⟩
  rw [hL] at NB CF HV
  obtain ⟨V, hVe⟩ : ∃ V, lonM n ring S a = V := ⟨_, rfl⟩
  rw [hVe] at HV HV0 ⊢
  obtain ⟨k, hk⟩ : ∃ k, L.length = k := ⟨_, rfl⟩
  have hkl : (ints L).length = k := by rw [ints_length, hk]
  rw [hk] at CF
  have HX := Lib.hid (OwnArr.made w 26 [.int .i64 n, .bool ring, .slice p (ints (tk n S)).length cap])
  obtain ⟨m, hm⟩ : ∃ m, (ints (tk n S)).length = m := ⟨_, rfl⟩
  rw [hm] at HX FR CF hb ⊢
  have HB := Lib.hid hb
  replace NB := Lib.hid (NB.out m)
  obtain ⟨b, hSb⟩ : ∃ b, S a = b := ⟨_, rfl⟩
  rw [hSb] at FR HV HV0
  replace FR := Lib.hid FR
  replace CF := Lib.hid CF
  replace hkl := Lib.hid hkl
  have HXd : Hid (OwnArr (w.alloc (.cells #[.int .i64 n, .bool ring, .slice p m cap] 26)).drew w.heap.size 26 [.int .i64 n, .bool ring, .slice p m cap]) := HX.out
  have HBd := Lib.hid HB.out.drew
  clear hb hin hlen h3 hm hL hVe hk hSb
  obtain ⟨c0, c1, c2, -⟩ := HX.out.three
  cases b with
  | true =>
    have hv := HV0 rfl
    subst hv
    have FR' := FR.out
    simp only [Bool.not_true] at FR'
    replace FR := Lib.hid FR'
    clear HV HV0 CF NB FR'
    go_enter Try.func79, Try.ntmps79
    go_wp2_with fail
    first | (go_region_with (first | (go_at_call 87; refine (FR.out _ HBd.out).mono ?_; rintro e w1 ⟨rfl, hb1⟩; have HB1 := Lib.hid (HBd.out.trans (hb1.mono HBd.out.size)); clear hb1))) | fail "region"
    all_goals
      go_wp2_with fail
      go_ret
      exact ⟨rfl, HB1.out⟩
  | false =>
    have hv := HV rfl
    obtain ⟨A, hA⟩ : ∃ A, L.any S = A := ⟨_, rfl⟩
    rw [hA] at hv CF
    subst hv
    have FR' := FR.out
    simp only [Bool.not_false] at FR'
    replace FR := Lib.hid FR'
    clear HV HV0 hA FR'
    go_enter Try.func79, Try.ntmps79
    go_wp2_with fail
    go_region_with (first
      | (go_at_call 87; refine (FR.out _ HBd.out).mono ?_; rintro e w1 ⟨rfl, hb1⟩; have HX1 := Lib.hid (HXd.out.below hb1 HXd.out.lt); have HB1 := Lib.hid (HBd.out.trans (hb1.mono HBd.out.size)); clear hb1 c0 c1 c2; obtain ⟨c0, c1, c2, -⟩ := HX1.out.three)
      | (go_at_call 102; refine (NB.out _).mono ?_; rintro e w2 ⟨v, rfl, hO, hb2⟩; obtain ⟨q, c, rfl, -, -, hR, -⟩ := hO.rd; rw [hkl.out]; have HR := Lib.hid hR; have HX2 := Lib.hid (HX1.out.below hb2 HX1.out.lt); have HB2 := Lib.hid (HB1.out.trans (hb2.mono HB1.out.size)); clear hO hR hb2 c0 c1 c2; obtain ⟨c0, c1, c2, -⟩ := HX2.out.three)
      | (go_at_call 101; refine (CF.out _ _ _ _ _ HB2.out HR.out).mono ?_; rintro e w3 ⟨rfl, hb3⟩; have HB3 := Lib.hid (HB2.out.trans (hb3.mono HB2.out.size)); clear hb3))
    all_goals
      go_wp2_with fail
      go_ret
      exact ⟨rfl, HB3.out⟩

set_option maxHeartbeats 800000 in
theorem lonelyI_ok (n : Nat) (ring : Bool) (p : Option Addr) (cap : Nat) (S : Nat → Bool) (w : World) (lo hi : Nat) (hin : Ri lo hi w p (ints (tk n S))) (h2 : 2 ≤ n) (hn : n ≤ 24) (h3 : ring = true → 3 ≤ n) :
    Calls Try.prog 90 #[rowV n ring p (ints (tk n S)).length cap] w fun e w' => ∃ v, e = .returned (.tuple #[v, .bool true]) ∧ Out w.heap.size w' v (ints (tk n (lonM n ring S))) ∧ Below w.heap.size w w' := by
  have hb := box_below w n ring p (ints (tk n S)).length cap 26
  have R := Lib.hid (seatsLon_any n ring p cap S (lonM n ring S) _ lo hi (hin.below hb hin.top) h2 hn h3 (fun k hk w'' hb' => isLonely_any n ring p cap S k w'' lo hi ((hin.below hb hin.top).bel hb') h2 hn h3 hk))
  have HB := Lib.hid hb
  clear hb hin
  obtain ⟨m, hm⟩ : ∃ m, (ints (tk n S)).length = m := ⟨_, rfl⟩
  rw [hm] at R HB ⊢
  go_enter Try.func90, Try.ntmps90
  go_wp2_with fail
  refine R.out.mono ?_
  rintro e w1 ⟨v, rfl, hO, hb1⟩
  have HO := Lib.hid (hO.mono (by have := HB.out.size; omega : w.heap.size ≤ _))
  clear hO
  go_wp2_with fail
  go_ret2
  exact ⟨v, rfl, HO.out, HB.out.trans (hb1.mono HB.out.size)⟩

set_option maxHeartbeats 800000 in
theorem lonelyI_no (s : Int) (ring : Bool) (p : Option Addr) (cap : Nat) (xs : List Int) (w : World) (lo hi : Nat) (hin : Ri lo hi w p xs) (hlen : xs.length ≤ 1048576) (hr : rowB s ring xs = false) :
    Calls Try.prog 90 #[rowV s ring p xs.length cap] w fun e w' => ∃ v, e = .returned (.tuple #[v, .bool false]) ∧ Out w.heap.size w' v [] ∧ Below w.heap.size w w' := by
  have hb := box_below w s ring p xs.length cap 26
  have R := Lib.hid (fun fv => seatsL_no s ring p cap xs fv _ lo hi (hin.below hb hin.top) hlen hr)
  have HB := Lib.hid hb
  clear hb hin hr
  go_enter Try.func90, Try.ntmps90
  go_wp2_with fail
  refine (R.out _).mono ?_
  rintro e w1 ⟨v, rfl, hO, hb1⟩
  have HO := Lib.hid (hO.mono (by have := HB.out.size; omega : w.heap.size ≤ _))
  clear hO
  go_wp2_with fail
  go_ret2
  exact ⟨v, rfl, HO.out, HB.out.trans (hb1.mono HB.out.size)⟩
end Go.Proofs.Ytidiljnonbkpjaa
