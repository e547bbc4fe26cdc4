/- spec.BestStart, spec.WorstStart, impl.BestStart and impl.WorstStart, for all numbers of seats. -/
import Derived.Test.YtfpndbekinibhaaBest
namespace Go.Proofs.Ytfpndbekinibhaa
open Go.RowKit

set_option maxHeartbeats 800000 in
theorem bestS_bad (s : Int) (ring : Bool) (w : World) (hr : rowB s ring [] = false) :
    Calls Try.prog 7 #[.int .i64 s, .bool ring] w fun e w' => e = .returned (.tuple #[.int .i64 0, .int .i64 0, .bool false]) ∧ Below w.heap.size w w' := by
  have I := Lib.hid (bareS_any s ring w)
  rw [hr] at I
  clear hr
  go_enter Try.func7, Try.ntmps7
  go_wp2_with fail
  refine I.out.mono ?_
  rintro e w1 ⟨rfl, hb1⟩
  have HB1 := Lib.hid hb1
  clear hb1
  go_wp2_with fail
  go_ret3
  exact ⟨rfl, HB1.out⟩

set_option maxHeartbeats 800000 in
theorem bestS_ok (n : Nat) (ring : Bool) (w : World) (h2 : 2 ≤ n) (hn : n ≤ 24) (hr : rowB n ring [] = true) :
    Calls Try.prog 7 #[.int .i64 n, .bool ring] w fun e w' => e = .returned (.tuple #[.int .i64 (bestM (fun i => 1 * ((cntM n ring i : Nat) : Int)) (n - 1) : Nat), .int .i64 ((cntM n ring (bestM (fun i => 1 * ((cntM n ring i : Nat) : Int)) (n - 1)) : Nat) : Int), .bool true]) ∧ Below w.heap.size w w' := by
  have I := Lib.hid (bareS_any n ring w)
  rw [hr] at I
  have C := Lib.hid (fun w' => startS_any n ring 1 (.inl rfl) w' h2 hn)
  obtain ⟨b, hb⟩ : ∃ b, bestM (fun i => 1 * ((cntM n ring i : Nat) : Int)) (n - 1) = b := ⟨_, rfl⟩
  rw [hb] at C ⊢
  obtain ⟨c, hc⟩ : ∃ c, cntM n ring b = c := ⟨_, rfl⟩
  rw [hc] at C ⊢
  clear hr h2 hn hb hc
  go_enter Try.func7, Try.ntmps7
  go_wp2_with fail
  refine I.out.mono ?_
  rintro e w1 ⟨rfl, hb1⟩
  have HB1 := Lib.hid hb1
  clear hb1
  go_wp2_with fail
  refine (C.out _).mono ?_
  rintro e w2 ⟨rfl, hb2⟩
  have HB2 := Lib.hid (HB1.out.trans (hb2.mono HB1.out.size))
  clear hb2
  go_wp2_with fail
  go_ret3
  exact ⟨rfl, HB2.out⟩

set_option maxHeartbeats 800000 in
theorem bestI_bad (s : Int) (ring : Bool) (w : World) (hr : rowB s ring [] = false) :
    Calls Try.prog 8 #[.int .i64 s, .bool ring] w fun e w' => e = .returned (.tuple #[.int .i64 0, .int .i64 0, .bool false]) ∧ Below w.heap.size w w' := by
  have I := Lib.hid (countsI_bad s ring w hr)
  clear hr
  go_enter Try.func8, Try.ntmps8
  go_wp2_with fail
  refine I.out.mono ?_
  rintro e w1 ⟨v, rfl, hO, hb1⟩
  have HB1 := Lib.hid hb1
  clear hb1 hO
  go_wp2_with fail
  go_ret3
  exact ⟨rfl, HB1.out⟩

set_option maxHeartbeats 800000 in
theorem bestI_ok (n : Nat) (ring : Bool) (w : World) (h2 : 2 ≤ n) (hn : n ≤ 24) (h3 : ring = true → 3 ≤ n) (hr : rowB n ring [] = true) :
    Calls Try.prog 8 #[.int .i64 n, .bool ring] w fun e w' => e = .returned (.tuple #[.int .i64 (bestM (fun i => 1 * ((cntM n ring i : Nat) : Int)) (n - 1) : Nat), .int .i64 ((cntM n ring (bestM (fun i => 1 * ((cntM n ring i : Nat) : Int)) (n - 1)) : Nat) : Int), .bool true]) ∧ Below w.heap.size w w' := by
  have I := Lib.hid (countsI_any n ring w h2 hn h3 hr)
  obtain ⟨L, hL⟩ : ∃ L, cntL n ring n = L := ⟨_, rfl⟩
  have hlen : L.length = n := by rw [← hL, cntL_len]
  have hat : ∀ i, i < n → atI L i = ((cntM n ring i : Nat) : Int) := by intro i hi; rw [← hL]; exact cntL_at hi
  rw [hL] at I
  have e1 : bestM (atI L) (n - 1) = bestM (fun i => 1 * ((cntM n ring i : Nat) : Int)) (n - 1) := bestM_congr _ fun i hi => by rw [hat i (by omega)]; show _ = 1 * _; omega
  have hbl := bestM_le (atI L) (n - 1)
  have hfirst := bestM_first (atI L) (n - 1)
  have hval := hat (bestM (atI L) (n - 1)) (by omega)
  obtain ⟨N, hN⟩ : ∃ N, n - 1 = N := ⟨_, rfl⟩
  have hnN : N + 1 = n := by omega
  rw [hN] at e1 hbl hfirst hval ⊢
  rw [← e1]
  have MX := fun (q : Option Addr) (c : Nat) (w' : World) (l h : Nat) (hq : Ri l h w' q L) => max_any q c L N (by omega) (by omega) w' l h hq
  have IX := fun (q : Option Addr) (c : Nat) (w' : World) (l h : Nat) (hq : Ri l h w' q L) => indexAt_any q c L (atI L (bestM (atI L) N)) w' l h hq (by omega) (bestM (atI L) N) (by omega) rfl (fun i hi => by have := hfirst i hi; omega)
  obtain ⟨b, hb⟩ : ∃ b, bestM (atI L) N = b := ⟨_, rfl⟩
  rw [hb] at MX IX hval ⊢
  rw [hval] at MX IX
  obtain ⟨c, hc⟩ : ∃ c, cntM n ring b = c := ⟨_, rfl⟩
  rw [hc] at MX IX ⊢
  rw [hlen] at IX
  rw [hnN] at MX
  replace MX := Lib.hid MX
  replace IX := Lib.hid IX
  replace hlen := Lib.hid hlen
  clear h2 hn h3 hr hL hat e1 hbl hfirst hval hN hnN hb hc
  go_enter Try.func8, Try.ntmps8
  go_wp2_with fail
  refine I.out.mono ?_
  rintro e w1 ⟨v, rfl, hO, hb1⟩
  obtain ⟨q, cp, rfl, -, -, hR, -⟩ := hO.rd
  rw [hlen.out]
  have HR := Lib.hid hR
  have HB1 := Lib.hid hb1
  clear hb1 hO hR I
  go_wp2_with fail
  refine (MX.out _ _ _ _ _ HR.out).mono ?_
  rintro e w2 ⟨rfl, rfl⟩
  go_wp2_with fail
  refine (IX.out _ _ _ _ _ HR.out).mono ?_
  rintro e w3 ⟨rfl, rfl⟩
  go_wp2_with fail
  go_ret3
  exact ⟨rfl, HB1.out⟩

theorem bestStart_both (s : Int) (ring : Bool) : ∃ (X Y : Int) (B : Bool),
    (∀ (w : World), Calls Try.prog 7 #[.int .i64 s, .bool ring] w fun e w' => e = .returned (.tuple #[.int .i64 X, .int .i64 Y, .bool B]) ∧ Below w.heap.size w w') ∧
    (∀ (w : World), Calls Try.prog 8 #[.int .i64 s, .bool ring] w fun e w' => e = .returned (.tuple #[.int .i64 X, .int .i64 Y, .bool B]) ∧ Below w.heap.size w w') := by
  cases h : rowB s ring [] with
  | true =>
    have h' := h
    obtain ⟨n, S, rfl, -, h2, hn, h3⟩ := rowB_is h
    exact ⟨_, _, true, fun w => bestS_ok n ring w h2 hn h', fun w => bestI_ok n ring w h2 hn h3 h'⟩
  | false =>
    exact ⟨0, 0, false, fun w => bestS_bad s ring w h, fun w => bestI_bad s ring w h⟩
set_option maxHeartbeats 800000 in
theorem worstS_bad (s : Int) (ring : Bool) (w : World) (hr : rowB s ring [] = false) :
    Calls Try.prog 9 #[.int .i64 s, .bool ring] w fun e w' => e = .returned (.tuple #[.int .i64 0, .int .i64 0, .bool false]) ∧ Below w.heap.size w w' := by
  have I := Lib.hid (bareS_any s ring w)
  rw [hr] at I
  clear hr
  go_enter Try.func9, Try.ntmps9
  go_wp2_with fail
  refine I.out.mono ?_
  rintro e w1 ⟨rfl, hb1⟩
  have HB1 := Lib.hid hb1
  clear hb1
  go_wp2_with fail
  go_ret3
  exact ⟨rfl, HB1.out⟩

set_option maxHeartbeats 800000 in
theorem worstS_ok (n : Nat) (ring : Bool) (w : World) (h2 : 2 ≤ n) (hn : n ≤ 24) (hr : rowB n ring [] = true) :
    Calls Try.prog 9 #[.int .i64 n, .bool ring] w fun e w' => e = .returned (.tuple #[.int .i64 (bestM (fun i => -1 * ((cntM n ring i : Nat) : Int)) (n - 1) : Nat), .int .i64 ((cntM n ring (bestM (fun i => -1 * ((cntM n ring i : Nat) : Int)) (n - 1)) : Nat) : Int), .bool true]) ∧ Below w.heap.size w w' := by
  have I := Lib.hid (bareS_any n ring w)
  rw [hr] at I
  have C := Lib.hid (fun w' => startS_any n ring (-1) (.inr rfl) w' h2 hn)
  obtain ⟨b, hb⟩ : ∃ b, bestM (fun i => -1 * ((cntM n ring i : Nat) : Int)) (n - 1) = b := ⟨_, rfl⟩
  rw [hb] at C ⊢
  obtain ⟨c, hc⟩ : ∃ c, cntM n ring b = c := ⟨_, rfl⟩
  rw [hc] at C ⊢
  clear hr h2 hn hb hc
  go_enter Try.func9, Try.ntmps9
  go_wp2_with fail
  refine I.out.mono ?_
  rintro e w1 ⟨rfl, hb1⟩
  have HB1 := Lib.hid hb1
  clear hb1
  go_wp2_with fail
  refine (C.out _).mono ?_
  rintro e w2 ⟨rfl, hb2⟩
  have HB2 := Lib.hid (HB1.out.trans (hb2.mono HB1.out.size))
  clear hb2
  go_wp2_with fail
  go_ret3
  exact ⟨rfl, HB2.out⟩

set_option maxHeartbeats 800000 in
theorem worstI_bad (s : Int) (ring : Bool) (w : World) (hr : rowB s ring [] = false) :
    Calls Try.prog 10 #[.int .i64 s, .bool ring] w fun e w' => e = .returned (.tuple #[.int .i64 0, .int .i64 0, .bool false]) ∧ Below w.heap.size w w' := by
  have I := Lib.hid (countsI_bad s ring w hr)
  clear hr
  go_enter Try.func10, Try.ntmps10
  go_wp2_with fail
  refine I.out.mono ?_
  rintro e w1 ⟨v, rfl, hO, hb1⟩
  have HB1 := Lib.hid hb1
  clear hb1 hO
  go_wp2_with fail
  go_ret3
  exact ⟨rfl, HB1.out⟩

set_option maxHeartbeats 800000 in
theorem worstI_ok (n : Nat) (ring : Bool) (w : World) (h2 : 2 ≤ n) (hn : n ≤ 24) (h3 : ring = true → 3 ≤ n) (hr : rowB n ring [] = true) :
    Calls Try.prog 10 #[.int .i64 n, .bool ring] w fun e w' => e = .returned (.tuple #[.int .i64 (bestM (fun i => -1 * ((cntM n ring i : Nat) : Int)) (n - 1) : Nat), .int .i64 ((cntM n ring (bestM (fun i => -1 * ((cntM n ring i : Nat) : Int)) (n - 1)) : Nat) : Int), .bool true]) ∧ Below w.heap.size w w' := by
  have I := Lib.hid (countsI_any n ring w h2 hn h3 hr)
  obtain ⟨L, hL⟩ : ∃ L, cntL n ring n = L := ⟨_, rfl⟩
  have hlen : L.length = n := by rw [← hL, cntL_len]
  have hat : ∀ i, i < n → atI L i = ((cntM n ring i : Nat) : Int) := by intro i hi; rw [← hL]; exact cntL_at hi
  rw [hL] at I
  have e1 : bestM (fun i => - atI L i) (n - 1) = bestM (fun i => -1 * ((cntM n ring i : Nat) : Int)) (n - 1) := bestM_congr _ fun i hi => by show - atI L i = -1 * _; rw [hat i (by omega)]; omega
  have hbl := bestM_le (fun i => - atI L i) (n - 1)
  have hfirst := bestM_first (fun i => - atI L i) (n - 1)
  have hval := hat (bestM (fun i => - atI L i) (n - 1)) (by omega)
  obtain ⟨N, hN⟩ : ∃ N, n - 1 = N := ⟨_, rfl⟩
  have hnN : N + 1 = n := by omega
  rw [hN] at e1 hbl hfirst hval ⊢
  rw [← e1]
  have MX := fun (q : Option Addr) (c : Nat) (w' : World) (l h : Nat) (hq : Ri l h w' q L) => min_any q c L N (by omega) (by omega) w' l h hq
  have IX := fun (q : Option Addr) (c : Nat) (w' : World) (l h : Nat) (hq : Ri l h w' q L) => indexAt_any q c L (atI L (bestM (fun i => - atI L i) N)) w' l h hq (by omega) (bestM (fun i => - atI L i) N) (by omega) rfl (fun i hi => by have := hfirst i hi; omega)
  obtain ⟨b, hb⟩ : ∃ b, bestM (fun i => - atI L i) N = b := ⟨_, rfl⟩
  rw [hb] at MX IX hval ⊢
  rw [hval] at MX IX
  obtain ⟨c, hc⟩ : ∃ c, cntM n ring b = c := ⟨_, rfl⟩
  rw [hc] at MX IX ⊢
  rw [hlen] at IX
  rw [hnN] at MX
  replace MX := Lib.hid MX
  replace IX := Lib.hid IX
  replace hlen := Lib.hid hlen
  clear h2 hn h3 hr hL hat e1 hbl hfirst hval hN hnN hb hc
  go_enter Try.func10, Try.ntmps10
  go_wp2_with fail
  refine I.out.mono ?_
  rintro e w1 ⟨v, rfl, hO, hb1⟩
  obtain ⟨q, cp, rfl, -, -, hR, -⟩ := hO.rd
  rw [hlen.out]
  have HR := Lib.hid hR
  have HB1 := Lib.hid hb1
  clear hb1 hO hR I
  go_wp2_with fail
  refine (MX.out _ _ _ _ _ HR.out).mono ?_
  rintro e w2 ⟨rfl, rfl⟩
  go_wp2_with fail
  refine (IX.out _ _ _ _ _ HR.out).mono ?_
  rintro e w3 ⟨rfl, rfl⟩
  go_wp2_with fail
  go_ret3
  exact ⟨rfl, HB1.out⟩

theorem worstStart_both (s : Int) (ring : Bool) : ∃ (X Y : Int) (B : Bool),
    (∀ (w : World), Calls Try.prog 9 #[.int .i64 s, .bool ring] w fun e w' => e = .returned (.tuple #[.int .i64 X, .int .i64 Y, .bool B]) ∧ Below w.heap.size w w') ∧
    (∀ (w : World), Calls Try.prog 10 #[.int .i64 s, .bool ring] w fun e w' => e = .returned (.tuple #[.int .i64 X, .int .i64 Y, .bool B]) ∧ Below w.heap.size w w') := by
  cases h : rowB s ring [] with
  | true =>
    have h' := h
    obtain ⟨n, S, rfl, -, h2, hn, h3⟩ := rowB_is h
    exact ⟨_, _, true, fun w => worstS_ok n ring w h2 hn h', fun w => worstI_ok n ring w h2 hn h3 h'⟩
  | false =>
    exact ⟨0, 0, false, fun w => worstS_bad s ring w h, fun w => worstI_bad s ring w h⟩
end Go.Proofs.Ytfpndbekinibhaa
