/- Chapter 7, spec side: spec.SwapGain, given spec.l7Start. -/
import Derived.Test.YtohnjdlhgcemjaaSwpM7
namespace Go.Proofs.Ytohnjdlhgcemjaa
open Go.RowKit

def swapB (n s : Int) (xs : List Int) (i : Int) : Bool := ask7 n s xs && (decide (0 ≤ i) && decide (i ≤ n - 2))
theorem ask_small {n s : Int} {xs : List Int} (h : ask7 n s xs = true) : -9223372036854775808 ≤ n - 2 ∧ n - 2 ≤ 9223372036854775807 := by
  obtain ⟨m, l, rfl, h1, h2, -⟩ := ask7_is h
  omega

set_option maxRecDepth 4000 in
set_option maxHeartbeats 2000000 in
theorem swapS_bad (n s : Int) (p : Option Addr) (cap : Nat) (xs : List Int) (i : Int) (w : World) (lo hi : Nat) (hin : Ri lo hi w p xs) (hcap : xs.length ≤ cap) (hcm : cap ≤ maxLen) (hlen : xs.length ≤ 1048576) (h : swapB n s xs i = false) :
    Calls Try.prog 23 #[.int .i64 n, .int .i64 s, .slice p xs.length cap, .int .i64 i] w fun e w' => e = .returned (.tuple #[.int .i64 0, .bool false]) ∧ Below w.heap.size w w' := by
  have A := l7Ask_any n s p cap xs w lo hi hin hcap hcm hlen
  obtain ⟨m, hm⟩ : ∃ m, xs.length = m := ⟨_, rfl⟩
  rw [hm] at A ⊢
  unfold swapB at h
  cases ha : ask7 n s xs with
  | false =>
    rw [ha] at A
    replace A := Lib.hid A
    clear hin h hm ha
    go_enter Try.func23, Try.ntmps23
    go_wp2_with fail
    refine A.out.mono ?_
    rintro e w1 ⟨rfl, hb⟩
    go_wp2_with fail
    go_ret2
    exact ⟨rfl, hb⟩
  | true =>
    rw [ha] at A
    rw [ha, Bool.true_and] at h
    have hw : IntKind.i64.wrap (n - 2) = n - 2 := IntWalk.i64_in _ (ask_small ha)
    have IN := fun w' => l1In_any i 0 (n - 2) w'
    rw [h] at IN
    replace A := Lib.hid A
    replace IN := Lib.hid IN
    clear hin h hm ha
    go_enter Try.func23, Try.ntmps23
    go_wp2_with fail
    refine A.out.mono ?_
    rintro e w1 ⟨rfl, hb⟩
    go_wp2_with fail
    refine (IN.out _).mono ?_
    rintro e w2 ⟨rfl, rfl⟩
    go_wp2_with fail
    go_ret2
    exact ⟨rfl, hb⟩

set_option maxRecDepth 4000 in
set_option maxHeartbeats 4000000 in
theorem swapS_any (ST : Start7) (n : Nat) (s : Int) (p : Option Addr) (cap : Nat) (l : List Nat) (i U V : Nat) (w : World) (lo hi : Nat) (hin : Ri lo hi w p (ints l)) (hcap : n ≤ cap) (hcm : cap ≤ maxLen) (hn1 : 1 ≤ n) (hn : n ≤ 10) (hs1 : 1 ≤ s) (hs : s ≤ 5) (hl : ∀ x ∈ l, x < n) (ha : ∀ r, r < n → r ∈ l) (hll : l.length = n) (h : ask7 n s (ints l) = true) (hi' : i + 1 < n)
    (hnd : ∀ j k, j < n → k < n → j ≠ k → lrow l j ≠ lrow l k) (hU : runs7 n s (-1) l U) (hV : runs7 n s (-1) (swapM l i) V) :
    Calls Try.prog 23 #[.int .i64 (n : Nat), .int .i64 s, .slice p n cap, .int .i64 (i : Nat)] w fun e w' => e = .returned (.tuple #[.int .i64 ((U : Int) - (V : Int)), .bool true]) ∧ Below w.heap.size w w' := by
  have A := l7Ask_any n s p cap (ints l) w lo hi hin (by rw [ints_length]; omega) hcm (by rw [ints_length]; omega)
  rw [h, ints_length, hll] at A
  have IN := fun w' => l1In_any (i : Int) 0 ((n : Int) - 2) w'
  rw [show (decide (0 ≤ (i : Int)) && decide ((i : Int) ≤ (n : Int) - 2)) = true by simp; omega] at IN
  obtain ⟨k1, k2, k3, k4⟩ := swap_ok hll hi' hl ha hnd
  have T1 := Lib.hid (fun (w' : World) (h' : Below w.heap.size w w') => time_is hn1 hs1 hl hU ▸ l7Time_any ST n s p cap l U w' lo hi (hin.below h' hin.top) hn1 hn hs1 hs hl hll hU)
  have T2 := Lib.hid (fun (w' : World) (g c : Nat) (h' : Wr w' g (swapM l i)) => time_is hn1 hs1 k2 hV ▸ l7Time_any ST n s (some ⟨g, 0, none⟩) c (swapM l i) V w' 0 w'.heap.size h'.rd hn1 hn hs1 hs k2 k1 hV)
  have O := Lib.hid (fun (w' : World) (h' : Below w.heap.size w w') => l1Own_any p cap (ints l) w' lo hi (hin.below h' hin.top) (by rw [ints_length]; omega))
  have HI := Lib.hid (fun (w' : World) (h' : Below w.heap.size w w') => hin.below h' hin.top)
  have hUV1 := hU.few
  have hUV2 := hV.few
  have hw : IntKind.i64.wrap ((n : Int) - 2) = (n : Int) - 2 := IntWalk.i64_in _ (by omega)
  have hw2 : IntKind.i64.wrap ((U : Int) - (V : Int)) = (U : Int) - (V : Int) := IntWalk.i64_in _ (by omega)
  have hi0 : (0 : Int) ≤ (i : Int) := by omega
  have hi1 : (i : Int) < (n : Int) := by omega
  have hi2 : (0 : Int) ≤ (i : Int) + 1 := by omega
  have hi3 : (i : Int) + 1 < (n : Int) := by omega
  have HLL := Lib.hid hll
  replace A := Lib.hid A
  replace IN := Lib.hid IN
  clear hin h hU hV hl ha hnd ST k1 k2 k3 k4 hll
  go_enter Try.func23, Try.ntmps23
  go_wp2_with fail
  refine A.out.mono ?_
  rintro e w1 ⟨rfl, hb⟩
  go_wp2_with fail
  refine (IN.out _).mono ?_
  rintro e w2 ⟨rfl, rfl⟩
  have OC := O.out w1 hb
  rw [ints_length, HLL.out] at OC
  go_wp2_with fail
  refine OC.mono ?_
  rintro e w2 ⟨g, c, rfl, hg, hc1, hc2, hO, hb2⟩
  have hbw := hb.trans (hb2.mono hb.size)
  have hbs := hb.size
  have hrd := HI.out w2 hbw
  obtain ⟨bq, off, rfl, -, -, hlt, hcc⟩ := hrd.int (by rw [ints_length, HLL.out]; omega)
  have q0 := hcc i (by rw [ints_length, HLL.out]; omega)
  have q1 := hcc (i + 1) (by rw [ints_length, HLL.out]; omega)
  rw [ints_get (by rw [HLL.out]; omega)] at q0 q1
  have hwr := Wr.of_out HLL.out hO (by omega)
  have hbq : bq ≠ g := by
    have h0 := (HI.out w1 hb).int (by rw [ints_length, HLL.out]; omega)
    obtain ⟨b2, off2, e2, -, -, hlt2, -⟩ := h0
    simp only [Option.some.injEq, Addr.mk.injEq, and_true] at e2
    omega
  have q1b : w2.cell? ⟨bq, off + ((i : Int) + 1).toNat, none⟩ = some (.int .i64 ((l[i + 1]?.getD 0 : Nat) : Int)) := by rw [show ((i : Int) + 1).toNat = i + 1 by omega]; exact q1
  have fg := hwr.free i
  have yg := hwr.cell (j := i) (by rw [HLL.out]; omega)
  have q0b : (w2.setCell ⟨g, i, none⟩ (.int .i64 (lrow l (i + 1) : Nat))).cell? ⟨bq, off + i, none⟩ = some (.int .i64 ((l[i]?.getD 0 : Nat) : Int)) := by
    rw [← q0]; exact World.cell?_of_block (w := w2) (Below.heap_setCell _ _ _ _ hbq)
  have fg2 := (hwr.set i (lrow l (i + 1))).free (i + 1)
  have yg2 := (hwr.set i (lrow l (i + 1))).cell (j := i + 1) (by rw [List.length_set, HLL.out]; omega)
  have hsw := hwr.swap i
  have hb4 : Below w.heap.size w ((w2.setCell ⟨g, i, none⟩ (.int .i64 (lrow l (i + 1) : Nat))).setCell ⟨g, i + 1, none⟩ (.int .i64 (lrow l i : Nat))) := (hbw.setCell (p := ⟨g, i, none⟩) (by show w.heap.size ≤ g; omega) _).setCell (p := ⟨g, i + 1, none⟩) (by show w.heap.size ≤ g; omega) _
  obtain ⟨X, hX⟩ : ∃ X, lrow l (i + 1) = X := ⟨_, rfl⟩
  obtain ⟨Y, hY⟩ : ∃ Y, lrow l i = Y := ⟨_, rfl⟩
  have hX' : l[i + 1]?.getD 0 = X := hX
  have hY' : l[i]?.getD 0 = Y := hY
  rw [hX'] at q1 q1b
  rw [hY'] at q0 q0b
  rw [hX] at q0b fg2 yg2 hsw hb4
  rw [hY] at yg hsw hb4
  obtain ⟨w4, hw4⟩ : ∃ w4, (w2.setCell ⟨g, i, none⟩ (.int .i64 (X : Nat))).setCell ⟨g, i + 1, none⟩ (.int .i64 (Y : Nat)) = w4 := ⟨_, rfl⟩
  rw [hw4] at hsw hb4
  have HW4 := Lib.hid hw4
  have HSW := Lib.hid hsw
  have HB4 := Lib.hid hb4
  have hz : ((i : Int) + 1).toNat = i + 1 := by omega
  clear hw4 hsw hb4 hbw hbs hrd hcc hO hb2 hwr hX hY hX' hY' OC O
  go_upto_region 6 with fail
  rw [HW4.out]
  go_wp2_with fail
  refine (T1.out _ HB4.out).mono ?_
  rintro e w5 ⟨rfl, hb5⟩
  have HSW5 := Lib.hid (HSW.out.below hb5)
  have HB5 := Lib.hid (HB4.out.trans (hb5.mono HB4.out.size))
  clear hb5
  go_wp2_with fail
  refine (T2.out _ g c HSW5.out).mono ?_
  rintro e w6 ⟨rfl, hb6⟩
  have HB6 := Lib.hid (HB5.out.trans (hb6.mono HB5.out.size))
  clear hb6
  go_wp2_with fail
  go_ret2
  exact ⟨rfl, HB6.out⟩
end Go.Proofs.Ytohnjdlhgcemjaa
