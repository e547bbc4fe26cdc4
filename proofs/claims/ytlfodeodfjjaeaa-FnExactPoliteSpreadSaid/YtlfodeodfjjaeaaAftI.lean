/- spec.l3Ask and impl.AfterPolite, for every Row and all numbers of newcomers. -/
import Derived.Test.YtlfodeodfjjaeaaAfter
namespace Go.Proofs.Ytlfodeodfjjaeaa
open Go.RowKit

/-- so many newcomers find a seat -/
def askB (s : Int) (ring : Bool) (xs : List Int) (k : Int) : Bool := rowB s ring xs && (decide (0 ≤ k) && decide (k ≤ s - (xs.length : Int)))

set_option maxHeartbeats 800000 in
theorem ask_any (s : Int) (ring : Bool) (p : Option Addr) (cap : Nat) (xs : List Int) (k : Int) (w : World) (lo hi : Nat) (hin : Ri lo hi w p xs) (hlen : xs.length ≤ 1048576) :
    Calls Try.prog 43 #[rowV s ring p xs.length cap, .int .i64 k] w fun e w' => e = .returned (.bool (askB s ring xs k)) ∧ Below w.heap.size w w' := by
  have hb := box_below w s ring p xs.length cap 26
  have I := Lib.hid (l2Row_any s ring p cap xs _ lo hi (hin.bel hb) hlen)
  have HX := Lib.hid (OwnArr.made w 26 [.int .i64 s, .bool ring, .slice p xs.length cap])
  have HB := Lib.hid hb
  unfold askB
  cases h : rowB s ring xs with
  | false =>
    rw [h] at I
    clear hb hin h HX
    go_enter Try.func43, Try.ntmps43
    go_wp2_with fail
    refine I.out.mono ?_
    rintro e w1 ⟨rfl, hb1⟩
    go_wp2_with fail
    go_ret
    exact ⟨by simp, HB.out.trans (hb1.mono HB.out.size)⟩
  | true =>
    rw [h] at I
    obtain ⟨n, S, rfl, rfl, h2, hn, h3⟩ := rowB_is h
    have hl := ints_tk_len n S
    obtain ⟨m, hm⟩ : ∃ m, (ints (tk n S)).length = m := ⟨_, rfl⟩
    rw [hm] at I HX HB hl ⊢
    have hw : IntKind.i64.wrap ((n : Int) - (m : Int)) = (n : Int) - (m : Int) := IntWalk.i64_in _ (by omega)
    obtain ⟨B, hB⟩ : ∃ B, (decide (0 ≤ k) && decide (k ≤ (n : Int) - (m : Int))) = B := ⟨_, rfl⟩
    have IN := Lib.hid (fun w' => l1In_any k 0 ((n : Int) - (m : Int)) w')
    rw [hB] at IN ⊢
    clear hb hin h hm hB h3 hl
    go_enter Try.func43, Try.ntmps43
    go_wp2_with fail
    refine I.out.mono ?_
    rintro e w1 ⟨rfl, hb1⟩
    have HX1 := Lib.hid (HX.out.below hb1 HX.out.lt)
    have HB1 := Lib.hid (HB.out.trans (hb1.mono HB.out.size))
    obtain ⟨c0, c1, c2, -⟩ := HX1.out.three
    clear HX HB hb1 I
    go_wp2_with fail
    refine (IN.out _).mono ?_
    rintro e w2 ⟨rfl, rfl⟩
    cases B <;> (go_wp2_with fail; go_ret; exact ⟨by simp, HB1.out⟩)

set_option maxHeartbeats 1000000 in
theorem aftI_bad (s : Int) (ring : Bool) (p : Option Addr) (cap : Nat) (xs : List Int) (k : Int) (w : World) (lo hi : Nat) (hin : Ri lo hi w p xs) (hlen : xs.length ≤ 1048576) (h : askB s ring xs k = false) :
    Calls Try.prog 46 #[rowV s ring p xs.length cap, .int .i64 k] w (MadeRow w 0 false [] false) := by
  have hE := Beg.start w s ring p xs.length cap
  have I := isRow_any s ring p cap xs _ lo hi (hin.below hE.bel hin.top) hlen
  have HE := Lib.hid hE
  replace I := Lib.hid I
  unfold askB at h
  unfold MadeRow
  cases hr : rowB s ring xs with
  | false =>
    rw [hr] at I
    clear hE hin h hr
    go_enter Try.func46, Try.ntmps46
    go_wp2_with fail
    refine I.out.mono ?_
    rintro e w1 ⟨rfl, hb1⟩
    have HE1 := Lib.hid (HE.out.next hb1)
    obtain ⟨z0, z1, z2, y0, y1, y2⟩ := HE1.out.res.three
    clear HE hb1 I
    go_wp2_with fail
    exact ret_row2 Try.results46 rfl rfl (HE1.out.out _ _ _).1 rfl ⟨_, rfl, Out.none _ _, (HE1.out.out _ _ _).2⟩
  | true =>
    rw [hr] at I h
    obtain ⟨n, S, rfl, rfl, h2, hn, h3⟩ := rowB_is hr
    have hl := ints_tk_len n S
    obtain ⟨m, hm⟩ : ∃ m, (ints (tk n S)).length = m := ⟨_, rfl⟩
    rw [hm] at I HE h hl ⊢
    have hw : IntKind.i64.wrap ((n : Int) - (m : Int)) = (n : Int) - (m : Int) := IntWalk.i64_in _ (by omega)
    by_cases hk0 : k < 0
    · clear hE hin hr hm h3 hl h
      go_enter Try.func46, Try.ntmps46
      go_wp2_with fail
      refine I.out.mono ?_
      rintro e w1 ⟨rfl, hb1⟩
      have HE1 := Lib.hid (HE.out.next hb1)
      obtain ⟨z0, z1, z2, y0, y1, y2⟩ := HE1.out.res.three
      clear HE hb1 I
      go_wp2_with fail
      exact ret_row2 Try.results46 rfl rfl (HE1.out.out _ _ _).1 rfl ⟨_, rfl, Out.none _ _, (HE1.out.out _ _ _).2⟩
    · have hI : (n : Int) - (m : Int) < k := by
        simp at h
        have := h (by omega)
        omega
      clear hE hin hr hm h3 hl h
      go_enter Try.func46, Try.ntmps46
      go_wp2_with fail
      refine I.out.mono ?_
      rintro e w1 ⟨rfl, hb1⟩
      have HE1 := Lib.hid (HE.out.next hb1)
      obtain ⟨z0, z1, z2, y0, y1, y2⟩ := HE1.out.res.three
      obtain ⟨c0, c1, c2, -⟩ := HE1.out.row.three
      clear HE hb1 I
      go_wp2_with fail
      exact ret_row2 Try.results46 rfl rfl (HE1.out.out _ _ _).1 rfl ⟨_, rfl, Out.none _ _, (HE1.out.out _ _ _).2⟩

set_option maxHeartbeats 1000000 in
theorem aftI_any (n : Nat) (ring : Bool) (p : Option Addr) (cap : Nat) (S : Nat → Bool) (k : Nat) (w : World) (lo hi : Nat) (hin : Ri lo hi w p (ints (tk n S))) (h2 : 2 ≤ n) (hn : n ≤ 24) (h3 : ring = true → 3 ≤ n) (hk : k + (tk n S).length ≤ n) :
    Calls Try.prog 46 #[rowV n ring p (ints (tk n S)).length cap, .int .i64 k] w (MadeRow w n ring (ints (tk n (aftM n ring 0 k S))) true) := by
  have hlen := ints_tk_len n S
  have hE := Beg.start w n ring p (ints (tk n S)).length cap
  have I := isRow_any n ring p cap (ints (tk n S)) _ lo hi (hin.below hE.bel hin.top) (by omega)
  rw [rowB_of h2 hn h3] at I
  have WE := Lib.hid (fun (w' : World) (h' : Below w.heap.size w w') => welcome_any n ring p cap S k 0 w' lo hi (hin.below h' hin.top) h2 hn h3 (by omega) (by omega))
  rw [← ints_length] at hk
  obtain ⟨L, hL⟩ : ∃ L, ints (tk n (aftM n ring 0 k S)) = L := ⟨_, rfl⟩
  rw [hL] at WE ⊢
  obtain ⟨m, hm⟩ : ∃ m, (ints (tk n S)).length = m := ⟨_, rfl⟩
  rw [hm] at I WE hE hk hlen ⊢
  have hw : IntKind.i64.wrap ((n : Int) - (m : Int)) = (n : Int) - (m : Int) := IntWalk.i64_in _ (by omega)
  have hk0 : ¬ (k : Int) < 0 := by omega
  have hk1 : ¬ (n : Int) - (m : Int) < (k : Int) := by omega
  have HE := Lib.hid hE
  replace I := Lib.hid I
  clear hE hin hlen hL hm h3 hk
  unfold MadeRow
  go_enter Try.func46, Try.ntmps46
  go_wp2_with fail
  refine I.out.mono ?_
  rintro e w1 ⟨rfl, hb1⟩
  have HE1 := Lib.hid (HE.out.next hb1)
  obtain ⟨c0, c1, c2, -⟩ := HE1.out.row.three
  clear HE hb1 I
  go_wp2_with fail
  refine (WE.out _ HE1.out.bel).mono ?_
  rintro e w2 ⟨v, u, rfl, -, hO, hb2⟩
  obtain ⟨q, qc, rfl, -⟩ := hO.rd
  have HE2 := HE1.out.next hb2
  obtain ⟨l, hl⟩ : ∃ l, L.length = l := ⟨_, rfl⟩
  rw [hl] at hO ⊢
  have HE3 := Lib.hid (HE2.next ((Below.refl _ w2).alloc (Nat.le_refl _) (.cells #[.int .i64 n, .bool ring, .slice q l qc] 26)))
  have HO : Hid (Out w.heap.size (w2.alloc (.cells #[.int .i64 n, .bool ring, .slice q l qc] 26)) (.slice q l qc) L) := World.ownsRow.alloc (hO.mono HE1.out.bel.size) _
  clear hO hb2 HE1 c0 c1 c2 WE HE2 hw hk0 hk1 hl
  obtain ⟨z0, z1, z2, y0, y1, y2⟩ := HE3.out.res.three
  go_wp2_with fail
  exact ret_row2 Try.results46 rfl rfl (HE3.out.out _ _ _).1 rfl ⟨_, rfl, HO.out.boxed HE3.out.res _ _ _, (HE3.out.out _ _ _).2⟩
end Go.Proofs.Ytlfodeodfjjaeaa
