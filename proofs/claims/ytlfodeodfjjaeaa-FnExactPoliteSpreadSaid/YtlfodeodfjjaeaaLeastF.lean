/- spec.l3Least and impl.LeastGap. -/
import Derived.Test.YtlfodeodfjjaeaaLeastM
import Derived.Test.YtlfodeodfjjaeaaGap
import Derived.Test.YtlfodeodfjjaeaaRowI
import Derived.StillTailTactics
import Derived.Deep.RegionHeld3
import Derived.Test.YtlfodeodfjjaeaaOut
namespace Go.Proofs.Ytlfodeodfjjaeaa
open Go.RowKit

theorem least_two (x y : Nat) (w : World) : Calls Try.prog 59 #[.int .i64 (x : Int), .int .i64 (y : Int)] w fun e w' => e = .returned (.int .i64 (min x y : Nat)) ∧ w = w' := by
  by_cases h : x < y
  · have h1 : (x : Int) < (y : Int) := by omega
    go_enter Try.func59, Try.ntmps59
    go_wp2
    go_ret
    exact ⟨ret_int (by omega), rfl⟩
  · have h1 : ¬ (x : Int) < (y : Int) := by omega
    go_enter Try.func59, Try.ntmps59
    go_wp2
    go_ret
    exact ⟨ret_int (by omega), rfl⟩
theorem leastTo_take (g : Nat → Nat → Nat) (x : Nat) {l : List Nat} {k : Nat} (b : Nat) (h : k < l.length) : leastTo g x (l.take (k + 1)) b = min (leastTo g x (l.take k) b) (g x (l[k]?.getD 0)) := by
  rw [List.take_succ_eq_append_getElem h, leastTo_snoc, List.getElem?_eq_getElem h]; rfl

set_option maxHeartbeats 800000 in
/-- it fails: no valid Row, or fewer than two taken seats -/
theorem leastI_bad (s : Int) (ring : Bool) (p : Option Addr) (cap : Nat) (xs : List Int) (w : World) (lo hi : Nat) (hin : Ri lo hi w p xs) (hlen : xs.length ≤ 1048576) (hr : (rowB s ring xs && decide (2 ≤ xs.length)) = false) :
    Calls Try.prog 47 #[rowV s ring p xs.length cap] w fun e w' => e = .returned (.tuple #[.int .i64 0, .bool false]) ∧ Below w.heap.size w w' := by
  have hb := box_below w s ring p xs.length cap 26
  have I := Lib.hid (isRow_any s ring p cap xs _ lo hi (hin.bel hb) hlen)
  have HB := Lib.hid hb
  have HX := Lib.hid (OwnArr.made w 26 [.int .i64 s, .bool ring, .slice p xs.length cap])
  clear hb hin
  cases h : rowB s ring xs with
  | false =>
    rw [h] at I
    clear hr h HX
    go_enter Try.func47, Try.ntmps47
    go_wp2_with fail
    refine I.out.mono ?_
    rintro e w1 ⟨rfl, hb1⟩
    go_wp2_with fail
    go_ret2
    exact ⟨rfl, HB.out.trans (hb1.mono HB.out.size)⟩
  | true =>
    rw [h] at I hr
    simp only [Bool.true_and, decide_eq_false_iff_not] at hr
    have hm : (xs.length : Int) < 2 := by omega
    obtain ⟨m, hm'⟩ : ∃ m, xs.length = m := ⟨_, rfl⟩
    rw [hm'] at I HB HX hm ⊢
    clear hr h hm'
    go_enter Try.func47, Try.ntmps47
    go_wp2_with fail
    refine I.out.mono ?_
    rintro e w1 ⟨rfl, hb1⟩
    have HX1 := Lib.hid (HX.out.below hb1 HX.out.lt)
    have HB1 := Lib.hid (HB.out.trans (hb1.mono HB.out.size))
    clear HX HB hb1 I
    obtain ⟨c0, c1, c2, -⟩ := HX1.out.three
    go_wp2_with fail
    go_ret2
    exact ⟨rfl, HB1.out⟩

set_option maxRecDepth 4000 in
set_option maxHeartbeats 2000000 in
theorem l3Least_any (n : Nat) (ring : Bool) (p : Option Addr) (cap : Nat) (l : List Nat) (w : World) (lo hi : Nat) (hin : Ri lo hi w p (ints l)) (hl : ∀ x ∈ l, x < n) (hll : l.length ≤ 24) (hn : n ≤ 24) :
    Calls Try.prog 44 #[rowV n ring p l.length cap] w fun e w' => e = .returned (.int .i64 (leastAll (gapM n ring) n l l.length : Nat)) ∧ Below w.heap.size w w' := by
  have HI := Lib.hid hin
  have HL := Lib.hid hl
  obtain ⟨m, hm⟩ : ∃ m, l.length = m := ⟨_, rfl⟩
  rw [hm] at hll ⊢
  have HX0 := Lib.hid (OwnArr.made w 26 [.int .i64 n, .bool ring, .slice p m cap])
  have HB0 := Lib.hid (box_below w n ring p m cap 26)
  replace hm := Lib.hid hm
  clear hin hl
  obtain ⟨c0, c1, c2, -⟩ := HX0.out.three
  go_enter Try.func44, Try.ntmps44
  go_wp2_with fail
  clear c0 c1 c2
  go_loopw [3, 4, 5] (fun c i _ wr => ∃ (d j : Nat), j ≤ m ∧ d ≤ n ∧ i = .int .i64 j ∧ c = .int .i64 d ∧ Hid (d = leastAll (gapM n ring) n l j) ∧ Hid (OwnArr wr w.heap.size 26 [.int .i64 n, .bool ring, .slice p m cap]) ∧ Hid (Below w.heap.size w wr)) (fun _ i _ _ => m - (intOf i).toNat)
  case atStart => exact ⟨n, 0, Nat.zero_le _, Nat.le_refl _, rfl, rfl, rfl, HX0, HB0⟩
  case round =>
    obtain ⟨d, j, hj, hd, rfl, rfl, HD, HX, HB⟩ := hrel
    clear HX0 HB0
    obtain ⟨c0, c1, c2, -⟩ := HX.out.three
    by_cases hlt : j < m
    · have hj1 : (j : Int) < (m : Int) := by omega
      have hjl : j < l.length := by have := hm.out; omega
      have hxn := HL.out _ (nat_mem hjl)
      obtain ⟨b, off, rfl, -, -, hbw, hc⟩ := HI.out.int (by rw [ints_length]; omega)
      have HCQ : Hid (∀ k, k < m → ∀ w', Below w.heap.size w w' → w'.cell? ⟨b, off + k, none⟩ = some (.int .i64 ((l[k]?.getD 0 : Nat) : Int))) := by
        show ∀ _, _
        intro k hk w' hb
        have hkl : k < l.length := by have := hm.out; omega
        have := (hb.cell (p := ⟨b, off + k, none⟩) hbw).trans (hc k (by rw [ints_length]; exact hkl))
        rwa [ints_get hkl] at this
      have HSJ : Hid (leastAll (gapM n ring) n l (j + 1) = leastTo (gapM n ring) (l[j]?.getD 0) (l.take j) d) := by
        show _ = _
        rw [HD.out]; rfl
      have HXJ := Lib.hid (HCQ.out j hlt)
      obtain ⟨x, hx⟩ : ∃ x, l[j]?.getD 0 = x := ⟨_, rfl⟩
      rw [hx] at hxn HSJ HXJ
      clear hc hx
      go_wp2_with fail
      go_loopw [3, 5] (fun c i wr => ∃ (d2 k : Nat), k ≤ j ∧ d2 ≤ n ∧ i = .int .i64 k ∧ c = .int .i64 d2 ∧ Hid (d2 = leastTo (gapM n ring) x (l.take k) d) ∧ Hid (OwnArr wr w.heap.size 26 [.int .i64 n, .bool ring, .slice (some ⟨b, off, none⟩) m cap]) ∧ Hid (Below w.heap.size w wr)) (fun _ i _ => j - (intOf i).toNat)
      case atStart => exact ⟨d, 0, Nat.zero_le _, hd, rfl, rfl, rfl, HX, HB⟩
      case round =>
        obtain ⟨d2, k, hk, hd2, rfl, rfl, HD2, HX, HB⟩ := hrel
        clear c0 c1 c2
        obtain ⟨c0, c1, c2, -⟩ := HX.out.three
        by_cases hkt : k < j
        · have hk1 : (k : Int) < (j : Int) := by omega
          have hk2 : (k : Int) < (m : Int) := by omega
          have hk0 : (0 : Int) ≤ (k : Int) := by omega
          have hj0 : (0 : Int) ≤ (j : Int) := by omega
          have hkl : k < l.length := by omega
          have x1 := HXJ.out _ HB.out
          have x2 := HCQ.out k (by omega) _ HB.out
          have hyn := HL.out _ (nat_mem hkl)
          have HST := Lib.hid (leastTo_take (gapM n ring) x d hkl)
          obtain ⟨y, hy⟩ : ∃ y, l[k]?.getD 0 = y := ⟨_, rfl⟩
          have HYK := Lib.hid (HCQ.out k (by omega))
          rw [hy] at x2 hyn HST HYK
          have G := Lib.hid (fun w' => gapS_any n ring (some ⟨b, off, none⟩) m cap x y w' hn hxn hyn)
          obtain ⟨g, hg⟩ : ∃ g, gapM n ring x y = g := ⟨_, rfl⟩
          rw [hg] at G HST
          have LT := Lib.hid (fun w' => least_two d2 g w')
          have HD5 : Hid (min d2 g = leastTo (gapM n ring) x (l.take (k + 1)) d) := by
            show _ = _
            rw [HST.out, ← HD2.out]
          obtain ⟨d3, hd3⟩ : ∃ d3, min d2 g = d3 := ⟨_, rfl⟩
          rw [hd3] at LT HD5
          have hd4 : d3 ≤ n := by omega
          have HXD : Hid (OwnArr wr.drew w.heap.size 26 [.int .i64 n, .bool ring, .slice (some ⟨b, off, none⟩) m cap]) := HX.out
          have HBD : Hid (Below w.heap.size w wr.drew) := HB.out.drew
          clear hy hg hd3 HST HX HB HD2
          go_wp2_with fail
          go_region_held3 (fun w' => w'.cell? ⟨w.heap.size, 0, none⟩ = some (.int .i64 n) ∧ w'.cell? ⟨w.heap.size, 1, none⟩ = some (.bool ring) ∧ w'.cell? ⟨w.heap.size, 2, none⟩ = some (.slice (some ⟨b, off, none⟩) m cap) ∧ w'.cell? ⟨b, off + j, none⟩ = some (.int .i64 (x : Int)) ∧ w'.cell? ⟨b, off + k, none⟩ = some (.int .i64 (y : Int))) ((first | exact ⟨c0, c1, c2, x1, x2⟩ | exact ⟨d0, d1, d2', x3, x4⟩ | go_keep)) (first
            | (go_at_call 60; refine (G.out _).mono ?_; rintro e w5 ⟨rfl, hb5⟩; have HX5 := Lib.hid (HXD.out.below hb5 HXD.out.lt); have HB5 := Lib.hid (HBD.out.trans (hb5.mono HBD.out.size)); have x3 := HXJ.out _ HB5.out; have x4 := HYK.out _ HB5.out; clear hb5; obtain ⟨d0, d1, d2', -⟩ := HX5.out.three)
            | (go_at_call 59; refine (LT.out _).mono ?_; rintro e w6 ⟨rfl, rfl⟩))
          clear HXD HBD c0 c1 c2 x1 x2 G d0 d1 d2' x3 x4
          go_wp2_with fail
          go_roundw
          case rel => exact ⟨d3, k + 1, by omega, hd4, by go_num, rfl, HD5, HX5, HB5⟩
          case measure => simp [intOf]; omega
        · have hkj : k = j := by omega
          subst hkj
          have HD6 : Hid (d2 = leastAll (gapM n ring) n l (k + 1)) := by
            show _ = _
            rw [HSJ.out, HD2.out]
          clear HD HD2 HSJ HXJ HCQ
          go_wp2_with fail
          go_roundw
          case rel => exact ⟨d2, k + 1, by omega, hd2, by go_num, rfl, HD6, HX, HB⟩
          case measure => simp [intOf]; omega
    · have hjm : j = m := by omega
      have hF := HD.out
      rw [hjm] at hF
      replace hF := Lib.hid hF
      clear HD
      go_wp2_with fail
      go_ret
      exact ⟨by rw [← hF.out]; rfl, HB.out⟩

set_option maxRecDepth 4000 in
set_option maxHeartbeats 2000000 in
theorem leastI_any (n : Nat) (ring : Bool) (p : Option Addr) (cap : Nat) (S : Nat → Bool) (w : World) (lo hi : Nat) (hin : Ri lo hi w p (ints (tk n S))) (h2 : 2 ≤ n) (hn : n ≤ 24) (h3 : ring = true → 3 ≤ n) (hl2 : 2 ≤ (ints (tk n S)).length) (hcap : (ints (tk n S)).length ≤ cap) :
    Calls Try.prog 47 #[rowV n ring p (ints (tk n S)).length cap] w fun e w' => e = .returned (.tuple #[.int .i64 (leastAll (gapM n ring) n (tk n S) (tk n S).length : Nat), .bool true]) ∧ Below w.heap.size w w' := by
  have hlen := (by rw [ints_length]; exact tk_length_le n S : (ints (tk n S)).length ≤ n)
  have hb := box_below w n ring p (ints (tk n S)).length cap 26
  have I := Lib.hid (fun (w' : World) (h' : Below w.heap.size w w') => isRow_any n ring p cap (ints (tk n S)) w' lo hi (hin.below h' hin.top) (by omega))
  rw [rowB_of h2 hn h3] at I
  have HS := Lib.hid (least_same (ring := ring) (tk_sorted n S) (fun x hx => (mem_tk.1 hx).1) (by rw [ints_length] at hl2; exact hl2))
  have HL : Hid (∀ x ∈ tk n S, x < n) := by show ∀ _, _; exact fun x hx => (mem_tk.1 hx).1
  have HI := Lib.hid hin
  rw [ints_length] at hb I hl2 hlen hcap ⊢
  obtain ⟨l, hl⟩ : ∃ l, tk n S = l := ⟨_, rfl⟩
  rw [hl] at hb I hl2 hlen hcap HS HL HI ⊢
  obtain ⟨A, hA⟩ : ∃ A, leastAll (gapM n ring) n l l.length = A := ⟨_, rfl⟩
  rw [hA] at HS ⊢
  obtain ⟨m, hm⟩ : ∃ m, l.length = m := ⟨_, rfl⟩
  rw [hm] at hb I hl2 hlen hcap HS ⊢
  obtain ⟨b, off, rfl, -, -, hbw, hc⟩ := HI.out.int (by rw [ints_length]; omega)
  have HCQ : Hid (∀ k, k < m → ∀ w', Below w.heap.size w w' → w'.cell? ⟨b, off + k, none⟩ = some (.int .i64 ((l[k]?.getD 0 : Nat) : Int))) := by
    show ∀ _, _
    intro k hk w' hb
    have hkl : k < l.length := by omega
    have := (hb.cell (p := ⟨b, off + k, none⟩) hbw).trans (hc k (by rw [ints_length]; exact hkl))
    rwa [ints_get hkl] at this
  have HX := Lib.hid (OwnArr.made w 26 [.int .i64 n, .bool ring, .slice (some ⟨b, off, none⟩) m cap])
  have HB := Lib.hid hb
  have k1 : ¬ (m : Int) < 2 := by omega
  have hx0n := HL.out _ (nat_mem (show 0 < l.length by omega))
  have hxln := HL.out _ (nat_mem (show m - 1 < l.length by omega))
  have HX0 := Lib.hid (HCQ.out 0 (by omega))
  have HXL := Lib.hid (HCQ.out (m - 1) (by omega))
  obtain ⟨x0, hx0⟩ : ∃ x, l[0]?.getD 0 = x := ⟨_, rfl⟩
  obtain ⟨xl, hxl⟩ : ∃ x, l[m - 1]?.getD 0 = x := ⟨_, rfl⟩
  rw [hx0, hxl] at HS
  rw [hx0] at hx0n HX0
  rw [hxl] at hxln HXL
  have G0 := Lib.hid (fun w' => gapI_any n ring (some ⟨b, off, none⟩) m cap xl x0 w' hn hxln hx0n)
  have hg0n : gapM n ring xl x0 ≤ n := by unfold gapM; cases ring <;> simp <;> omega
  obtain ⟨g0, hg0⟩ : ∃ g, gapM n ring xl x0 = g := ⟨_, rfl⟩
  rw [hg0] at G0 HS hg0n
  have e1 : IntKind.i64.wrap ((m : Int) - 1) = (m : Int) - 1 := IntWalk.i64_in _ (by omega)
  have k2 : (0 : Int) ≤ (m : Int) - 1 := by omega
  have k3 : (m : Int) - 1 < (m : Int) := by omega
  have k4 : ((m : Int) - 1).toNat = m - 1 := by omega
  have k5 : (0 : Int) < (m : Int) := by omega
  have k6 : 0 < m := by omega
  have k7 : (1 : Int) ≤ (m : Int) := by omega
  have k8 : 1 ≤ m := by omega
  have k9 : ¬ cap = 1 := by omega
  have k10 : (m : Int) ≤ (cap : Int) := by omega
  have hgap : ∀ a b, a < n → b < n → gapM n ring a b ≤ n := fun a b ha hb => by unfold gapM; cases ring <;> simp <;> omega
  have HG := Lib.hid hgap
  replace hm := Lib.hid hm
  clear hb hin h3 hl hA hc hx0 hxl hg0 HI hgap
  go_enter Try.func47, Try.ntmps47
  go_wp2_with fail
  refine (I.out _ HB.out).mono ?_
  rintro e w1 ⟨rfl, hb1⟩
  have HX1 : Hid (OwnArr w1.drew w.heap.size 26 [.int .i64 n, .bool ring, .slice (some ⟨b, off, none⟩) m cap]) := by show OwnArr _ _ _ _; exact (HX.out.below hb1 HX.out.lt).drew
  have HB1 : Hid (Below w.heap.size w w1.drew) := by show Below _ _ _; exact (HB.out.trans (hb1.mono HB.out.size)).drew
  have hX1 := HX.out.below hb1 HX.out.lt
  have hB1 := HB.out.trans (hb1.mono HB.out.size)
  obtain ⟨c0, c1, c2, -⟩ := hX1.three
  have y0 := HX0.out _ hB1
  rw [Nat.add_zero] at y0
  have yl := HXL.out _ hB1
  clear HX HB hb1 I hX1 hB1
  go_wp2_with fail
  go_still_tail 13, (by kernel_rfl)
  change wpList _ _ _ _ _ w1.drew
  go_wp2_with fail
  refine (G0.out _).mono ?_
  rintro e w3 ⟨rfl, hb3⟩
  have HX3 := Lib.hid (HX1.out.below hb3 HX1.out.lt)
  have HB3 := Lib.hid (HB1.out.trans (hb3.mono HB1.out.size))
  clear HX1 HB1 hb3 c0 c1 c2 y0 yl G0
  obtain ⟨c0, c1, c2, -⟩ := HX3.out.three
  go_wp2_with fail
  clear c0 c1 c2
  go_loopw [4, 5, 6, 34] (fun c _ _ i wr => ∃ (d k : Nat), k ≤ m - 1 ∧ d ≤ n ∧ i = .int .i64 k ∧ c = .int .i64 d ∧ Hid (d = leastNext (gapM n ring) l g0 k) ∧ Hid (OwnArr wr w.heap.size 26 [.int .i64 n, .bool ring, .slice (some ⟨b, off, none⟩) m cap]) ∧ Hid (Below w.heap.size w wr)) (fun _ _ _ i _ => m - 1 - (intOf i).toNat)
  case atStart => exact ⟨g0, 0, Nat.zero_le _, hg0n, rfl, rfl, rfl, HX3, HB3⟩
  case round =>
    obtain ⟨d, k, hk, hd, rfl, rfl, HD, HX, HB⟩ := hrel
    clear HX3 HB3
    obtain ⟨c0, c1, c2, -⟩ := HX.out.three
    by_cases hlt : k < m - 1
    · have hk1 : (k : Int) < ((m - 1 : Nat) : Int) := by omega
      have hk2 : (k : Int) < (m : Int) := by omega
      have hk3 : (k : Int) < (m : Int) - 1 := by omega
      have hk0 : (0 : Int) ≤ (k : Int) := by omega
      have hkl : k < l.length := by have := hm.out; omega
      have hkl2 : k + 1 < l.length := by have := hm.out; omega
      have hxn := HL.out _ (nat_mem hkl)
      have hyn := HL.out _ (nat_mem hkl2)
      have HXK := Lib.hid (HCQ.out k (by omega))
      have HYK := Lib.hid (HCQ.out (k + 1) (by omega))
      have HST : Hid (leastNext (gapM n ring) l g0 (k + 1) = min d (gapM n ring (l[k]?.getD 0) (l[k + 1]?.getD 0))) := by
        show _ = _
        rw [HD.out]; rfl
      obtain ⟨x, hx⟩ : ∃ x, l[k]?.getD 0 = x := ⟨_, rfl⟩
      obtain ⟨y, hy⟩ : ∃ y, l[k + 1]?.getD 0 = y := ⟨_, rfl⟩
      rw [hx, hy] at HST
      rw [hx] at hxn HXK
      rw [hy] at hyn HYK
      have x1 := HXK.out _ HB.out
      have x2 : wr.cell? ⟨b, off + 1 + k, none⟩ = some (.int .i64 (y : Int)) := by
        have := HYK.out _ HB.out
        rwa [show off + (k + 1) = off + 1 + k by omega] at this
      have G := Lib.hid (fun w' => gapI_any n ring (some ⟨b, off, none⟩) m cap x y w' hn hxn hyn)
      obtain ⟨g, hg⟩ : ∃ g, gapM n ring x y = g := ⟨_, rfl⟩
      rw [hg] at G HST
      have HXD : Hid (OwnArr wr.drew w.heap.size 26 [.int .i64 n, .bool ring, .slice (some ⟨b, off, none⟩) m cap]) := HX.out
      have HBD : Hid (Below w.heap.size w wr.drew) := by show Below _ _ _; exact HB.out.drew
      clear hx hy hg HX HB
      by_cases hdg : d ≤ g
      · have HD5 : Hid (d = leastNext (gapM n ring) l g0 (k + 1)) := by
          show _ = _
          rw [HST.out, Nat.min_eq_left hdg]
        have hI : (d : Int) ≤ (g : Int) := by omega
        have hI2 : ¬ (g : Int) < (d : Int) := by omega
        have hI3 : ¬ g < d := by omega
        clear HST HD
        go_wp2_with fail
        go_region_held3 (fun w' => w'.cell? ⟨w.heap.size, 0, none⟩ = some (.int .i64 n) ∧ w'.cell? ⟨w.heap.size, 1, none⟩ = some (.bool ring) ∧ w'.cell? ⟨w.heap.size, 2, none⟩ = some (.slice (some ⟨b, off, none⟩) m cap) ∧ w'.cell? ⟨b, off + k, none⟩ = some (.int .i64 (x : Int))) ((first | exact ⟨c0, c1, c2, x1⟩ | exact ⟨d0, d1, d2', x3⟩ | go_keep)) ((go_at_call 61; refine (G.out _).mono ?_; rintro e w5 ⟨rfl, hb5⟩; have HX5 := Lib.hid (HXD.out.below hb5 HXD.out.lt); have HB5 := Lib.hid (HBD.out.trans (hb5.mono HBD.out.size)); have x3 := HXK.out _ HB5.out; clear hb5; obtain ⟨d0, d1, d2', -⟩ := HX5.out.three))
        clear HXD HBD c0 c1 c2 x1 x2 G d0 d1 d2' x3
        go_wp2_with fail
        go_roundw
        case rel => exact ⟨d, k + 1, by omega, by omega, by go_num, rfl, HD5, HX5, HB5⟩
        case measure => simp [intOf]; omega
      · have HD5 : Hid (g = leastNext (gapM n ring) l g0 (k + 1)) := by
          show _ = _
          rw [HST.out, Nat.min_eq_right (by omega)]
        have hI : (g : Int) < (d : Int) := by omega
        have hI2 : ¬ (d : Int) ≤ (g : Int) := by omega
        have hgd : g ≤ n := by omega
        have hI3 : g < d := by omega
        clear HST HD
        go_wp2_with fail
        go_region_held3 (fun w' => w'.cell? ⟨w.heap.size, 0, none⟩ = some (.int .i64 n) ∧ w'.cell? ⟨w.heap.size, 1, none⟩ = some (.bool ring) ∧ w'.cell? ⟨w.heap.size, 2, none⟩ = some (.slice (some ⟨b, off, none⟩) m cap) ∧ w'.cell? ⟨b, off + k, none⟩ = some (.int .i64 (x : Int))) ((first | exact ⟨c0, c1, c2, x1⟩ | exact ⟨d0, d1, d2', x3⟩ | go_keep)) ((go_at_call 61; refine (G.out _).mono ?_; rintro e w5 ⟨rfl, hb5⟩; have HX5 := Lib.hid (HXD.out.below hb5 HXD.out.lt); have HB5 := Lib.hid (HBD.out.trans (hb5.mono HBD.out.size)); have x3 := HXK.out _ HB5.out; clear hb5; obtain ⟨d0, d1, d2', -⟩ := HX5.out.three))
        clear HXD HBD c0 c1 c2 x1 x2 G d0 d1 d2' x3
        go_wp2_with fail
        go_roundw
        case rel => exact ⟨g, k + 1, by omega, by omega, by go_num, rfl, HD5, HX5, HB5⟩
        case measure => simp [intOf]; omega
    · have hkm : k = m - 1 := by omega
      have hF := HD.out
      rw [hkm, ← HS.out] at hF
      replace hF := Lib.hid hF
      have hk1 : ¬ (k : Int) < ((m - 1 : Nat) : Int) := by omega
      clear HD
      go_wp2_with fail
      go_ret2
      exact ⟨by rw [← hF.out]; rfl, HB.out⟩
end Go.Proofs.Ytlfodeodfjjaeaa
