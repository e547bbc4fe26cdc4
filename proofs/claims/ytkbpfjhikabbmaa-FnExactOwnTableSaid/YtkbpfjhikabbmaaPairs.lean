/- The laws' own helpers on slices of pairs: eqIntA2, eqIntA2S, markIntA2S, heldIntA2S. -/
import Derived.Test.YtkbpfjhikabbmaaPairM
import Derived.Deep.QuietTactic
import Derived.BigQuiet
import Derived.Deep.RegionWith
import Derived.IntWalk
namespace Go.Proofs.Ytkbpfjhikabbmaa
open Go.RowKit

set_option maxHeartbeats 400000 in
theorem eqA2_same (x y : Int) (w : World) :
    Calls Try.prog 32 #[.agg #[.int .i64 x, .int .i64 y], .agg #[.int .i64 x, .int .i64 y]] w fun e w' => e = .returned (.bool true) ∧ Below w.heap.size w w' := by
  have hb := ((Below.refl w.heap.size w).alloc (Nat.le_refl _) (.cells #[.int .i64 x, .int .i64 y] 48)).alloc (by simp) (.cells #[.int .i64 x, .int .i64 y] 48)
  have o1 := (OwnArr.made w 48 [.int .i64 x, .int .i64 y]).alloc (.cells #[.int .i64 x, .int .i64 y] 48)
  have o2 := OwnArr.made (w.alloc (.cells #[.int .i64 x, .int .i64 y] 48)) 48 [.int .i64 x, .int .i64 y]
  have c0 := o1.cell 0
  have c1 := o1.cell 1
  have d0 := o2.cell 0
  have d1 := o2.cell 1
  simp only [List.getElem?_cons_zero, List.getElem?_cons_succ] at c0 c1 d0 d1
  have HB := Lib.hid hb
  clear hb o1 o2
  go_enter Try.func32, Try.ntmps32
  go_wp2_with fail
  refine wp_loop_rounds 3 ?_
  rw [rounds_succ]
  go_wp2_with fail
  go_quiet (fail)
  go_wp2_with fail
  rw [rounds_succ]
  go_wp2_with fail
  go_quiet (fail)
  go_wp2_with fail
  rw [rounds_succ]
  go_wp2_with fail
  go_ret
  exact ⟨rfl, bel_drewN HB.out _⟩

set_option maxHeartbeats 800000 in
theorem eqA2S_same (p p' : Option Addr) (cap cap' : Nat) (ps : List (Int × Int)) (w : World) (lo hi lo' hi' : Nat) (hin : Rd lo hi w p (pcs ps)) (hin' : Rd lo' hi' w p' (pcs ps)) (hlen : ps.length ≤ 1000000) :
    Calls Try.prog 13 #[.slice p ps.length cap, .slice p' ps.length cap'] w fun e w' => e = .returned (.bool true) ∧ Below w.heap.size w w' := by
  by_cases hn : 0 < ps.length
  · obtain ⟨b, off, rfl, -, -, hb, hc⟩ := hin.pair hn
    obtain ⟨b', off', rfl, -, -, hb', hc'⟩ := hin'.pair hn
    have HC := Lib.hid hc
    have HC' := Lib.hid hc'
    obtain ⟨n, hnn⟩ : ∃ n, ps.length = n := ⟨_, rfl⟩
    rw [hnn] at HC HC' hlen ⊢
    clear hc hc' hin hin' hn hnn
    go_enter Try.func13, Try.ntmps13
    go_wp2_with fail
    go_loopw [5] (fun i wr => ∃ (k : Nat), k ≤ n ∧ i = .int .i64 k ∧ Hid (Below w.heap.size w wr)) (fun i _ => n - (intOf i).toNat)
    case atStart => exact ⟨0, Nat.zero_le _, rfl, Lib.hid (Below.refl _ _)⟩
    case round =>
      obtain ⟨k, hk, rfl, HB⟩ := hrel
      by_cases hlt : k < n
      · obtain ⟨x0, x1⟩ := HC.out k hlt
        obtain ⟨y0, y1⟩ := HC'.out k hlt
        replace x0 := (HB.out.cell (p := ⟨b, off + k * 2, none⟩) hb).trans x0
        replace x1 := (HB.out.cell (p := ⟨b, off + k * 2 + 1, none⟩) hb).trans x1
        replace y0 := (HB.out.cell (p := ⟨b', off' + k * 2, none⟩) hb').trans y0
        replace y1 := (HB.out.cell (p := ⟨b', off' + k * 2 + 1, none⟩) hb').trans y1
        obtain ⟨s, hs⟩ : ∃ s, (ps[k]?.getD (0, 0)).1 = s := ⟨_, rfl⟩
        obtain ⟨t, ht⟩ : ∃ t, (ps[k]?.getD (0, 0)).2 = t := ⟨_, rfl⟩
        rw [hs] at x0 y0
        rw [ht] at x1 y1
        have hk0 : (0 : Int) ≤ (k : Int) := by omega
        have hk1 : (k : Int) < (n : Int) := by omega
        have E := Lib.hid (eqA2_same s t wr.drew)
        have HBd := Lib.hid HB.out.drew
        clear hs ht
        go_wp2_with fail
        go_region_with (first | (go_at_call 32; refine E.out.mono ?_; rintro e w2 ⟨rfl, hb2⟩; have HB2 := Lib.hid (HBd.out.trans (hb2.mono HBd.out.size)); clear hb2))
        all_goals
          go_wp2_with fail
          go_roundw
          case rel => exact ⟨k + 1, by omega, by go_num, HB2⟩
          case measure => simp [intOf]; omega
      · go_wp2_with fail
        go_ret
        exact ⟨rfl, HB.out⟩
  · have hz : ps = [] := List.length_eq_zero_iff.1 (by omega)
    subst hz
    clear hin hin' hlen hn
    go_enter Try.func13, Try.ntmps13
    go_wp2
    refine wp_loop_rounds 1 ?_
    rw [rounds_succ]
    go_wp2
    go_ret
    exact ⟨rfl, Below.refl _ _⟩

set_option maxHeartbeats 800000 in
theorem markA2_arr (g n cap k : Nat) (xs : List Value) (w : World) (ho : OwnArr w g 48 xs) (hn : n * 2 ≤ xs.length) (h1 : k + n * 2 ≤ 10000000) :
    Calls Try.prog 14 #[.slice (some ⟨g, 0, none⟩) n cap, .int .i64 (k : Int)] w fun e w' => e = .returned (.int .i64 ((k + n * 2 : Nat) : Int)) ∧ OwnArr w' g 48 (markedI xs k (n * 2)) ∧ Keep g (g + 1) w w' := by
  have HO := Lib.hid ho
  clear ho
  go_enter Try.func14, Try.ntmps14
  go_wp2
  go_loopw [1, 5, 6] (fun c i _ wr => ∃ (m : Nat), m ≤ n ∧ i = .int .i64 m ∧ c = .int .i64 ((k + m * 2 : Nat) : Int) ∧ Hid (OwnArr wr g 48 (markedI xs k (m * 2))) ∧ Hid (Keep g (g + 1) w wr)) (fun _ i _ _ => n - (intOf i).toNat)
  case atStart => exact ⟨0, Nat.zero_le _, rfl, by go_num, by show OwnArr _ _ _ _; simpa [markedI] using HO.out, Lib.hid (Keep.refl _ _ _)⟩
  case round =>
    obtain ⟨m, hm, rfl, rfl, HR, HK⟩ := hrel
    by_cases hlt : m < n
    · obtain ⟨c, hc⟩ : ∃ c, k + m * 2 = c := ⟨_, rfl⟩
      have hcb : c + 2 ≤ 10000000 := by omega
      have hm1 : (m : Int) < (n : Int) := by omega
      have hm0 : (0 : Int) ≤ (m : Int) := by omega
      have hold := HR.out.cell (m * 2)
      rw [markedI_get' _ _ _ _ (Nat.le_refl _), List.getElem?_eq_getElem (by omega)] at hold
      have hfree := HR.out.free (m * 2)
      have hset := HR.out.set (m * 2) (.int .i64 ((k + m * 2 : Nat) : Int))
      rw [markedI_set _ _ _ (by omega)] at hset
      have hold2 := hset.cell (m * 2 + 1)
      rw [markedI_get' _ _ _ _ (Nat.le_refl _), List.getElem?_eq_getElem (by omega)] at hold2
      have hfree2 := hset.free (m * 2 + 1)
      have hset2 := hset.set (m * 2 + 1) (.int .i64 ((k + (m * 2 + 1) : Nat) : Int))
      rw [markedI_set _ _ _ (by omega)] at hset2
      have e1 : k + (m * 2 + 1) = c + 1 := by omega
      have e2 : m * 2 + 1 + 1 = (m + 1) * 2 := by omega
      have e3 : ((c + 1 : Nat) : Int) = (c : Int) + 1 := by omega
      rw [e1, hc, e2, e3] at hset2
      rw [hc] at hold2 hfree2
      replace hset := Lib.hid hset2
      have hb3 := Lib.hid ((HK.out.setCell (b := g) ⟨Nat.le_refl _, Nat.lt_succ_self _⟩ (m * 2) (.int .i64 (c : Int))).setCell (b := g) ⟨Nat.le_refl _, Nat.lt_succ_self _⟩ (m * 2 + 1) (.int .i64 ((c : Int) + 1)))
      have hc2 := Lib.hid hc
      rw [hc]
      clear HR HK hset2 e1 e2 e3 hc
      go_wp2_with fail
      refine wp_loop_rounds 3 ?_
      rw [rounds_succ]
      go_wp2_with fail
      rw [rounds_succ]
      go_wp2_with fail
      rw [rounds_succ]
      go_wp2_with fail
      go_roundw
      case rel => exact ⟨m + 1, by omega, by go_num, by have := hc2.out; simp; omega, hset, hb3⟩
      case measure => simp [intOf]; omega
    · have hme : m = n := by omega
      subst hme
      go_wp2_with fail
      go_ret
      exact ⟨rfl, HR.out, HK.out⟩

set_option maxHeartbeats 400000 in
theorem markA2_none (p : Option Addr) (cap k : Nat) (w : World) :
    Calls Try.prog 14 #[.slice p 0 cap, .int .i64 (k : Int)] w fun e w' => e = .returned (.int .i64 (k : Int)) ∧ w = w' := by
  go_enter Try.func14, Try.ntmps14
  go_wp2
  refine wp_loop_rounds 1 ?_
  rw [rounds_succ]
  go_wp2
  go_ret
  exact ⟨rfl, rfl⟩

/-- markIntA2S on a slice of the call's own -/
theorem markA2_any (p : Option Addr) (lo hi n cap k : Nat) (w : World) (ho : Own lo hi w 48 p (n * 2)) (h1 : k + n * 2 ≤ 10000000) :
    Calls Try.prog 14 #[.slice p n cap, .int .i64 (k : Int)] w fun e w' => e = .returned (.int .i64 ((k + n * 2 : Nat) : Int)) ∧ Ri lo hi w' p (mk k (n * 2)) ∧ Own lo hi w' 48 p (n * 2) ∧ Keep lo hi w w' := by
  by_cases hn : 0 < n
  · obtain ⟨g, ys, rfl, h2, h3, h4, h5⟩ := ho.arr (by omega)
    refine (markA2_arr g n cap k ys w h4 h5 h1).mono ?_
    rintro e w' ⟨rfl, ho', hk⟩
    have ht := ho.top
    have hs := hk.size
    refine ⟨rfl, ?_, ⟨by omega, fun _ => ⟨g, _, rfl, h2, h3, ho', by rw [markedI_len _ _ _ h5]; exact h5⟩⟩, hk.mono h2 (by omega)⟩
    have := Rd.of_own ho' h2 h3 (by omega) (n * 2)
    rw [marked_take] at this
    exact this
  · have : n = 0 := by omega
    subst this
    refine (markA2_none p cap k w).mono ?_
    rintro e w' ⟨rfl, rfl⟩
    exact ⟨rfl, Rd.nil _ _ _ _ ho.top, ho, Keep.refl _ _ _⟩

set_option maxHeartbeats 800000 in
/-- heldIntA2S on a slice that shows its marks -/
theorem heldA2_any (p : Option Addr) (lo hi n cap k : Nat) (w : World) (hr : Ri lo hi w p (mk k (n * 2))) (h1 : k + n * 2 ≤ 10000000) :
    Calls Try.prog 15 #[.slice p n cap, .int .i64 (k : Int)] w fun e w' => e = .returned (.int .i64 ((k + n * 2 : Nat) : Int)) ∧ Below w.heap.size w w' := by
  by_cases hn : 0 < n
  · obtain ⟨b, off, rfl, _, _, hb, hc⟩ := hr.int (by rw [mk_length]; omega)
    rw [mk_length] at hc
    clear hr
    have HC := Lib.hid hc
    clear hc
    go_enter Try.func15, Try.ntmps15
    go_wp2
    go_loopw [1, 5, 6] (fun c i _ wr => ∃ (m : Nat), m ≤ n ∧ i = .int .i64 m ∧ c = .int .i64 ((k + m * 2 : Nat) : Int) ∧ Hid (Below w.heap.size w wr)) (fun _ i _ _ => n - (intOf i).toNat)
    case atStart => exact ⟨0, Nat.zero_le _, rfl, by go_num, Lib.hid (Below.refl _ _)⟩
    case round =>
      obtain ⟨m, hm, rfl, rfl, HB⟩ := hrel
      by_cases hlt : m < n
      · have hcell := (HB.out.cell (p := ⟨b, off + m * 2, none⟩) hb).trans (HC.out (m * 2) (by omega))
        have hcell2 := (HB.out.cell (p := ⟨b, off + (m * 2 + 1), none⟩) hb).trans (HC.out (m * 2 + 1) (by omega))
        rw [mk_get _ _ _ (by omega)] at hcell hcell2
        rw [show off + (m * 2 + 1) = off + m * 2 + 1 from by omega] at hcell2
        obtain ⟨c, hc⟩ : ∃ c, k + m * 2 = c := ⟨_, rfl⟩
        have e1 : k + (m * 2 + 1) = c + 1 := by omega
        have e3 : ((c + 1 : Nat) : Int) = (c : Int) + 1 := by omega
        rw [hc] at hcell
        rw [e1, e3] at hcell2
        have hcb : c + 2 ≤ 10000000 := by omega
        have hm1 : (m : Int) < (n : Int) := by omega
        have hm0 : (0 : Int) ≤ (m : Int) := by omega
        have hc2 := Lib.hid hc
        rw [hc]
        clear hc e1 e3
        go_wp2_with fail
        refine wp_loop_rounds 3 ?_
        rw [rounds_succ]
        go_wp2_with fail
        rw [rounds_succ]
        go_wp2_with fail
        rw [rounds_succ]
        go_wp2_with fail
        go_roundw
        case rel => exact ⟨m + 1, by omega, by go_num, by have := hc2.out; simp; omega, HB⟩
        case measure => simp [intOf]; omega
      · have hme : m = n := by omega
        subst hme
        go_wp2_with fail
        go_ret
        exact ⟨rfl, HB.out⟩
  · have : n = 0 := by omega
    subst this
    clear hr hn
    go_enter Try.func15, Try.ntmps15
    go_wp2
    refine wp_loop_rounds 1 ?_
    rw [rounds_succ]
    go_wp2
    go_ret
    exact ⟨rfl, Below.refl _ _⟩
end Go.Proofs.Ytkbpfjhikabbmaa
