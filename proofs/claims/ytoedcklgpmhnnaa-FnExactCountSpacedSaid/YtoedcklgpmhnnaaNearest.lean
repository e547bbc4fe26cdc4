/- The nearest seat of a list: spec.l2Nearest, for the seats of a valid Row. -/
import Derived.Test.YtoedcklgpmhnnaaGapS
import Derived.Test.YtoedcklgpmhnnaaOut
import Derived.StillTailTactics
namespace Go.Proofs.Ytoedcklgpmhnnaa
open Go.RowKit

theorem least_step (g : Nat → Nat) (x : Nat) {l : List Nat} {k : Nat} (h : k < l.length) : leastOf g x (l.take (k + 1)) = if g (l[k]?.getD 0) < g (leastOf g x (l.take k)) then l[k]?.getD 0 else leastOf g x (l.take k) := by
  rw [List.take_succ_eq_append_getElem h, leastOf_snoc, List.getElem?_eq_getElem h]; rfl
theorem least_first (g : Nat → Nat) {l : List Nat} (h : 0 < l.length) : leastOf g (l[0]?.getD 0) (l.take (0 + 1)) = l[0]?.getD 0 := by
  rw [least_step g _ h]
  simp [leastOf]

/-- what spec.l2Nearest gives: -1 twice if there is none -/
def nearP (g : Nat → Nat) (l : List Nat) : Int × Int := if l.length = 0 then (-1, -1) else ((leastOf g (l[0]?.getD 0) l : Nat), (g (leastOf g (l[0]?.getD 0) l) : Nat))

set_option maxRecDepth 4000 in
set_option maxHeartbeats 2000000 in
theorem nearestS_any (n : Nat) (ring : Bool) (p : Option Addr) (m cap : Nat) (q : Option Addr) (qcap : Nat) (l : List Nat) (a : Nat) (w : World) (lo hi : Nat) (hin : Ri lo hi w q (ints l)) (hl : ∀ x ∈ l, x < n) (hll : l.length ≤ 24) (hn : n ≤ 24) (ha : a < n) :
    Calls Try.prog 77 #[rowV n ring p m cap, .slice q l.length qcap, .int .i64 a] w fun e w' => e = .returned (.tuple #[.int .i64 (nearP (gapM n ring a) l).1, .int .i64 (nearP (gapM n ring a) l).2]) ∧ Below w.heap.size w w' := by
  have HX0 := Lib.hid (OwnArr.made w 28 [.int .i64 n, .bool ring, .slice p m cap])
  have HB0 := Lib.hid (box_below w n ring p m cap 28)
  have HIN := Lib.hid hin
  have HL := Lib.hid hl
  clear hin hl
  obtain ⟨x0, hx0⟩ : ∃ x0, l[0]?.getD 0 = x0 := ⟨_, rfl⟩
  replace hx0 := Lib.hid hx0
  go_enter Try.func77, Try.ntmps77
  go_wp2_with fail
  go_loopw [8, 9, 10, 11] (fun s d i _ wr => ∃ (k : Nat), k ≤ l.length ∧ i = .int .i64 k ∧ ((k = 0 ∧ s = .int .i64 (-1) ∧ d = .int .i64 (-1)) ∨ (0 < k ∧ ∃ b : Nat, s = .int .i64 b ∧ d = .int .i64 (gapM n ring a b : Nat) ∧ Hid (b = leastOf (gapM n ring a) x0 (l.take k)))) ∧ Hid (OwnArr wr w.heap.size 28 [.int .i64 n, .bool ring, .slice p m cap]) ∧ Hid (Below w.heap.size w wr)) (fun _ _ i _ _ => l.length - (intOf i).toNat)
  case atStart => exact ⟨0, Nat.zero_le _, rfl, .inl ⟨rfl, rfl, rfl⟩, HX0, HB0⟩
  case round =>
    obtain ⟨k, hk, rfl, hs, HX, HB⟩ := hrel
    clear HX0 HB0
    obtain ⟨c0, c1, c2, -⟩ := HX.out.three
    by_cases hlt : k < l.length
    · obtain ⟨b, off, rfl, _, _, hb, hc⟩ := HIN.out.int (by rw [ints_length]; omega)
      rw [ints_length] at hc
      have h0 := (HB.out.cell (p := ⟨b, off + k, none⟩) hb).trans (hc k hlt)
      rw [ints_get hlt] at h0
      have hst := least_step (gapM n ring a) x0 hlt
      have hxn := HL.out _ (nat_mem hlt)
      have hfst : Hid (k = 0 → l[k]?.getD 0 = x0) := by
        intro h
        subst h
        exact hx0.out
      obtain ⟨x, hx⟩ : ∃ x, l[k]?.getD 0 = x := ⟨_, rfl⟩
      rw [hx] at h0 hst hxn hfst
      replace hst := Lib.hid hst
      have G := Lib.hid (gapS_any n ring p m cap a x (wr.drew) hn ha hxn)
      clear hx hc
      have hk0 : (0 : Int) ≤ (k : Int) := by omega
      have hk1 : (k : Int) < (l.length : Int) := by omega
      have step : ∀ {P' : Prop}, P' → P' := fun h => h
      clear step
      rcases hs with ⟨hk0', rfl, rfl⟩ | ⟨hk0', y, rfl, rfl, hy⟩
      · have hnew : Hid (x = leastOf (gapM n ring a) x0 (l.take (k + 1))) := by
          show _ = _
          have e := hst.out
          subst hk0'
          rw [e]
          simp only [List.take_zero, leastOf, List.foldl_nil]
          rw [hfst.out rfl]
          simp
        clear hst hfst hk0'
        obtain ⟨g, hg⟩ : ∃ g, gapM n ring a x = g := ⟨_, rfl⟩
        rw [hg] at G
        replace hg := Lib.hid hg
        go_wp2_with fail
        go_still_tail 6, (by kernel_rfl)
        change wpList _ _ _ _ _ wr.drew
        go_wp2_with fail
        refine G.out.mono ?_
        rintro e w2 ⟨rfl, hb2⟩
        have hb3 : Below wr.heap.size wr w2 := ((Below.refl _ wr).drew).trans hb2
        have HX2 := Lib.hid (HX.out.below hb3 HX.out.lt)
        have HB2 := Lib.hid (HB.out.trans (hb3.mono HB.out.size))
        have h0' := (hb3.cell (p := ⟨b, off + k, none⟩) (by have := HB.out.size; show b < _; omega)).trans h0
        clear HX HB hb2 hb3 c0 c1 c2 G h0
        go_wp2_with fail
        go_roundw
        case rel => exact ⟨k + 1, by omega, by go_num, .inr ⟨by omega, x, rfl, by rw [hg.out], hnew⟩, HX2, HB2⟩
        case measure => simp [intOf]; omega
      · have hyn : ¬ (y : Int) < 0 := by omega
        have hst2 := hst.out
        rw [← hy.out] at hst2
        clear hst hfst
        obtain ⟨g, hg⟩ : ∃ g, gapM n ring a x = g := ⟨_, rfl⟩
        rw [hg] at G
        obtain ⟨d, hd⟩ : ∃ d, gapM n ring a y = d := ⟨_, rfl⟩
        rw [hd, hg] at hst2
        rw [hd]
        replace hg := Lib.hid hg
        replace hd := Lib.hid hd
        by_cases hlt2 : g < d
        · rw [if_pos hlt2] at hst2
          have hnew := Lib.hid hst2.symm
          clear hst2
          go_wp2_with fail
          go_still_tail 6, (by kernel_rfl)
          change wpList _ _ _ _ _ wr.drew
          go_wp2_with fail
          refine G.out.mono ?_
          rintro e w2 ⟨rfl, hb2⟩
          have hb3 : Below wr.heap.size wr w2 := ((Below.refl _ wr).drew).trans hb2
          have HX2 := Lib.hid (HX.out.below hb3 HX.out.lt)
          have HB2 := Lib.hid (HB.out.trans (hb3.mono HB.out.size))
          have h0' := (hb3.cell (p := ⟨b, off + k, none⟩) (by have := HB.out.size; show b < _; omega)).trans h0
          clear HX HB hb2 hb3 c0 c1 c2 G h0
          go_wp2_with fail
          go_roundw
          case rel => exact ⟨k + 1, by omega, by go_num, .inr ⟨by omega, x, rfl, by rw [hg.out], hnew⟩, HX2, HB2⟩
          case measure => simp [intOf]; omega
        · rw [if_neg hlt2] at hst2
          have hnew := Lib.hid hst2.symm
          clear hst2
          go_wp2_with fail
          go_still_tail 6, (by kernel_rfl)
          change wpList _ _ _ _ _ wr.drew
          go_wp2_with fail
          refine G.out.mono ?_
          rintro e w2 ⟨rfl, hb2⟩
          have hb3 : Below wr.heap.size wr w2 := ((Below.refl _ wr).drew).trans hb2
          have HX2 := Lib.hid (HX.out.below hb3 HX.out.lt)
          have HB2 := Lib.hid (HB.out.trans (hb3.mono HB.out.size))
          clear HX HB hb2 hb3 c0 c1 c2 G h0
          go_wp2_with fail
          go_roundw
          case rel => exact ⟨k + 1, by omega, by go_num, .inr ⟨by omega, y, rfl, by rw [hd.out], hnew⟩, HX2, HB2⟩
          case measure => simp [intOf]; omega
    · have hkl : k = l.length := by omega
      rcases hs with ⟨h0, rfl, rfl⟩ | ⟨h0, y, rfl, rfl, hy⟩
      · have hAB : Hid (nearP (gapM n ring a) l = (-1, -1)) := by
          show _ = _
          unfold nearP
          rw [if_pos (by omega)]
        go_wp2_with fail
        go_ret2
        exact ⟨by rw [hAB.out]; rfl, HB.out⟩
      · have hAB : Hid (nearP (gapM n ring a) l = ((y : Int), ((gapM n ring a y : Nat) : Int))) := by
          show _ = _
          have e := hy.out
          rw [hkl, List.take_of_length_le (Nat.le_refl _), ← hx0.out] at e
          unfold nearP
          rw [if_neg (by omega), ← e]
        go_wp2_with fail
        go_ret2
        exact ⟨by rw [hAB.out]; rfl, HB.out⟩
end Go.Proofs.Ytoedcklgpmhnnaa
