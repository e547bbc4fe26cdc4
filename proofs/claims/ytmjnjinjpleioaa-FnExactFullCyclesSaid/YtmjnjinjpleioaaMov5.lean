/- Chapter 5, spec side: spec.MovesOf. -/
import Derived.Test.YtmjnjinjpleioaaAsk5
import Derived.Test.YtmjnjinjpleioaaPairM
namespace Go.Proofs.Ytmjnjinjpleioaa
open Go.RowKit

/-- the moves of the first j travelers -/
def movM (xs : List Int) : Nat → List (Int × Int)
  | 0 => []
  | j + 1 => movM xs j ++ (if xs[j]?.getD 0 = (j : Int) then [] else [((j : Int), xs[j]?.getD 0)])
theorem movM_len (xs : List Int) (j : Nat) : (movM xs j).length ≤ j := by
  induction j with
  | zero => exact Nat.le_refl _
  | succ j ih =>
    show (movM xs j ++ _).length ≤ j + 1
    rw [List.length_append]
    split <;> simp <;> omega
theorem askB_is {n k : Int} {xs : List Int} (h : askB n k xs = true) : ∃ a b : Nat, n = a ∧ k = b ∧ 1 ≤ a ∧ a ≤ 12 ∧ b ≤ a ∧ xs.length = a ∧ possM a b xs a = true := by
  unfold askB at h
  rw [Bool.and_eq_true] at h
  obtain ⟨a, b, rfl, rfl, h1, h2, h3⟩ := good5_is h.1
  have hp := h.2
  simp only [Int.toNat_natCast] at hp
  unfold posB at hp
  rw [Bool.and_eq_true, decide_eq_true_eq] at hp
  exact ⟨a, b, rfl, rfl, h1, h2, h3, hp.1, hp.2⟩

set_option maxRecDepth 4000 in
set_option maxHeartbeats 1600000 in
theorem movesS_any (n k : Int) (p : Option Addr) (cap : Nat) (xs : List Int) (w : World) (lo hi : Nat) (hin : Ri lo hi w p xs) (hcap : xs.length ≤ cap) (hcm : cap ≤ maxLen) (hlen : xs.length ≤ 1048576) :
    Calls Try.prog 9 #[.int .i64 n, .int .i64 k, .slice p xs.length cap] w fun e w' => ∃ v, e = .returned (.tuple #[v, .bool (askB n k xs)]) ∧ OutP w.heap.size w' v (if askB n k xs then movM xs n.toNat else []) ∧ Below w.heap.size w w' := by
  obtain ⟨i0, hi0, hz0, hz1, hz2⟩ := info_parts infoPair
  have hO0 := OutP.nilLit w
  have hB0 : Below w.heap.size w (w.alloc (.cells #[] 44)) := (Below.refl _ _).alloc (Nat.le_refl _) _
  have A := l5Ask_any n k p cap xs _ lo hi (hin.bel hB0) hcap hcm hlen
  have HO0 := Lib.hid hO0
  have HB0 := Lib.hid hB0
  cases ha : askB n k xs with
  | false =>
    rw [ha] at A
    replace A := Lib.hid A
    simp only [Bool.false_eq_true, if_false]
    obtain ⟨m, hm⟩ : ∃ m, xs.length = m := ⟨_, rfl⟩
    rw [hm] at A ⊢
    clear ha hm hin hO0 hB0
    go_enter Try.func9, Try.ntmps9
    go_wp2_with fail
    refine A.out.mono ?_
    rintro e w1 ⟨rfl, hb1⟩
    have HO1 := Lib.hid (HO0.out.below hb1)
    have HB1 := Lib.hid (HB0.out.trans (hb1.mono HB0.out.size))
    go_wp2_with fail
    go_ret2
    exact ⟨_, rfl, HO1.out, HB1.out⟩
  | true =>
    obtain ⟨n, k, rfl, rfl, h1, h2, h3, hl, -⟩ := askB_is ha
    rw [ha] at A
    obtain ⟨b, off, rfl, -, -, hbw, hc⟩ := hin.int (by omega)
    have HC := Lib.hid (fun (i : Nat) (hi' : i < n) (w' : World) (h' : Below w.heap.size w w') => (h'.cell (p := ⟨b, off + i, none⟩) hbw).trans (hc i (by omega)))
    rw [hl] at A ⊢
    replace A := Lib.hid A
    simp only [if_true, Int.toNat_natCast]
    clear ha hin hO0 hB0 hc
    go_enter Try.func9, Try.ntmps9
    go_wp2_with fail
    refine A.out.mono ?_
    rintro e w1 ⟨rfl, hb1⟩
    have HO1 : Hid (OutP w.heap.size w1 (.slice (some ⟨w.heap.size, 0, none⟩) 0 0) (movM xs 0)) := HO0.out.below hb1
    have HB1 := Lib.hid (HB0.out.trans (hb1.mono HB0.out.size))
    clear A HO0 HB0 hb1
    go_wp2_with fail
    go_loopw [8, 9] (fun v i wr => ∃ (s : Nat), s ≤ n ∧ i = .int .i64 s ∧ Hid (OutP w.heap.size wr v (movM xs s)) ∧ Hid (Below w.heap.size w wr)) (fun _ i _ => n - (intOf i).toNat)
    case atStart => exact ⟨0, Nat.zero_le _, rfl, HO1, HB1⟩
    case round =>
      obtain ⟨s, hs, rfl, HO, HB⟩ := hrel
      clear HO1 HB1
      by_cases hlt : s < n
      · have hs1 : (s : Int) < (n : Int) := by omega
        have hs0 : (0 : Int) ≤ (s : Int) := by omega
        have h0 := HC.out s hlt _ HB.out
        have hst : movM xs (s + 1) = movM xs s ++ (if xs[s]?.getD 0 = (s : Int) then [] else [((s : Int), xs[s]?.getD 0)]) := rfl
        obtain ⟨x, hx⟩ : ∃ x, xs[s]?.getD 0 = x := ⟨_, rfl⟩
        rw [hx] at h0 hst
        by_cases hxs : x = (s : Int)
        · rw [if_pos hxs, List.append_nil] at hst
          have hO := HO.out
          rw [← hst] at hO
          have HO2 := Lib.hid hO
          subst hxs
          clear hst hx hO HO
          go_wp2_with fail
          go_roundw
          case rel => exact ⟨s + 1, by omega, by go_num, HO2, HB⟩
          case measure => simp [intOf]; omega
        · rw [if_neg hxs] at hst
          have HT := Lib.hid hst
          have HL := Lib.hid (movM_len xs s)
          have hblk := Lib.hid (own_block HO.out)
          have hsz := HB.out.size
          obtain ⟨l, vs, hl, hvs, hown⟩ := HO.out.open'
          have hlk := HL.out
          rw [hl] at hlk
          replace hl := Lib.hid hl
          replace hvs := Lib.hid hvs
          clear hst hx
          go_wp2_with (at_builtin; refine wpList_append_own _ rfl _ _ 23 rfl w.heap.size 44 i0 (.agg #[.int .i64 0, .int .i64 0]) 2 16 Try.underlying23 hi0 hz0 hz1 hz2 rfl (by decide) _ _ _ rfl (hown.alloc _) ⟨wr.heap.size, 0, none⟩ 1 1 [.int .i64 (s : Int), .int .i64 x] rfl rfl (cell_two_new _ _ _ _) (two_one _ _) (by unfold maxLen; omega) (by omega) (by simp; omega) ?_; intro v' w3 hown' hgrow3 hnil3)
          have hG : Below w.heap.size wr w3 := ((Below.refl w.heap.size wr).alloc hsz _).grown hgrow3 (by simp; omega) hblk.out
          have HB3 := Lib.hid (HB.out.trans hG)
          have HO3 : Hid (OutP w.heap.size w3 v' (movM xs (s + 1))) := by
            show OutP _ _ _ _
            rw [HT.out]; exact OutP.close hl.out hvs.out hown'
          clear hown' hgrow3 hnil3 hown hG
          go_wp2
          go_roundw
          case rel => exact ⟨s + 1, by omega, by go_num, HO3, HB3⟩
          case measure => simp [intOf]; omega
      · have hsn : s = n := by omega
        subst hsn
        have hs1 : ¬ (s : Int) < (s : Int) := by omega
        go_wp2_with fail
        go_ret2
        exact ⟨_, rfl, HO.out, HB.out⟩
end Go.Proofs.Ytmjnjinjpleioaa
