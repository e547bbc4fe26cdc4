/- Chapter 5, spec side: spec.LastSeats. -/
import Derived.Test.YtadonbnnolfbdaaOwnP
import Derived.Test.YtadonbnnolfbdaaPairM
import Derived.Test.YtadonbnnolfbdaaApp
namespace Go.Proofs.Ytadonbnnolfbdaa
open Go.RowKit

/-- the chance that the last traveler has a seat -/
def lastP (n k s : Nat) : Int × Int := if k = n then (1, (n : Int)) else if s < k ∨ s + 1 = n then (1, (k : Int) + 1) else (0, 1)
def lastM (n k : Nat) : Nat → List (Int × Int)
  | 0 => []
  | s + 1 => lastM n k s ++ [lastP n k s]
theorem lastM_len (n k s : Nat) : (lastM n k s).length = s := by
  induction s with
  | zero => rfl
  | succ s ih => show (lastM n k s ++ [lastP n k s]).length = s + 1; rw [List.length_append, ih]; rfl

set_option maxRecDepth 4000 in
set_option maxHeartbeats 1600000 in
theorem lastSeatsS_any (n k : Int) (w : World) :
    Calls Try.prog 16 #[.int .i64 n, .int .i64 k] w fun e w' => ∃ v, e = .returned (.tuple #[v, .bool (good5 n k)]) ∧ OutP w.heap.size w' v (if good5 n k then lastM n.toNat k.toNat n.toNat else []) ∧ Below w.heap.size w w' := by
  obtain ⟨i0, hi0, hz0, hz1, hz2⟩ := info_parts infoPair
  have G := l5Good_any n k
  have HO0 := Lib.hid (OutP.nilLit w)
  have HB0 : Hid (Below w.heap.size w (w.alloc (.cells #[] 22))) := (Below.refl _ _).alloc (Nat.le_refl _) _
  cases hg : good5 n k with
  | false =>
    rw [hg] at G
    replace G := Lib.hid G
    simp only [Bool.false_eq_true, if_false]
    clear hg
    go_enter Try.func16, Try.ntmps16
    go_wp2_with fail
    refine (G.out _).mono ?_
    rintro e w1 ⟨rfl, rfl⟩
    go_wp2_with fail
    go_ret2
    exact ⟨_, rfl, HO0.out, HB0.out⟩
  | true =>
    obtain ⟨n, k, rfl, rfl, h1, h2, h3⟩ := good5_is hg
    rw [hg] at G
    replace G := Lib.hid G
    simp only [if_true, Int.toNat_natCast]
    clear hg
    go_enter Try.func16, Try.ntmps16
    go_wp2_with fail
    refine (G.out _).mono ?_
    rintro e w1 ⟨rfl, rfl⟩
    clear G
    go_wp2_with fail
    go_loopw [6, 7, 23, 32] (fun v i _ _ wr => ∃ (s : Nat), s ≤ n ∧ i = .int .i64 s ∧ Hid (OutP w.heap.size wr v (lastM n k s)) ∧ Hid (Below w.heap.size w wr)) (fun _ i _ _ _ => n - (intOf i).toNat)
    case atStart => exact ⟨0, Nat.zero_le _, rfl, HO0, HB0⟩
    case round =>
      obtain ⟨s, hs, rfl, HO, HB⟩ := hrel
      clear HO0 HB0
      by_cases hlt : s < n
      · have hs1 : (s : Int) < (n : Int) := by omega
        by_cases hkn : k = n
        · have HT : Hid (lastM n k (s + 1) = lastM n k s ++ [(1, (n : Int))]) := by
            show lastM n k s ++ [lastP n k s] = _
            unfold lastP; rw [if_pos hkn]
          subst hkn
          have HL := Lib.hid (lastM_len k k s)
          have hblk := Lib.hid (own_block HO.out)
          have hsz := HB.out.size
          obtain ⟨l, vs, hl, hvs, hown⟩ := HO.out.open'
          have hlk := HL.out
          rw [hl] at hlk
          replace hl := Lib.hid hl
          replace hvs := Lib.hid hvs
          go_wp2_with (at_builtin; refine wpList_append_own _ rfl _ _ 31 rfl w.heap.size 22 i0 (.agg #[.int .i64 0, .int .i64 0]) 2 16 Try.underlying31 hi0 hz0 hz1 hz2 rfl (by decide) _ _ _ rfl (hown.alloc _) ⟨wr.heap.size, 0, none⟩ 1 1 [.int .i64 (1), .int .i64 ((k : Int))] rfl rfl (cell_two_new _ _ _ _) (two_one _ _) (by unfold maxLen; omega) (by omega) (by simp; omega) ?_; intro v' w3 hown' hgrow3 hnil3)
          have hG : Below w.heap.size wr w3 := ((Below.refl w.heap.size wr).alloc hsz _).grown hgrow3 (by simp; omega) hblk.out
          have HB3 := Lib.hid (HB.out.trans hG)
          have HO3 : Hid (OutP w.heap.size w3 v' (lastM k k (s + 1))) := by
            show OutP _ _ _ _
            rw [HT.out]; exact OutP.close hl.out hvs.out hown'
          clear hown' hgrow3 hnil3 hown hG
          go_wp2
          go_roundw
          case rel => exact ⟨s + 1, by omega, by go_num, HO3, HB3⟩
          case measure => simp [intOf]; omega
        · have hkn1 : ¬ (k : Int) = (n : Int) := by omega
          by_cases hsk : s < k
          · have hsk1 : (s : Int) < (k : Int) := by omega
            have HT : Hid (lastM n k (s + 1) = lastM n k s ++ [(1, (k : Int) + 1)]) := by
              show lastM n k s ++ [lastP n k s] = _
              unfold lastP; rw [if_neg hkn, if_pos (Or.inl hsk)]
            have HL := Lib.hid (lastM_len n k s)
            have hblk := Lib.hid (own_block HO.out)
            have hsz := HB.out.size
            obtain ⟨l, vs, hl, hvs, hown⟩ := HO.out.open'
            have hlk := HL.out
            rw [hl] at hlk
            replace hl := Lib.hid hl
            replace hvs := Lib.hid hvs
            go_wp2_with (at_builtin; refine wpList_append_own _ rfl _ _ 31 rfl w.heap.size 22 i0 (.agg #[.int .i64 0, .int .i64 0]) 2 16 Try.underlying31 hi0 hz0 hz1 hz2 rfl (by decide) _ _ _ rfl (hown.alloc _) ⟨wr.heap.size, 0, none⟩ 1 1 [.int .i64 (1), .int .i64 ((k : Int) + 1)] rfl rfl (cell_two_new _ _ _ _) (two_one _ _) (by unfold maxLen; omega) (by omega) (by simp; omega) ?_; intro v' w3 hown' hgrow3 hnil3)
            have hG : Below w.heap.size wr w3 := ((Below.refl w.heap.size wr).alloc hsz _).grown hgrow3 (by simp; omega) hblk.out
            have HB3 := Lib.hid (HB.out.trans hG)
            have HO3 : Hid (OutP w.heap.size w3 v' (lastM n k (s + 1))) := by
              show OutP _ _ _ _
              rw [HT.out]; exact OutP.close hl.out hvs.out hown'
            clear hown' hgrow3 hnil3 hown hG
            go_wp2
            go_roundw
            case rel => exact ⟨s + 1, by omega, by go_num, HO3, HB3⟩
            case measure => simp [intOf]; omega
          · have hsk1 : ¬ (s : Int) < (k : Int) := by omega
            by_cases hsn : s + 1 = n
            · have hsn1 : (s : Int) = (n : Int) - 1 := by omega
              have HT : Hid (lastM n k (s + 1) = lastM n k s ++ [(1, (k : Int) + 1)]) := by
                show lastM n k s ++ [lastP n k s] = _
                unfold lastP; rw [if_neg hkn, if_pos (Or.inr hsn)]
              have HL := Lib.hid (lastM_len n k s)
              have hblk := Lib.hid (own_block HO.out)
              have hsz := HB.out.size
              obtain ⟨l, vs, hl, hvs, hown⟩ := HO.out.open'
              have hlk := HL.out
              rw [hl] at hlk
              replace hl := Lib.hid hl
              replace hvs := Lib.hid hvs
              go_wp2_with (at_builtin; refine wpList_append_own _ rfl _ _ 31 rfl w.heap.size 22 i0 (.agg #[.int .i64 0, .int .i64 0]) 2 16 Try.underlying31 hi0 hz0 hz1 hz2 rfl (by decide) _ _ _ rfl (hown.alloc _) ⟨wr.heap.size, 0, none⟩ 1 1 [.int .i64 (1), .int .i64 ((k : Int) + 1)] rfl rfl (cell_two_new _ _ _ _) (two_one _ _) (by unfold maxLen; omega) (by omega) (by simp; omega) ?_; intro v' w3 hown' hgrow3 hnil3)
              have hG : Below w.heap.size wr w3 := ((Below.refl w.heap.size wr).alloc hsz _).grown hgrow3 (by simp; omega) hblk.out
              have HB3 := Lib.hid (HB.out.trans hG)
              have HO3 : Hid (OutP w.heap.size w3 v' (lastM n k (s + 1))) := by
                show OutP _ _ _ _
                rw [HT.out]; exact OutP.close hl.out hvs.out hown'
              clear hown' hgrow3 hnil3 hown hG
              go_wp2
              go_roundw
              case rel => exact ⟨s + 1, by omega, by go_num, HO3, HB3⟩
              case measure => simp [intOf]; omega
            · have hsn1 : ¬ (s : Int) = (n : Int) - 1 := by omega
              have HT : Hid (lastM n k (s + 1) = lastM n k s ++ [(0, 1)]) := by
                show lastM n k s ++ [lastP n k s] = _
                unfold lastP; rw [if_neg hkn, if_neg (by omega)]
              have HL := Lib.hid (lastM_len n k s)
              have hblk := Lib.hid (own_block HO.out)
              have hsz := HB.out.size
              obtain ⟨l, vs, hl, hvs, hown⟩ := HO.out.open'
              have hlk := HL.out
              rw [hl] at hlk
              replace hl := Lib.hid hl
              replace hvs := Lib.hid hvs
              go_wp2_with (at_builtin; refine wpList_append_own _ rfl _ _ 31 rfl w.heap.size 22 i0 (.agg #[.int .i64 0, .int .i64 0]) 2 16 Try.underlying31 hi0 hz0 hz1 hz2 rfl (by decide) _ _ _ rfl (hown.alloc _) ⟨wr.heap.size, 0, none⟩ 1 1 [.int .i64 (0), .int .i64 (1)] rfl rfl (cell_two_new _ _ _ _) (two_one _ _) (by unfold maxLen; omega) (by omega) (by simp; omega) ?_; intro v' w3 hown' hgrow3 hnil3)
              have hG : Below w.heap.size wr w3 := ((Below.refl w.heap.size wr).alloc hsz _).grown hgrow3 (by simp; omega) hblk.out
              have HB3 := Lib.hid (HB.out.trans hG)
              have HO3 : Hid (OutP w.heap.size w3 v' (lastM n k (s + 1))) := by
                show OutP _ _ _ _
                rw [HT.out]; exact OutP.close hl.out hvs.out hown'
              clear hown' hgrow3 hnil3 hown hG
              go_wp2
              go_roundw
              case rel => exact ⟨s + 1, by omega, by go_num, HO3, HB3⟩
              case measure => simp [intOf]; omega
      · have hsn : s = n := by omega
        subst hsn
        have hs1 : ¬ (s : Int) < (s : Int) := by omega
        go_wp2_with fail
        go_ret2
        exact ⟨_, rfl, HO.out, HB.out⟩
end Go.Proofs.Ytadonbnnolfbdaa
