/- Chapter 9, impl side: impl.addLonger, and what CountSpaced is told. -/
import Derived.Test.YtoedcklgpmhnnaaMidA9
import Derived.RegionTactic
namespace Go.Proofs.Ytoedcklgpmhnnaa
open Go.RowKit

set_option maxRecDepth 4000 in
set_option maxHeartbeats 2000000 in
theorem addLonger_any (b o : Nat) (e : TypeId) (L : List Value) (f g : Nat → Nat) (p : Int) (w : World) (hA : OwnArr w b e L) (ho : o + 25 ≤ L.length) (hL : ∀ k, k < 25 → L[o + k]? = some (.int .i64 ((g k : Nat) : Int))) (hf : ∀ k, f k ≤ 16777216) (hg : ∀ k, g k ≤ 1000000000) :
    Calls Try.prog 40 #[.pointer (some ⟨b, o, none⟩), .agg (cv f).toArray, .int .i64 p] w fun ex w' => ex = .returned (.tuple #[]) ∧ ∃ L', OwnArr w' b e L' ∧ AddT o L L' (adA f g) ∧ w.grownBy w' (some b) := by
  have hX := OwnArr.made w 55 (cv f)
  have HX0 := Lib.hid hX
  have HA0 := Lib.hid (hA.alloc (.cells (cv f).toArray 55))
  have HG0 : Hid (w.grownBy (w.alloc (.cells (cv f).toArray 55)) (some b)) := grown_allocA (grown_reflA w _) _
  have HL0 : Hid (AddT o L L (mxA f g 0)) := ⟨rfl, fun k hk => by rw [hL k hk, mxA_zero], fun _ _ => rfl⟩
  have HF := Lib.hid hf
  have HGB := Lib.hid hg
  have HO := Lib.hid ho
  have hcf : ∀ k, k < 25 → (cv f)[k]? = some (.int .i64 ((f k : Nat) : Int)) := fun k hk => cv_get hk
  have HCF := Lib.hid hcf
  have hne : w.heap.size ≠ b := by have := hA.lt; omega
  have HNE := Lib.hid hne
  obtain ⟨C, hC⟩ : ∃ C, cv f = C := ⟨_, rfl⟩
  rw [hC] at HX0 HA0 HG0 HCF ⊢
  have hci : (Try.prog.info? 55).map (·.size) = some 25 := by kernel_rfl
  clear hX hA hL hf hg ho hcf hne hC hci
  go_enter Try.func40, Try.ntmps40
  go_wp2_with fail
  go_loopw [6, 7, 10] (fun _ _ iv wr => ∃ (k : Nat) (L' : List Value), k ≤ 24 ∧ iv = .int .i64 (k : Int) ∧ Hid (OwnArr wr b e L') ∧ Hid (AddT o L L' (mxA f g k)) ∧ Hid (OwnArr wr w.heap.size 55 C) ∧ Hid (w.grownBy wr (some b))) (fun _ _ iv _ => 24 - (intOf iv).toNat)
  case atStart => exact ⟨0, L, Nat.zero_le _, rfl, HA0, HL0, HX0, HG0⟩
  case round =>
    obtain ⟨k, L', hk, rfl, HA, HL, HX, HG⟩ := hrel
    clear HA0 HL0 HX0 HG0
    by_cases hlt : k < 24
    · have hki : (k : Int) < 24 := by omega
      have hk0 : (0 : Int) ≤ (k : Int) := by omega
      obtain ⟨K, hK⟩ : ∃ K, k + 1 = K := ⟨_, rfl⟩
      have hKi : (k : Int) + 1 = (K : Int) := by omega
      have hwK : IntKind.i64.wrap (K : Int) = (K : Int) := IntWalk.i64_in _ (by omega)
      have hK25 : (K : Int) < 25 := by omega
      have hK0 : (0 : Int) ≤ (K : Int) := by omega
      have hcx := HX.out.cell k
      rw [HCF.out k (by omega)] at hcx
      have hca := HA.out.cell (o + K)
      rw [HL.out.2.1 K (by omega)] at hca
      have hfa := HA.out.free (o + K)
      have hnew := mxA_new f g k
      rw [hK] at hnew
      have hb1 := HF.out k
      have hb2 : mxA f g k K ≤ 1016777216 := by
        unfold mxA
        have := HGB.out K
        split
        · have := HF.out (K - 1); omega
        · omega
      obtain ⟨x, hx⟩ : ∃ x, mxA f g k K = x := ⟨_, rfl⟩
      obtain ⟨y, hy⟩ : ∃ y, f k = y := ⟨_, rfl⟩
      rw [hx] at hca hnew hb2
      rw [hy] at hcx hnew hb1
      obtain ⟨z, hz⟩ : ∃ z, x + y = z := ⟨_, rfl⟩
      have hzi : (x : Int) + (y : Int) = (z : Int) := by omega
      have hwz : IntKind.i64.wrap (z : Int) = (z : Int) := IntWalk.i64_in _ (by omega)
      rw [hz] at hnew
      have HA2 := Lib.hid ((HA.out.set (o + K) (.int .i64 (z : Int))).drew)
      have HG2 := Lib.hid (grown_drewA (grown_setA (b := b) (o := o + K) (v := .int .i64 (z : Int)) HG.out (.inl rfl)))
      have HX2 := Lib.hid ((HX.out.other (a := ⟨b, o + K, none⟩) HNE.out (.int .i64 (z : Int))).drew)
      have HL2 : Hid (AddT o L (L'.set (o + K) (.int .i64 (z : Int))) (mxA f g (k + 1))) := by
        show AddT _ _ _ _
        obtain ⟨l1, l2, l3⟩ := HL.out
        have := HO.out
        refine ⟨by rw [List.length_set, l1], fun i hi => ?_, fun i hi => ?_⟩
        · rw [List.getElem?_set]
          by_cases e : K = i
          · subst e
            rw [if_pos rfl, if_pos (by omega), hK, hnew]
          · rw [if_neg (by omega), l2 i hi, mxA_old f g k i (by omega)]
        · rw [List.getElem?_set, if_neg (by omega), l3 i hi]
      clear hnew hx hy hz hK HA HL HX HG
      go_wp2_with fail
      go_region
      all_goals
        go_wp2_with fail
        go_roundw
        case rel => exact ⟨k + 1, _, by omega, by go_num, HA2, HL2, HX2, HG2⟩
        case measure => simp [intOf]; omega
    · have hk24 : k = 24 := by omega
      have hki : ¬ (k : Int) < 24 := by omega
      have HL2 : Hid (AddT o L L' (adA f g)) := by
        show AddT _ _ _ _
        obtain ⟨l1, l2, l3⟩ := HL.out
        exact ⟨l1, fun i hi => by rw [l2 i hi, hk24, mxA_all hi], l3⟩
      clear hk24 HL
      go_wp2_with fail
      exact bodyPost_end (results_none rfl _ _ _) rfl ⟨rfl, L', HA.out, HL2.out, HG.out⟩

set_option maxHeartbeats 1000000 in
theorem tellC_any (cb kb K : Nat) (c : Nat) (f : Nat → Nat) (w : World) (hC : OwnArr w cb 3 [.int .i64 (c : Int)]) (hK : OwnArr w kb 3 [.int .i64 (K : Int)]) (hk : K ≤ 24) (hc : c ≤ 1000000000000) (hf : ∀ k, f k ≤ 16777216) :
    Calls Try.prog 41 #[.agg (cv f).toArray, .pointer (some ⟨cb, 0, none⟩), .pointer (some ⟨kb, 0, none⟩)] w fun ex w' => ex = .returned (.tuple #[]) ∧ OwnArr w' cb 3 [.int .i64 ((c + f K : Nat) : Int)] ∧ w.grownBy w' (some cb) := by
  have hX := OwnArr.made w 55 (cv f)
  have hC1 := hC.alloc (.cells (cv f).toArray 55)
  have hK1 := hK.alloc (.cells (cv f).toArray 55)
  have hG0 : w.grownBy (w.alloc (.cells (cv f).toArray 55)) (some cb) := grown_allocA (grown_reflA w _) _
  have hcx := hX.cell K
  rw [cv_get (by omega)] at hcx
  have hfk := hf K
  obtain ⟨y, hy⟩ : ∃ y, f K = y := ⟨_, rfl⟩
  rw [hy] at hcx hfk ⊢
  obtain ⟨C, hCC⟩ : ∃ C, cv f = C := ⟨_, rfl⟩
  rw [hCC] at hX hC1 hK1 hG0 hcx ⊢
  obtain ⟨w1, hw1⟩ : ∃ w1, w1 = w.alloc (.cells C.toArray 55) := ⟨_, rfl⟩
  rw [← hw1] at hX hC1 hK1 hG0 hcx
  have HW : Hid (w.alloc (.cells C.toArray 55) = w1) := hw1.symm
  obtain ⟨z, hz⟩ : ∃ z, c + y = z := ⟨_, rfl⟩
  rw [hz]
  have hzi : (c : Int) + (y : Int) = (z : Int) := by omega
  have hwz : IntKind.i64.wrap (z : Int) = (z : Int) := IntWalk.i64_in _ (by omega)
  have hki : (K : Int) < 25 := by omega
  have hk0 : (0 : Int) ≤ (K : Int) := by omega
  have h1 : w1.cell? ⟨cb, 0, none⟩ = some (.int .i64 (c : Int)) := hC1.cell 0
  have h2 : w1.cell? ⟨kb, 0, none⟩ = some (.int .i64 (K : Int)) := hK1.cell 0
  have h3 := hC1.free 0
  have HC2 : Hid (OwnArr (w1.setCell ⟨cb, 0, none⟩ (.int .i64 (z : Int))).drew cb 3 [.int .i64 (z : Int)]) := (hC1.set 0 _).drew
  have HG2 := Lib.hid (grown_drewA (grown_setA (b := cb) (o := 0) (v := .int .i64 (z : Int)) hG0 (.inl rfl)))
  clear hX hC1 hK1 hG0 hC hK hy hz hw1 hCC
  go_enter Try.func41, Try.ntmps41
  go_upto_region 1 with fail
  rw [HW.out]
  go_region
  all_goals
    go_wp2_with fail
    exact bodyPost_end (results_none rfl _ _ _) rfl ⟨rfl, HC2.out, HG2.out⟩
end Go.Proofs.Ytoedcklgpmhnnaa
