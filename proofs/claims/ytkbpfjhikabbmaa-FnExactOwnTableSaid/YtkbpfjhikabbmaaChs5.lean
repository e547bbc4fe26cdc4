/- impl.chancesOf: the fractions of a list of shares. -/
import Derived.Test.YtkbpfjhikabbmaaShr5
import Derived.Test.YtkbpfjhikabbmaaPairM
import Derived.Test.YtkbpfjhikabbmaaApp
namespace Go.Proofs.Ytkbpfjhikabbmaa
open Go.RowKit

/-- the fractions of shares -/
def chP (s : Nat) : Int × Int := ((mkRat (s : Int) 479001600).num, (((mkRat (s : Int) 479001600).den : Nat) : Int))
def chM (cs : List Nat) : List (Int × Int) := cs.map chP
theorem chM_step {cs : List Nat} {j : Nat} (h : j < cs.length) : chM (cs.take (j + 1)) = chM (cs.take j) ++ [chP (cs[j]?.getD 0)] := by
  unfold chM
  rw [List.take_succ_eq_append_getElem h, List.map_append, List.getElem?_eq_getElem h]
  rfl
theorem chM_len (cs : List Nat) : (chM cs).length = cs.length := by unfold chM; rw [List.length_map]

set_option maxRecDepth 4000 in
set_option maxHeartbeats 1600000 in
theorem chancesOf_any (p : Option Addr) (cap : Nat) (cs : List Nat) (w : World) (lo hi : Nat) (hin : Ri lo hi w p (ints cs)) (hbd : ∀ c ∈ cs, c ≤ 1099511627776) (hl : cs.length ≤ 1000) :
    Calls Try.prog 31 #[.slice p (ints cs).length cap] w fun e w' => ∃ v, e = .returned v ∧ OutP w.heap.size w' v (chM cs) ∧ Below w.heap.size w w' := by
  obtain ⟨i0, hi0, hz0, hz1, hz2⟩ := info_parts infoPair
  have HO0 := Lib.hid (OutP.nilLit w)
  have HB0 : Hid (Below w.heap.size w (w.alloc (.cells #[] 48))) := (Below.refl _ _).alloc (Nat.le_refl _) _
  have HIN := Lib.hid (fun (w' : World) (h' : Below w.heap.size w w') => hin.below h' hin.top)
  have HL := Lib.hid (chM_len cs)
  rw [ints_length]
  obtain ⟨m, hm⟩ : ∃ m, cs.length = m := ⟨_, rfl⟩
  rw [hm] at hl ⊢
  have HM := Lib.hid hm
  have HBD := Lib.hid hbd
  clear hin hbd hm
  go_enter Try.func31, Try.ntmps31
  go_wp2_with fail
  go_loopw [3, 9, 5] (fun v i _ wr => ∃ (j : Nat), j ≤ m ∧ i = .int .i64 j ∧ Hid (OutP w.heap.size wr v (chM (cs.take j))) ∧ Hid (Below w.heap.size w wr)) (fun _ i _ _ => m - (intOf i).toNat)
  case atStart => exact ⟨0, Nat.zero_le _, rfl, HO0, HB0⟩
  case round =>
    obtain ⟨j, hj, rfl, HO, HB⟩ := hrel
    clear HO0 HB0
    by_cases hlt : j < m
    · have hj1 : (j : Int) < (m : Int) := by omega
      have hj0 : (0 : Int) ≤ (j : Int) := by omega
      have hjl : j < cs.length := by rw [HM.out]; exact hlt
      obtain ⟨b, off, rfl, -, -, hbw, hc⟩ := (HIN.out wr HB.out).int (by rw [ints_length]; omega)
      have h0 := hc j (by rw [ints_length]; exact hjl)
      rw [ints_get hjl] at h0
      have hx9 := HBD.out _ (nat_mem hjl)
      have hst := chM_step hjl
      have hlen := chM_len (cs.take j)
      rw [List.length_take, Nat.min_eq_left (Nat.le_of_lt hjl)] at hlen
      obtain ⟨x, hx⟩ : ∃ x, cs[j]?.getD 0 = x := ⟨_, rfl⟩
      rw [hx] at h0 hx9 hst
      have C := fun w' => chanceOf_any x hx9 w'
      unfold ratV at C
      unfold chP at hst
      obtain ⟨q, hq⟩ : ∃ q, mkRat (x : Int) 479001600 = q := ⟨_, rfl⟩
      rw [hq] at C hst
      obtain ⟨u, hu⟩ : ∃ u, q.num = u := ⟨_, rfl⟩
      obtain ⟨d, hd⟩ : ∃ d, q.den = d := ⟨_, rfl⟩
      rw [hu, hd] at C hst
      replace C := Lib.hid C
      have HST := Lib.hid hst
      have HLN := Lib.hid hlen
      clear hc hbw hx hq hst hlen hu hd
      go_wp2_with fail
      refine (C.out _).mono ?_
      rintro e w2 ⟨rfl, hb2⟩
      have HB2 := Lib.hid (HB.out.trans (hb2.mono HB.out.size))
      have HO2 := Lib.hid (HO.out.below hb2)
      clear HB HO hb2 C h0
      have hblk := Lib.hid (own_block HO2.out)
      have hsz := HB2.out.size
      obtain ⟨l, vs, hl2, hvs, hown⟩ := HO2.out.open'
      have hlk := HLN.out
      rw [hl2] at hlk
      replace hl2 := Lib.hid hl2
      replace hvs := Lib.hid hvs
      go_wp2_with (at_builtin; refine wpList_append_own _ rfl _ _ 28 rfl w.heap.size 48 i0 (.agg #[.int .i64 0, .int .i64 0]) 2 16 Try.underlying28 hi0 hz0 hz1 hz2 rfl (by decide) _ _ _ rfl (hown.alloc _) ⟨w2.heap.size, 0, none⟩ 1 1 [.int .i64 u, .int .i64 (d : Int)] rfl rfl (cell_two_new _ _ _ _) (two_one _ _) (by unfold maxLen; omega) (by omega) (by simp; omega) ?_; intro v' w3 hown' hgrow3 hnil3)
      have hG : Below w.heap.size w2 w3 := ((Below.refl w.heap.size w2).alloc hsz _).grown hgrow3 (by simp; omega) hblk.out
      have HB3 := Lib.hid (HB2.out.trans hG)
      have HO3 : Hid (OutP w.heap.size w3 v' (chM (cs.take (j + 1)))) := by
        show OutP _ _ _ _
        rw [HST.out]; exact OutP.close hl2.out hvs.out hown'
      clear hown' hgrow3 hnil3 hown hG
      go_wp2
      go_roundw
      case rel => exact ⟨j + 1, by omega, by go_num, HO3, HB3⟩
      case measure => simp [intOf]; omega
    · have hjm : j = m := by omega
      subst hjm
      have hj1 : ¬ (j : Int) < (j : Int) := by omega
      have hO := HO.out
      rw [List.take_of_length_le (by rw [HM.out]; exact Nat.le_refl _)] at hO
      have HO2 := Lib.hid hO
      clear hO HO
      go_wp2_with fail
      go_ret
      exact ⟨_, rfl, HO2.out, HB.out⟩
end Go.Proofs.Ytkbpfjhikabbmaa
