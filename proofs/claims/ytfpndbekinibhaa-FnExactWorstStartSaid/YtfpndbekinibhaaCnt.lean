/- spec.l3Bare, spec.l3Counts and impl.SettleCounts: how many newcomers settle a Row without taken seats, by the first one's seat. -/
import Derived.Test.YtfpndbekinibhaaSetL
namespace Go.Proofs.Ytfpndbekinibhaa
open Go.RowKit

def oneS (p : Nat) : Nat → Bool := fun i => decide (i = p)
theorem tk_one {n p : Nat} (h : p < n) : ints (tk n (oneS p)) = [(p : Int)] := by
  have e := take_spec (S := fun _ => false) h rfl
  have e0 : tk n (fun _ => false) = [] := by
    unfold tk
    rw [List.filter_eq_nil_iff]
    intro a _
    simp
  rw [e0] at e
  have e1 : tk n (oneS p) = tk n (fun i => (fun _ => false) i || decide (i = p)) := tk_congr fun k _ => by unfold oneS; simp
  rw [e1, ← e]; rfl
/-- how many newcomers in all settle, the first one at p -/
def cntM (n : Nat) (ring : Bool) (p : Nat) : Nat := (ordM n ring 2 24 (oneS p)).length + 1
def cntL (n : Nat) (ring : Bool) (k : Nat) : List Int := ints ((List.range k).map (cntM n ring))
theorem cntL_succ (n : Nat) (ring : Bool) (k : Nat) : cntL n ring (k + 1) = cntL n ring k ++ [(((ordM n ring 2 24 (oneS k)).length : Nat) : Int) + 1] := by
  unfold cntL
  rw [List.range_succ, List.map_append, ints_append]; rfl
theorem cntL_len (n : Nat) (ring : Bool) (k : Nat) : (cntL n ring k).length = k := by
  unfold cntL
  rw [ints_length, List.length_map, List.length_range]

set_option maxHeartbeats 800000 in
theorem bareS_any (s : Int) (ring : Bool) (w : World) :
    Calls Try.prog 23 #[.int .i64 s, .bool ring] w fun e w' => e = .returned (.bool (rowB s ring [])) ∧ Below w.heap.size w w' := by
  have hb := (Below.refl w.heap.size w).alloc (Nat.le_refl _) (.cells #[] 3)
  have I := Lib.hid (l2Row_any s ring (some ⟨w.heap.size, 0, none⟩) 0 [] (w.alloc (.cells #[] 3)) 0 0 (Rd.nil 0 0 _ _ (Nat.zero_le _)) (by simp))
  have HB := Lib.hid hb
  clear hb
  go_enter Try.func23, Try.ntmps23
  go_wp2_with fail
  refine I.out.mono ?_
  rintro e w1 ⟨rfl, hb1⟩
  go_wp2_with fail
  go_ret
  exact ⟨rfl, HB.out.trans (hb1.mono HB.out.size)⟩

set_option maxRecDepth 4000 in
set_option maxHeartbeats 2000000 in
theorem countsS_any (n : Nat) (ring : Bool) (w : World) (h2 : 2 ≤ n) (hn : n ≤ 24) :
    Calls Try.prog 45 #[.int .i64 n, .bool ring] w fun e w' => ∃ v, e = .returned v ∧ Out w.heap.size w' v (cntL n ring n) ∧ Below w.heap.size w w' := by
  have ST : Hid (∀ (p : Nat), p < n → ∀ (W : World), Calls Try.prog 62 #[rowV n ring (some ⟨W.heap.size, 0, none⟩) 1 1] (W.alloc (.cells #[.int .i64 (p : Int)] 3)) fun e w' => ∃ u, e = .returned (.tuple #[.agg #[.int .i64 n, .bool ring, u], .int .i64 ((ordM n ring 2 24 (oneS p)).length : Nat)]) ∧ Out W.heap.size w' u (ints (tk n (aftM n ring 2 24 (oneS p)))) ∧ Below W.heap.size (W.alloc (.cells #[.int .i64 (p : Int)] 3)) w') := by
    show ∀ _, _
    intro p hp W
    have e := tk_one hp
    have := settleL_any n ring (some ⟨W.heap.size, 0, none⟩) 1 (oneS p) (W.alloc (.cells #[.int .i64 (p : Int)] 3)) W.heap.size (by rw [e]; exact lit_out W p) (by simp) h2 hn
    rw [e] at this
    exact this.mono fun e' w' ⟨u, h1, h2, h3⟩ => ⟨u, h1, h2, h3.mono (by simp)⟩
  have HO0 : Hid (Out w.heap.size (w.alloc (.cells #[] 3)) (.slice (some ⟨w.heap.size, 0, none⟩) 0 0) (cntL n ring 0)) := Out.nilLit w
  have HB0 := Lib.hid ((Below.refl w.heap.size w).alloc (Nat.le_refl _) (.cells #[] 3))
  clear h2
  go_enter Try.func45, Try.ntmps45
  go_wp2_with fail
  go_loopw [5, 6, 7, 8] (fun v i _ _ wr => ∃ (k : Nat), k ≤ n ∧ i = .int .i64 k ∧ Hid (Out w.heap.size wr v (cntL n ring k)) ∧ Hid (Below w.heap.size w wr)) (fun _ i _ _ _ => n - (intOf i).toNat)
  case atStart => exact ⟨0, Nat.zero_le _, rfl, HO0, HB0⟩
  case round =>
    obtain ⟨k, hk, rfl, HO, HB⟩ := hrel
    clear HO0 HB0
    by_cases hlt : k < n
    · have hk1 : (k : Int) < (n : Int) := by omega
      have S1 := Lib.hid (ST.out k hlt wr)
      have HT := Lib.hid (cntL_succ n ring k)
      have HL := Lib.hid (cntL_len n ring k)
      have hol := ordM_len n ring 2 24 (oneS k)
      obtain ⟨d, hd⟩ : ∃ d, (ordM n ring 2 24 (oneS k)).length = d := ⟨_, rfl⟩
      rw [hd] at S1 HT hol
      have hw : IntKind.i64.wrap ((d : Int) + 1) = (d : Int) + 1 := IntWalk.i64_in _ (by omega)
      clear hd
      go_wp2_with fail
      refine S1.out.mono ?_
      rintro e w2 ⟨u, rfl, hU, hb2⟩
      obtain ⟨qu, cu, rfl, -⟩ := hU.rd
      obtain ⟨l, hl⟩ : ∃ l, (ints (tk n (aftM n ring 2 24 (oneS k)))).length = l := ⟨_, rfl⟩
      rw [hl]
      have hbb : Below wr.heap.size wr w2 := ((Below.refl wr.heap.size wr).alloc (Nat.le_refl _) _).trans hb2
      have HO2 := Lib.hid (World.ownsRow.alloc (HO.out.below hbb) (.cells #[.int .i64 n, .bool ring, .slice qu l cu] 31))
      have hB2 := HB.out.trans (hbb.mono HB.out.size)
      have HB2 := Lib.hid (hB2.alloc hB2.size (.cells #[.int .i64 n, .bool ring, .slice qu l cu] 31))
      have hblk := Lib.hid (own_block HO2.out)
      have hs2 := HB2.out.size
      clear hU hl hbb hb2 hB2 HO HB S1
      go_wp2_with (at_builtin; refine wpList_app rfl _ _ rfl w.heap.size _ (cntL n ring k) rfl (World.ownsRow.alloc HO2.out (.cells #[.int .i64 ((d : Int) + 1)] 3)) _ 1 1 0 (w2.heap.size + 1 + 1) [(d : Int) + 1] rfl (lit_one (OwnArr.mk' rfl (by simp)) _ (Nat.lt_succ_self _) (by simp)) rfl (by rw [HL.out]; omega) (by simp at hs2 ⊢; omega) ?_; intro v3 w3 hO3 hg3 hn3)
      have hG3 : Below w.heap.size (w2.alloc (.cells #[.int .i64 n, .bool ring, .slice qu l cu] 31)) w3 := ((Below.refl w.heap.size (w2.alloc (.cells #[.int .i64 n, .bool ring, .slice qu l cu] 31))).alloc hs2 _).grown hg3 (by simp at hs2 ⊢; omega) hblk.out
      have HB3 := Lib.hid (HB2.out.trans hG3)
      rw [← HT.out] at hO3
      have HO3 := Lib.hid hO3
      clear hO3 hg3 hn3 hG3 HB2 HO2 hs2 hblk
      go_wp2_with fail
      go_roundw
      case rel => exact ⟨k + 1, by omega, by go_num, HO3, HB3⟩
      case measure => simp [intOf]; omega
    · have hkn : k = n := by omega
      subst hkn
      go_wp2_with fail
      go_ret
      exact ⟨_, rfl, HO.out, HB.out⟩
end Go.Proofs.Ytfpndbekinibhaa
