/- Chapter 9, spec side: spec.l9Open. -/
import Derived.Test.YtoedcklgpmhnnaaSpcS9
import Derived.Test.YtoedcklgpmhnnaaMarks
import Derived.Laws.AppendOwn
namespace Go.Proofs.Ytoedcklgpmhnnaa
open Go.RowKit

theorem bl_succ (n : Nat) (S : Nat → Bool) : bv (bl (n + 1) S) = bv (bl n S) ++ [.bool (S n)] := by
  unfold bv bl
  rw [List.range_succ, List.map_append, List.map_append]; rfl

set_option maxRecDepth 4000 in
set_option maxHeartbeats 2000000 in
theorem l9Open_any (n : Nat) (ring : Bool) (p : Option Addr) (cap : Nat) (S : Nat → Bool) (D : Nat) (w : World) (lo hi : Nat) (hin : Ri lo hi w p (ints (tk n S))) (hn : n ≤ 24) :
    Calls Try.prog 48 #[rowV n ring p (ints (tk n S)).length cap, .int .i64 (D : Int)] w fun e w' => ∃ q c, e = .returned (.slice q n c) ∧ Rd w.heap.size w'.heap.size w' q (bv (bl n (opM n ring S D))) ∧ Below w.heap.size w w' := by
  obtain ⟨i0, hi0, hz0, hz1, hz2⟩ := info_parts infoBool
  have hlen := ints_tk_len n S
  have MY := Lib.hid (fun (a : Nat) (ha : a < n) (q : Option Addr) (w' : World) (h' : Below w.heap.size w w') => l9May_any n ring p cap S q 0 [] a D w' lo hi 0 0 (hin.below h' hin.top) hn (Rd.nil _ _ _ _ (Nat.zero_le _)) (fun c hc => by cases hc) (by simp) ha)
  have HST := Lib.hid (fun k => bl_succ k (opM n ring S D))
  have HMY : Hid (∀ a, mayM n ring S D [] a = opM n ring S D a) := by
    show ∀ _, _
    intro a
    unfold mayM
    simp
  obtain ⟨O, hO⟩ : ∃ O, opM n ring S D = O := ⟨_, rfl⟩
  rw [hO] at HST HMY ⊢
  have hX : OwnArr ((w.alloc (.cells #[Value.int .i64 n, Value.bool ring, Value.slice p (ints (tk n S)).length cap] 28)).alloc (.cells #[] 4)) w.heap.size 28 [.int .i64 n, .bool ring, .slice p (ints (tk n S)).length cap] := (OwnArr.made w _ [_, _, _]).alloc _
  have hB : Below w.heap.size w ((w.alloc (.cells #[Value.int .i64 n, Value.bool ring, Value.slice p (ints (tk n S)).length cap] 28)).alloc (.cells #[] 4)) := ((Below.refl _ _).alloc (Nat.le_refl _) _).alloc (by simp) _
  have hs : (w.alloc (.cells #[Value.int .i64 n, Value.bool ring, Value.slice p (ints (tk n S)).length cap] 28)).heap.size = w.heap.size + 1 := by simp
  have hOw : ((w.alloc (.cells #[Value.int .i64 n, Value.bool ring, Value.slice p (ints (tk n S)).length cap] 28)).alloc (.cells #[] 4)).ownsRow (w.heap.size + 1) 4 1 (.slice (some ⟨w.heap.size + 1, 0, none⟩) 0 0) 0 (bv (bl 0 O)) := by
    have h := own_lit (w := w.alloc (.cells #[Value.int .i64 n, Value.bool ring, Value.slice p (ints (tk n S)).length cap] 28)) (e := 4) [] 1 0 rfl (by unfold maxLen; omega)
    rw [hs] at h
    exact h
  obtain ⟨m, hm⟩ : ∃ m, (ints (tk n S)).length = m := ⟨_, rfl⟩
  rw [hm] at hX hB hOw MY ⊢
  have HX0 := Lib.hid hX
  have HB0 := Lib.hid hB
  have HO0 := Lib.hid hOw
  clear hin hX hB hOw hm hlen hs hO
  go_enter Try.func48, Try.ntmps48
  go_wp2_with fail
  go_loopw [5, 6] (fun v i wr => ∃ (k : Nat), k ≤ n ∧ i = .int .i64 (k : Int) ∧ Hid (OwnArr wr w.heap.size 28 [.int .i64 n, .bool ring, .slice p m cap]) ∧ Hid (wr.ownsRow (w.heap.size + 1) 4 1 v k (bv (bl k O))) ∧ Hid (Below w.heap.size w wr)) (fun _ i _ => n - (intOf i).toNat)
  case atStart => exact ⟨0, Nat.zero_le _, rfl, HX0, HO0, HB0⟩
  case round =>
    obtain ⟨k, hk, rfl, HX, HO, HB⟩ := hrel
    clear HX0 HO0 HB0
    obtain ⟨c0, c1, c2, -⟩ := HX.out.three
    by_cases hlt : k < n
    · have hk1 : (k : Int) < (n : Int) := by omega
      have hba : Below wr.heap.size wr (wr.alloc (.cells #[] 3)) := (Below.refl _ _).alloc (Nat.le_refl _) _
      have M2 := MY.out k hlt (some ⟨wr.heap.size, 0, none⟩) (wr.alloc (.cells #[] 3)) (HB.out.trans (hba.mono HB.out.size))
      rw [HMY.out] at M2
      have hst := HST.out k
      obtain ⟨t, ht⟩ : ∃ t, O k = t := ⟨_, rfl⟩
      rw [ht] at M2 hst
      replace M2 := Lib.hid M2
      have HS2 := Lib.hid hst
      have HBA := Lib.hid hba
      clear hst ht hba
      go_wp2_with fail
      refine M2.out.mono ?_
      rintro e w2 ⟨rfl, hb2⟩
      have hb3 : Below wr.heap.size wr w2 := HBA.out.trans (hb2.mono HBA.out.size)
      have HX2 := Lib.hid (HX.out.below hb3 HX.out.lt)
      have HB2 := Lib.hid (HB.out.trans (hb3.mono HB.out.size))
      have ho2 : w2.ownsRow (w.heap.size + 1) 4 1 u5 k (bv (bl k O)) := ⟨HO.out.1, HO.out.2.elim .inl (fun ⟨g, cap, cur, hv, hg, hh, r⟩ => .inr ⟨g, cap, cur, hv, hg, by
        have hlt : g < wr.heap.size := by
          rcases Nat.lt_or_ge g wr.heap.size with h' | h'
          · exact h'
          · rw [Array.getElem?_eq_none h'] at hh; cases hh
        rw [hb3.block g hlt]; exact hh, r⟩)⟩
      have hblk := Lib.hid (own_block ho2)
      have hs2 := HX2.out.lt
      have HO2 := Lib.hid ho2
      clear hb2 hb3 ho2 M2 HX HB HO c0 c1 c2 HBA
      go_wp2_with (at_builtin; refine wpList_append_own _ rfl _ _ 63 rfl (w.heap.size + 1) 4 i0 (.bool false) 1 1 Try.underlying63 hi0 hz0 hz1 hz2 rfl (by decide) _ _ _ rfl (HO2.out.alloc _) ⟨w2.heap.size, 0, none⟩ 1 1 [.bool t] rfl rfl (cell_one_new _ _ _) (fun x hx => by simp at hx; subst hx; rfl) (by unfold maxLen; omega) (by omega) (by simp; omega) ?_; intro v' w3 hown' hgrow3 hnil3)
      have hG : Below (w.heap.size + 1) w2 w3 := ((Below.refl (w.heap.size + 1) w2).alloc (by omega) _).grown hgrow3 (by simp; omega) hblk.out
      have HX3 := Lib.hid (HX2.out.below hG (Nat.lt_succ_self _))
      have HB3 := Lib.hid (HB2.out.trans (hG.mono (Nat.le_succ _)))
      rw [← HS2.out] at hown'
      have HO3 := Lib.hid hown'
      clear hown' hgrow3 hnil3 hG HX2 HB2 HO2
      go_wp2_with fail
      go_roundw
      case rel => exact ⟨k + 1, by omega, by go_num, HX3, HO3, HB3⟩
      case measure => simp [intOf]; omega
    · have hkn : k = n := by omega
      subst hkn
      obtain ⟨q, c, rfl, -, -, hR, -⟩ := rd_ownsRow HO.out
      have HR := Lib.hid (hR.mono (Nat.le_succ w.heap.size) (Nat.le_refl _) (Nat.le_refl _))
      clear hR
      go_wp2_with fail
      go_ret
      exact ⟨q, c, rfl, HR.out, HB.out⟩
end Go.Proofs.Ytoedcklgpmhnnaa
