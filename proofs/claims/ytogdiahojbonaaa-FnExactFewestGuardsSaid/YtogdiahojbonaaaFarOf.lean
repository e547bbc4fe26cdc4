/- spec.FarnessOf and impl.FarnessOf, for every Row. -/
import Derived.Test.YtogdiahojbonaaaFar
namespace Go.Proofs.Ytogdiahojbonaaa
open Go.RowKit

theorem out_of_own {w : World} {g B : Nat} {xs : List Int} (h : OwnArr w g 3 (iv xs)) (hB : B ≤ g) (hl : xs.length ≤ 1000) : Out B w (.slice (some ⟨g, 0, none⟩) xs.length xs.length) xs :=
  ⟨by rw [iv_length]; omega, .inr ⟨g, xs.length, _, rfl, hB, h, Nat.le_refl _, by unfold maxLen; omega, by simp [iv], by rw [Nat.mul_one]; exact List.take_of_length_le (by show (iv xs).length ≤ xs.length; rw [iv_length]; exact Nat.le_refl _)⟩⟩
theorem filled_all (n : Nat) (ring : Bool) (l : List Nat) : filled (fun i => .int .i64 ((farM n ring l i : Nat) : Int)) (.int .i64 0) n n = iv (allM n ring l n) := by
  apply List.ext_getElem?
  intro i
  rcases Nat.lt_or_ge i n with h | h
  · rw [filled_get _ _ _ _ _ h, if_pos h]
    unfold iv allM ints
    simp [h]
  · rw [List.getElem?_eq_none (by rw [filled_len]; exact h), List.getElem?_eq_none (by rw [iv_length, allM_len]; exact h)]

set_option maxHeartbeats 800000 in
theorem farOfI_bad (s : Int) (ring : Bool) (p : Option Addr) (cap : Nat) (xs : List Int) (w : World) (lo hi : Nat) (hin : Ri lo hi w p xs) (hlen : xs.length ≤ 1048576) (hr : rowB s ring xs = false) :
    Calls Try.prog 38 #[rowV s ring p xs.length cap] w fun e w' => ∃ v, e = .returned (.tuple #[v, .bool false]) ∧ Out w.heap.size w' v [] ∧ Below w.heap.size w w' := by
  have hb := box_below w s ring p xs.length cap 28
  have I := Lib.hid (isRow_any s ring p cap xs _ lo hi (hin.bel hb) hlen)
  rw [hr] at I
  have HB := Lib.hid hb
  clear hb hin hr
  go_enter Try.func38, Try.ntmps38
  go_wp2_with fail
  refine I.out.mono ?_
  rintro e w1 ⟨rfl, hb1⟩
  have HB1 := HB.out.trans (hb1.mono HB.out.size)
  clear I HB hb1
  go_wp2_with fail
  go_ret2
  exact ⟨_, rfl, (Out.nilLit w1).mono HB1.size, HB1.alloc HB1.size _⟩

set_option maxRecDepth 4000 in
set_option maxHeartbeats 2000000 in
theorem farOfI_any (n : Nat) (ring : Bool) (p : Option Addr) (cap : Nat) (S : Nat → Bool) (w : World) (lo hi : Nat) (hin : Ri lo hi w p (ints (tk n S))) (h2 : 2 ≤ n) (hn : n ≤ 24) (h3 : ring = true → 3 ≤ n) :
    Calls Try.prog 38 #[rowV n ring p (ints (tk n S)).length cap] w fun e w' => ∃ v, e = .returned (.tuple #[v, .bool true]) ∧ Out w.heap.size w' v (allM n ring (tk n S) n) ∧ Below w.heap.size w w' := by
  have hlen := ints_tk_len n S
  have hb := box_below w n ring p (ints (tk n S)).length cap 28
  have I := Lib.hid (fun (w' : World) (h' : Below w.heap.size w w') => isRow_any n ring p cap (ints (tk n S)) w' lo hi (hin.below h' hin.top) (by omega))
  rw [rowB_of h2 hn h3] at I
  have FA := Lib.hid (fun (a : Nat) (ha : a < n) (w' : World) (h' : Below w.heap.size w w') => farI_any n ring p cap (tk n S) a w' lo hi (hin.below h' hin.top) (fun x hx => (mem_tk.1 hx).1) (by have := tk_length_le n S; omega) hn ha)
  rw [ints_length] at hb I ⊢
  obtain ⟨l, hl⟩ : ∃ l, tk n S = l := ⟨_, rfl⟩
  rw [hl] at hb I FA ⊢
  obtain ⟨m, hm⟩ : ∃ m, l.length = m := ⟨_, rfl⟩
  rw [hm] at hb I FA ⊢
  have hmk0 := @run_make_row' Try.prog 22 3 (.int .i64 0) 8 Try.underlying22 infoInt rfl .i64 .i64 n (by omega) (by omega)
  rw [madeCells_one, ← filled_zero (fun i => .int .i64 ((farM n ring l i : Nat) : Int)) (.int .i64 0) n] at hmk0
  have HX := Lib.hid (OwnArr.made w 28 [.int .i64 n, .bool ring, .slice p m cap])
  have HB := Lib.hid hb
  have HF := Lib.hid (filled_all n ring l)
  have HLN := Lib.hid (allM_len n ring l n)
  clear hb hin hlen h3 hl hm
  go_enter Try.func38, Try.ntmps38
  go_wp2_with fail
  refine (I.out _ HB.out).mono ?_
  rintro e w1 ⟨rfl, hb1⟩
  have hX1 := HX.out.below hb1 HX.out.lt
  have hB1 := HB.out.trans (hb1.mono HB.out.size)
  obtain ⟨c0, c1, c2, -⟩ := hX1.three
  obtain ⟨w2, hw2⟩ : ∃ w2, w2 = w1.alloc (.cells (filled (fun i => .int .i64 ((farM n ring l i : Nat) : Int)) (.int .i64 0) n 0).toArray 3) := ⟨_, rfl⟩
  have hmk := hmk0 w1
  rw [← hw2] at hmk
  have HO2 : Hid (OwnArr w2 w1.heap.size 3 (filled (fun i => .int .i64 ((farM n ring l i : Nat) : Int)) (.int .i64 0) n 0)) := by show OwnArr _ _ _ _; rw [hw2]; exact OwnArr.made _ _ _
  have HX2 : Hid (OwnArr w2 w.heap.size 28 [.int .i64 n, .bool ring, .slice p m cap]) := by show OwnArr _ _ _ _; rw [hw2]; exact hX1.alloc _
  have HB2 : Hid (Below w.heap.size w w2) := by show Below _ _ _; rw [hw2]; exact hB1.alloc hB1.size _
  have hg : w.heap.size + 1 ≤ w1.heap.size := hX1.lt
  clear HX HB hb1 I hX1 hB1 hw2 hmk0
  go_wp2_with fail
  clear c0 c1 c2 hmk
  go_loopw [5, 15] (fun _ i wr => ∃ (k : Nat), k ≤ n ∧ i = .int .i64 k ∧ Hid (OwnArr wr w1.heap.size 3 (filled (fun i => .int .i64 ((farM n ring l i : Nat) : Int)) (.int .i64 0) n k)) ∧ Hid (OwnArr wr w.heap.size 28 [.int .i64 n, .bool ring, .slice p m cap]) ∧ Hid (Below w.heap.size w wr)) (fun _ i _ => n - (intOf i).toNat)
  case atStart => exact ⟨0, Nat.zero_le _, rfl, HO2, HX2, HB2⟩
  case round =>
    obtain ⟨k, hk, rfl, HO, HX, HB⟩ := hrel
    clear HO2 HX2 HB2
    obtain ⟨c0, c1, c2, -⟩ := HX.out.three
    by_cases hlt : k < n
    · have hk1 : (k : Int) < (n : Int) := by omega
      have G := Lib.hid (FA.out k hlt _ HB.out)
      have HST := Lib.hid (filled_set (fun i => .int .i64 ((farM n ring l i : Nat) : Int)) (.int .i64 0) n k)
      obtain ⟨f, hf⟩ : ∃ f, farM n ring l k = f := ⟨_, rfl⟩
      rw [hf] at G
      have HST2 : Hid ((filled (fun i => .int .i64 ((farM n ring l i : Nat) : Int)) (.int .i64 0) n k).set k (.int .i64 (f : Int)) = filled (fun i => .int .i64 ((farM n ring l i : Nat) : Int)) (.int .i64 0) n (k + 1)) := by
        show _ = _
        rw [← HST.out, hf]
      clear hf HST
      go_wp2_with fail
      refine G.out.mono ?_
      rintro e w3 ⟨rfl, hb3⟩
      have HO3 := Lib.hid (HO.out.below hb3 HO.out.lt)
      have HX3 := Lib.hid (HX.out.below hb3 HX.out.lt)
      have HB3 := Lib.hid (HB.out.trans (hb3.mono HB.out.size))
      have hold := HO3.out.cell k
      rw [filled_get _ _ _ _ _ hlt] at hold
      have hfree := HO3.out.free k
      have hset := HO3.out.set k (.int .i64 (f : Int))
      rw [HST2.out] at hset
      have HO4 := Lib.hid hset
      have hbs : Below (w.heap.size + 1) w3 (w3.setCell ⟨w1.heap.size, k, none⟩ (.int .i64 (f : Int))) := (Below.refl _ _).setCell (p := ⟨w1.heap.size, k, none⟩) hg _
      have HX4 := Lib.hid (HX3.out.below hbs (Nat.lt_succ_self _))
      have HB4 := Lib.hid (HB3.out.trans (hbs.mono (Nat.le_succ _)))
      clear HO HX HB hb3 c0 c1 c2 G hset hbs HO3 HX3 HB3 HST2
      go_wp2_with fail
      go_roundw
      case rel => exact ⟨k + 1, by omega, by go_num, HO4, HX4, HB4⟩
      case measure => simp [intOf]; omega
    · have hkn : k = n := by omega
      subst hkn
      have hO := HO.out
      rw [HF.out] at hO
      have hout := out_of_own hO (by omega : w.heap.size ≤ w1.heap.size) (by rw [HLN.out]; omega)
      rw [HLN.out] at hout
      have HOUT := Lib.hid hout
      clear hO hout HO
      go_wp2_with fail
      go_ret2
      exact ⟨_, rfl, HOUT.out, HB.out⟩

end Go.Proofs.Ytogdiahojbonaaa
