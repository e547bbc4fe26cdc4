/- impl.seatsThat at the free seats, for every Row. -/
import Derived.Test.YtoedcklgpmhnnaaOut
import Derived.Test.YtoedcklgpmhnnaaRowI
import Derived.Test.YtoedcklgpmhnnaaIsFree
namespace Go.Proofs.Ytoedcklgpmhnnaa
open Go.RowKit

set_option maxRecDepth 4000 in
set_option maxHeartbeats 1000000 in
theorem seatsFree_any (n : Nat) (ring : Bool) (p : Option Addr) (cap : Nat) (S T : Nat → Bool) (w : World) (lo hi' : Nat) (hin : Ri lo hi' w p (ints (tk n S))) (h2 : 2 ≤ n) (hn : n ≤ 24) (h3 : ring = true → 3 ≤ n)
    (hG : ∀ (k : Nat), k < n → ∀ w', Below w.heap.size w w' → Calls Try.prog 79 #[rowV n ring p (ints (tk n S)).length cap, .int .i64 k] w' fun e w'' => e = .returned (.bool (T k)) ∧ Below w'.heap.size w' w'') :
    Calls Try.prog 78 #[rowV n ring p (ints (tk n S)).length cap, .func (.func 79) #[] #[]] w fun e w' => ∃ v, e = .returned (.tuple #[v, .bool true]) ∧ Out (w.heap.size + 1) w' v (ints (tk n T)) ∧ Below w.heap.size w w' := by
  obtain ⟨i0, hi, hz0, hz1, hz2⟩ := info_parts infoInt
  have hlen := ints_tk_len n S
  obtain ⟨hX0, hO0, hB0⟩ := loop_start w n ring p (ints (tk n S)).length cap
  have hR := isRow_any n ring p cap (ints (tk n S)) _ lo hi' (hin.below hB0 hin.top) (by omega)
  rw [rowB_of h2 hn h3] at hR
  obtain ⟨m, hm⟩ : ∃ m, (ints (tk n S)).length = m := ⟨_, rfl⟩
  rw [hm] at hG hR hX0 hO0 hB0 ⊢
  have HG := Lib.hid hG
  have HR := Lib.hid hR
  have HX0 := Lib.hid hX0
  have HO0 := Lib.hid hO0
  have HB0 := Lib.hid hB0
  clear hX0 hO0 hB0 hG hR hm hin hlen
  go_enter Try.func78, Try.ntmps78
  go_wp2_with fail
  refine HR.out.mono ?_
  rintro e w1 ⟨rfl, hb1⟩
  have HX1 := Lib.hid (HX0.out.below hb1 HX0.out.lt)
  have HO1 := Lib.hid (HO0.out.below hb1)
  have HB1 := Lib.hid (HB0.out.trans (hb1.mono HB0.out.size))
  clear HX0 HO0 HB0 hb1 HR
  obtain ⟨c0, c1, c2, -⟩ := HX1.out.three
  go_wp2_with fail
  clear c0 c1 c2
  go_loopw [6, 7, 15] (fun v _ i wr => ∃ (k : Nat), k ≤ n ∧ i = .int .i64 k ∧ Hid (OwnArr wr w.heap.size 28 [.int .i64 n, .bool ring, .slice p m cap]) ∧ Hid (Out (w.heap.size + 1) wr v (ints (tk k T))) ∧ Hid (Below w.heap.size w wr)) (fun _ _ i _ => n - (intOf i).toNat)
  case atStart => exact ⟨0, Nat.zero_le _, rfl, HX1, HO1, HB1⟩
  case round =>
    obtain ⟨k, hk, rfl, HX, HO, HB⟩ := hrel
    clear HX1 HO1 HB1
    obtain ⟨c0, c1, c2, -⟩ := HX.out.three
    by_cases hlt : k < n
    · have hk1 : (k : Int) < (n : Int) := by omega
      have G := Lib.hid (HG.out k hlt wr HB.out)
      obtain ⟨b, hTb⟩ : ∃ b, T k = b := ⟨_, rfl⟩
      rw [hTb] at G
      cases b with
      | true =>
        have HT := Lib.hid (ints_tk_yes hTb)
        clear hTb
        go_wp2_with fail
        refine G.out.mono ?_
        rintro e w2 ⟨rfl, hb2⟩
        have HX2 := Lib.hid (HX.out.below hb2 HX.out.lt)
        have HO2 := Lib.hid (HO.out.below hb2)
        have HB2 := Lib.hid (HB.out.trans (hb2.mono HB.out.size))
        clear HX HO HB hb2 c0 c1 c2 G
        have HL := Lib.hid (ints_tk_len k T)
        have hblk := Lib.hid (own_block HO2.out)
        obtain ⟨l, vs, hl, hvs, hown⟩ := HO2.out.open'
        have hlk := HL.out
        rw [hl] at hlk
        have hsz2 := HX2.out.lt
        replace hl := Lib.hid hl
        replace hvs := Lib.hid hvs
        go_wp2_with (at_builtin; refine wpList_append_own _ rfl _ _ 22 rfl (w.heap.size + 1) 3 i0 (.int .i64 0) 1 8 Try.underlying22 hi hz0 hz1 hz2 rfl (by decide) _ _ _ rfl (hown.alloc _) ⟨w2.heap.size, 0, none⟩ 1 1 [.int .i64 (k : Int)] rfl rfl (cell_one_new _ _ _) (fun x hx => by simp at hx; subst hx; rfl) (by unfold maxLen; omega) (by omega) (by simp; omega) ?_; intro v' w3 hown' hgrow3 hnil3)
        have hG : Below (w.heap.size + 1) w2 w3 := ((Below.refl (w.heap.size + 1) w2).alloc (by omega) _).grown hgrow3 (by simp; omega) hblk.out
        have HX3 := Lib.hid (HX2.out.below hG (Nat.lt_succ_self _))
        have HB3 := Lib.hid (HB2.out.trans (hG.mono (Nat.le_succ _)))
        have HO3 : Hid (Out (w.heap.size + 1) w3 v' (ints (tk (k + 1) T))) := by
          show Out _ _ _ _
          rw [HT.out]; exact Out.close hl.out hvs.out hown'
        clear hown' hgrow3 hnil3 hown hG
        go_wp2
        go_roundw
        case rel => exact ⟨k + 1, by omega, by go_num, HX3, HO3, HB3⟩
        case measure => simp [intOf]; omega
      | false =>
        have HT := Lib.hid (ints_tk_no hTb)
        clear hTb
        go_wp2_with fail
        refine G.out.mono ?_
        rintro e w2 ⟨rfl, hb2⟩
        have HX2 := Lib.hid (HX.out.below hb2 HX.out.lt)
        have HB2 := Lib.hid (HB.out.trans (hb2.mono HB.out.size))
        have ho3 := HO.out.below hb2
        rw [← HT.out] at ho3
        have HO3 := Lib.hid ho3
        clear ho3
        clear HX HO HB hb2 c0 c1 c2 G
        go_wp2_with fail
        go_roundw
        case rel => exact ⟨k + 1, by omega, by go_num, HX2, HO3, HB2⟩
        case measure => simp [intOf]; omega
    · have hkn : k = n := by omega
      subst hkn
      go_wp2_with fail
      go_ret2
      exact ⟨_, rfl, HO.out, HB.out⟩
end Go.Proofs.Ytoedcklgpmhnnaa
