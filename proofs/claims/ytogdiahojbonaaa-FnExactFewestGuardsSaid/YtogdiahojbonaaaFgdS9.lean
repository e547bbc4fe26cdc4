/- Chapter 9: FewestGuards on both sides. -/
import Derived.Test.YtogdiahojbonaaaFewS9
import Derived.Test.YtogdiahojbonaaaFarOf
namespace Go.Proofs.Ytogdiahojbonaaa
open Go.RowKit

theorem few_res {n : Nat} {ring : Bool} {h : Nat} (hn : 1 ≤ n) : resF n ring h (fun b => grdUp n ring b h n) (gdK n h) [] = gdL n ring h (gdK n h) ∧ okF n ring h (fun b => grdUp n ring b h n) (gdK n h) [] = true := by
  have e := few_all (n := n) (ring := ring) (h := h) (G := fun b => grdUp n ring b h n) hn (fun b _ _ h0 => grd_cov h0)
  unfold resF okF
  rw [e]
  exact ⟨rfl, rfl⟩

set_option maxHeartbeats 1000000 in
theorem fewestS_bad (s : Int) (ring : Bool) (p : Option Addr) (cap : Nat) (xs : List Int) (h : Int) (w : World) (lo hi : Nat) (hin : Ri lo hi w p xs) (hlen : xs.length ≤ 1048576) (hr : (rowB s ring xs && decide (0 ≤ h)) = false) :
    Calls Try.prog 10 #[rowV s ring p xs.length cap, .int .i64 h] w fun e w' => ∃ v, e = .returned (.tuple #[.int .i64 0, v, .bool false]) ∧ Out w.heap.size w' v [] ∧ Below w.heap.size w w' := by
  have hB := box_below w s ring p xs.length cap 28
  have I := Lib.hid (l2Row_any s ring p cap xs _ lo hi (hin.below hB hin.top) hlen)
  obtain ⟨RB, hRB⟩ : ∃ RB, rowB s ring xs = RB := ⟨_, rfl⟩
  rw [hRB] at hr I
  obtain ⟨m0, hm0⟩ : ∃ m, xs.length = m := ⟨_, rfl⟩
  rw [hm0] at hB I ⊢
  have HB := Lib.hid hB
  clear hin hRB hm0 hlen hB
  cases RB with
  | false =>
    clear hr
    go_enter Try.func10, Try.ntmps10
    go_wp2_with fail
    refine I.out.mono ?_
    rintro e w2 ⟨rfl, hb2⟩
    have HB2 := Lib.hid (HB.out.trans (hb2.mono HB.out.size))
    have HO2 := Lib.hid ((Out.nilLit w2).mono HB2.out.size)
    have HB3 := Lib.hid (HB2.out.alloc HB2.out.size (.cells #[] 3))
    clear I HB hb2
    go_wp2_with fail
    go_ret3
    exact ⟨_, rfl, HO2.out, HB3.out⟩
  | true =>
    have h1 : h < 0 := by simpa using hr
    clear hr
    go_enter Try.func10, Try.ntmps10
    go_wp2_with fail
    refine I.out.mono ?_
    rintro e w2 ⟨rfl, hb2⟩
    have HB2 := Lib.hid (HB.out.trans (hb2.mono HB.out.size))
    have HO2 := Lib.hid ((Out.nilLit w2).mono HB2.out.size)
    have HB3 := Lib.hid (HB2.out.alloc HB2.out.size (.cells #[] 3))
    clear I HB hb2
    go_wp2_with fail
    go_ret3
    exact ⟨_, rfl, HO2.out, HB3.out⟩

set_option maxRecDepth 4000 in
set_option maxHeartbeats 4000000 in
theorem fewestS_any (n : Nat) (ring : Bool) (p : Option Addr) (cap : Nat) (S : Nat → Bool) (h : Int) (w : World) (lo hi : Nat) (hin : Ri lo hi w p (ints (tk n S))) (hr : rowB n ring (ints (tk n S)) = true) (hh : 0 ≤ h) (H : Nat) (hH : (if h < (n : Int) then h else (n : Int)) = (H : Int)) :
    Calls Try.prog 10 #[rowV n ring p (ints (tk n S)).length cap, .int .i64 h] w fun e w' => ∃ v, e = .returned (.tuple #[.int .i64 (gdK n H : Nat), v, .bool true]) ∧ Out w.heap.size w' v (ints (gdL n ring H (gdK n H))) ∧ Below w.heap.size w w' := by
  have hn : 2 ≤ n ∧ n ≤ 24 := by
    obtain ⟨n', S', e, -, h0, h, h3⟩ := rowB_is hr
    have : n = n' := by omega
    subst this
    exact ⟨h0, h⟩
  obtain ⟨hn2, hn24⟩ := hn
  have hHn : H ≤ n := by split at hH <;> omega
  have hlen := ints_tk_len n S
  have hX := OwnArr.made w 28 [.int .i64 n, .bool ring, .slice p (ints (tk n S)).length cap]
  have hB := box_below w n ring p (ints (tk n S)).length cap 28
  have I := l2Row_any n ring p cap (ints (tk n S)) _ lo hi (hin.below hB hin.top) (by omega)
  rw [hr] at I
  replace I := Lib.hid I
  have LS := least9_any h n
  rw [hH] at LS
  replace LS := Lib.hid LS
  have hn1 : ¬ h < 0 := by omega
  have hKn := gdK_le n H (by omega)
  obtain ⟨m, hm⟩ : ∃ m, (ints (tk n S)).length = m := ⟨_, rfl⟩
  rw [hm] at hX hB I ⊢
  obtain ⟨hr1, hr2⟩ := few_res (n := n) (ring := ring) (h := H) (by omega)
  have FW := fun w' => l9Fewest_any n ring p m cap H w' hn24 (by omega)
  obtain ⟨K, hK⟩ : ∃ K, gdK n H = K := ⟨_, rfl⟩
  rw [hK] at hKn hr1 hr2 FW ⊢
  replace FW := Lib.hid FW
  have FE : Hid (∀ (g : Nat) (B : Nat) (w' : World), Out B w' (.slice (some ⟨g, 0, none⟩) 0 0) [] → B ≤ w'.heap.size → Calls Try.prog 33 #[rowV n ring p m cap, .slice (some ⟨g, 0, none⟩) 0 0, .int .i64 (K : Int), .int .i64 (H : Int)] w' fun e w'' => ∃ v', e = .returned (.tuple #[v', .bool true]) ∧ Out B w'' v' (ints (gdL n ring H K)) ∧ Below w'.heap.size w' w'') := by
    show ∀ _, _
    intro g B w' h1 h2
    have := l9Few_any n ring p m cap H K (by omega) hn24 (by omega) (by omega) K [] B (.slice (some ⟨g, 0, none⟩) 0 0) w' (by simp) (by simp) (fun x hx => by cases hx) h1 h2
    rw [hr1, hr2] at this
    exact this
  have HX := Lib.hid hX
  have HB := Lib.hid hB
  obtain ⟨c0, c1, c2, -⟩ := HX.out.three
  clear hin hr hm hlen hX hB hH hr1 hr2 hK
  go_enter Try.func10, Try.ntmps10
  go_wp2_with fail
  refine I.out.mono ?_
  rintro e w2 ⟨rfl, hb2⟩
  have HB2 := Lib.hid (HB.out.trans (hb2.mono HB.out.size))
  have HX2 := Lib.hid (HX.out.below hb2 HX.out.lt)
  clear I HB hb2 c0 c1 c2 HX
  obtain ⟨c0, c1, c2, -⟩ := HX2.out.three
  go_wp2_with fail
  refine (LS.out _).mono ?_
  rintro e w3 ⟨rfl, rfl⟩
  have RWC : Hid (∀ wz, Below w2.heap.size w2 wz → wz.cell? ⟨w.heap.size, 0, none⟩ = some (.int .i64 n) ∧ wz.cell? ⟨w.heap.size, 1, none⟩ = some (.bool ring) ∧ wz.cell? ⟨w.heap.size, 2, none⟩ = some (.slice p m cap)) := fun wz hz => by
    obtain ⟨k0, k1, k2, -⟩ := (HX2.out.below hz HX2.out.lt).three
    exact ⟨k0, k1, k2⟩
  obtain ⟨k3, k4, k5⟩ := RWC.out (w2.alloc (.cells #[] 3)) ((Below.refl _ w2).alloc (Nat.le_refl _) _)
  have AFd : Hid (∀ wz, Below w2.drew.heap.size w2.drew wz → Hid (Below w2.heap.size w2 wz) ∧ Hid True) := fun wz hz => ⟨(Below.refl _ w2).drew.trans hz, True.intro⟩
  have AFa : Hid (∀ wz, Below (w2.alloc (.cells #[] 3)).drew.heap.size (w2.alloc (.cells #[] 3)).drew wz → Hid (Below w2.heap.size w2 wz) ∧ Hid (Out w2.heap.size wz (.slice (some ⟨w2.heap.size, 0, none⟩) 0 0) [])) := fun wz hz => by
    have hs : (w2.alloc (.cells #[] 3)).drew.heap.size = w2.heap.size + 1 := by simp
    refine ⟨(((Below.refl _ w2).alloc (Nat.le_refl _) _).drew).trans (hz.mono (by omega)), ?_⟩
    show Out _ _ _ _
    have h5 : Out w2.heap.size (w2.alloc (.cells #[] 3)).drew (.slice (some ⟨w2.heap.size, 0, none⟩) 0 0) [] := Out.nilLit w2
    exact Out.below h5 hz
  go_wp2_with fail
  go_region_law (first
    | (go_simp; go_at_call 34; refine (FW.out _).mono ?_; rintro e w4 ⟨rfl, hb4⟩; first
      | (obtain ⟨HB4, HN4⟩ := AFd.out _ hb4; clear hb4; obtain ⟨d0, d1, d2⟩ := RWC.out w4 HB4.out; obtain ⟨d3, d4, d5⟩ := RWC.out (w4.alloc (.cells #[] 3)) (HB4.out.alloc HB4.out.size _))
      | (obtain ⟨HB4, HN4⟩ := AFa.out _ hb4; clear hb4; obtain ⟨d0, d1, d2⟩ := RWC.out w4 HB4.out))
    | (go_simp; go_at_call 33; first
      | (refine (FE.out _ w2.heap.size w4 HN4.out HB4.out.size).mono ?_; rintro e w5 ⟨v5, rfl, hO5, hb5⟩; have HB5 := Lib.hid (HB4.out.trans (hb5.mono HB4.out.size)); have HO5 := Lib.hid hO5; clear hO5 hb5)
      | (refine (FE.out _ w4.heap.size (w4.alloc (.cells #[] 3)) (Out.nilLit w4) (by simp)).mono ?_; rintro e w5 ⟨v5, rfl, hO5, hb5⟩; have HB5 := Lib.hid ((HB4.out.alloc HB4.out.size (.cells #[] 3)).trans (hb5.mono (by have := HB4.out.size; simp; omega))); have HO5 := Lib.hid (hO5.mono HB4.out.size); clear hO5 hb5)))
  all_goals
    have HX5 := Lib.hid (HX2.out.below HB5.out HX2.out.lt)
    have HBf := Lib.hid (HB2.out.trans (HB5.out.mono HB2.out.size))
    have HOf := Lib.hid (HO5.out.mono HB2.out.size)
    obtain ⟨f0, f1, f2, -⟩ := HX5.out.three
    go_wp2_with fail
    refine (FW.out _).mono ?_
    rintro e w6 ⟨rfl, hb6⟩
    have HBg := Lib.hid (HBf.out.trans (hb6.mono HBf.out.size))
    have HOg := Lib.hid (HOf.out.below hb6)
    clear hb6
    go_wp2_with fail
    go_ret3
    exact ⟨_, rfl, HOg.out, HBg.out⟩
end Go.Proofs.Ytogdiahojbonaaa
