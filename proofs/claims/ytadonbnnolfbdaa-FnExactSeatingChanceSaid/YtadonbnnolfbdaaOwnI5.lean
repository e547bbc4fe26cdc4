/- Chapter 5, impl side: impl.OwnChance; both sides. -/
import Derived.Test.YtadonbnnolfbdaaShr5
namespace Go.Proofs.Ytadonbnnolfbdaa
open Go.RowKit

/-- a call with a fraction to give and a plane of its own -/
structure PlaneE (w : World) (n k : Int) (wr : World) : Prop where
  res : OwnArr wr w.heap.size 22 [.int .i64 0, .int .i64 0]
  box : OwnArr wr (w.heap.size + 1) 45 [.int .i64 n, .int .i64 k]
  bel : Below w.heap.size w wr
theorem PlaneE.start (w : World) (n k : Int) : PlaneE w n k ((w.alloc (.cells #[.int .i64 0, .int .i64 0] 22)).alloc (.cells #[.int .i64 n, .int .i64 k] 45)) :=
  ⟨(OwnArr.made w _ [_, _]).alloc _, OwnArr.mk' rfl (by simp), ((Below.refl _ _).alloc (Nat.le_refl _) _).alloc (by simp) _⟩
theorem PlaneE.next {w : World} {n k : Int} {wr w' : World} (h : PlaneE w n k wr) (hb : Below wr.heap.size wr w') : PlaneE w n k w' :=
  ⟨h.res.below hb h.res.lt, h.box.below hb h.box.lt, h.bel.trans (hb.mono h.bel.size)⟩
theorem PlaneE.fin {w : World} {n k : Int} {wr : World} (h : PlaneE w n k wr) (x y : Value) : OwnArr ((wr.setCell ⟨w.heap.size, 0, none⟩ x).setCell ⟨w.heap.size, 1, none⟩ y) w.heap.size 22 [x, y] ∧ Below w.heap.size w ((wr.setCell ⟨w.heap.size, 0, none⟩ x).setCell ⟨w.heap.size, 1, none⟩ y) :=
  ⟨(h.res.set 0 _).set 1 _, (h.bel.setCell (p := ⟨w.heap.size, 0, none⟩) (Nat.le_refl _) _).setCell (p := ⟨w.heap.size, 1, none⟩) (Nat.le_refl _) _⟩

set_option maxRecDepth 4000 in
set_option maxHeartbeats 1600000 in
theorem ownChanceI_bad (n k i : Int) (h : good5i n k i = false) (w : World) :
    Calls Try.prog 10 #[.int .i64 n, .int .i64 k, .int .i64 i] w (MadeFr w 0 0 false) := by
  have V := fun w' => hasNumber_any n k i w'
  rw [h] at V
  replace V := Lib.hid V
  unfold MadeFr
  have hE := PlaneE.start w n k
  obtain ⟨wb, hwb⟩ : ∃ wb, (w.alloc (.cells #[.int .i64 0, .int .i64 0] 22)).alloc (.cells #[.int .i64 n, .int .i64 k] 45) = wb := ⟨_, rfl⟩
  rw [hwb] at hE
  have HE := Lib.hid hE
  have HW := Lib.hid hwb
  clear h hE hwb
  obtain ⟨b0, b1⟩ := box_plane HE.out.box
  go_enter Try.func10, Try.ntmps10
  go_upto_region 2 with fail
  rw [HW.out]
  go_wp2_with fail
  refine (V.out _).mono ?_
  rintro e w1 ⟨rfl, hb1⟩
  have HE1 := Lib.hid (HE.out.next hb1)
  clear HE HW hb1 b0 b1
  obtain ⟨z0, z1, y0, y1⟩ := boxed_fr HE1.out.res
  go_wp2_with fail
  exact ret_fr2 Try.results10 rfl rfl (HE1.out.fin _ _).1 rfl ⟨rfl, (HE1.out.fin _ _).2⟩

set_option maxRecDepth 4000 in
set_option maxHeartbeats 1600000 in
theorem ownChanceI_any (n k i : Nat) (h1 : 1 ≤ n) (hn : n ≤ 12) (hk : k ≤ n) (hi : i < n) (w : World) :
    Calls Try.prog 10 #[.int .i64 (n : Nat), .int .i64 (k : Nat), .int .i64 (i : Nat)] w (MadeFr w (ownR n k i).num ((ownR n k i).den : Nat) true) := by
  have V := fun w' => hasNumber_any (n : Int) (k : Int) (i : Int) w'
  have hg : good5i (n : Int) (k : Int) (i : Int) = true := by unfold good5i; rw [good5_of h1 hn hk]; simp; omega
  rw [hg] at V
  replace V := Lib.hid V
  have S := Lib.hid (fun w' => shareOfOwn_any n k i hn hk hi w')
  have C := fun w' => chanceOf_any (shr5 n k i) (Nat.le_trans (shr5_le n k i) (by omega)) w'
  rw [shr5_is hn hk hi] at C
  unfold ratV at C
  unfold MadeFr
  obtain ⟨q, hq⟩ : ∃ q, ownR n k i = q := ⟨_, rfl⟩
  rw [hq] at C ⊢
  obtain ⟨s, hs⟩ : ∃ s, shr5 n k i = s := ⟨_, rfl⟩
  rw [hs] at C S
  replace C := Lib.hid C
  have hE := PlaneE.start w n k
  obtain ⟨wb, hwb⟩ : ∃ wb, (w.alloc (.cells #[.int .i64 0, .int .i64 0] 22)).alloc (.cells #[.int .i64 (n : Int), .int .i64 (k : Int)] 45) = wb := ⟨_, rfl⟩
  rw [hwb] at hE
  have HE := Lib.hid hE
  have HW := Lib.hid hwb
  clear hE hwb hg hq hs
  obtain ⟨b0, b1⟩ := box_plane HE.out.box
  go_enter Try.func10, Try.ntmps10
  go_upto_region 2 with fail
  rw [HW.out]
  go_wp2_with fail
  refine (V.out _).mono ?_
  rintro e w1 ⟨rfl, hb1⟩
  have HE1 := Lib.hid (HE.out.next hb1)
  clear HE HW hb1 b0 b1 V
  obtain ⟨b0, b1⟩ := box_plane HE1.out.box
  go_wp2_with fail
  refine (S.out _).mono ?_
  rintro e w2 ⟨rfl, hb2⟩
  have HE2 := Lib.hid (HE1.out.next hb2)
  clear HE1 hb2 b0 b1 S
  go_wp2_with fail
  refine (C.out _).mono ?_
  rintro e w3 ⟨rfl, hb3⟩
  have HE3 := Lib.hid (HE2.out.next hb3)
  clear HE2 hb3 C
  obtain ⟨z0, z1, y0, y1⟩ := boxed_fr HE3.out.res
  go_wp2_with fail
  exact ret_fr2 Try.results10 rfl rfl (HE3.out.fin _ _).1 rfl ⟨rfl, (HE3.out.fin _ _).2⟩

theorem good5i_is {n k i : Int} (h : good5i n k i = true) : ∃ a b c : Nat, n = a ∧ k = b ∧ i = c ∧ 1 ≤ a ∧ a ≤ 12 ∧ b ≤ a ∧ c < a := by
  unfold good5i at h
  rw [Bool.and_eq_true] at h
  obtain ⟨a, b, rfl, rfl, h1, h2, h3⟩ := good5_is h.1
  have h4 := h.2
  simp only [Bool.and_eq_true, decide_eq_true_eq] at h4
  exact ⟨a, b, i.toNat, rfl, rfl, by omega, h1, h2, h3, by omega⟩

theorem ownChance_both (n k i : Int) : ∃ x y B, (∀ w, Calls Try.prog 9 #[.int .i64 n, .int .i64 k, .int .i64 i] w (MadeFr w x y B)) ∧ (∀ w, Calls Try.prog 10 #[.int .i64 n, .int .i64 k, .int .i64 i] w (MadeFr w x y B)) := by
  cases h : good5i n k i with
  | false => exact ⟨0, 0, false, fun w => ownChanceS_bad n k i h w, fun w => ownChanceI_bad n k i h w⟩
  | true =>
    obtain ⟨a, b, c, rfl, rfl, rfl, h1, h2, h3, h4⟩ := good5i_is h
    exact ⟨_, _, true, fun w => ownChanceS_any a b c h1 h2 h3 h4 w, fun w => ownChanceI_any a b c h1 h2 h3 h4 w⟩
end Go.Proofs.Ytadonbnnolfbdaa
