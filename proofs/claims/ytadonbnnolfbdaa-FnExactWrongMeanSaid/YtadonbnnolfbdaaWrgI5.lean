/- Chapter 5, impl side: impl.WrongMean; both sides. -/
import Derived.Test.YtadonbnnolfbdaaOwnI5
import Derived.Test.YtadonbnnolfbdaaWrg5
namespace Go.Proofs.Ytadonbnnolfbdaa
open Go.RowKit

/-- the shares of the first j travelers' wrong seats -/
def wrgS (n k : Nat) : Nat → Nat
  | 0 => 0
  | j + 1 => wrgS n k j + (479001600 - shr5 n k j)
theorem wrgS_le (n k : Nat) : ∀ j, wrgS n k j ≤ j * 479001600
  | 0 => Nat.le_refl _
  | j + 1 => by show wrgS n k j + (479001600 - shr5 n k j) ≤ (j + 1) * 479001600; have := wrgS_le n k j; omega
theorem wrgS_all : (List.range 13).all (fun n => (List.range (n + 1)).all (fun k => decide (mkRat ((wrgS n k n : Nat) : Int) 479001600 = wrongR n k n))) = true := by decide +kernel
theorem wrgS_is {n k : Nat} (hn : n ≤ 12) (hk : k ≤ n) : mkRat ((wrgS n k n : Nat) : Int) 479001600 = wrongR n k n := by
  have h := wrgS_all
  rw [List.all_eq_true] at h
  have h1 := h n (List.mem_range.2 (by omega))
  rw [List.all_eq_true] at h1
  exact of_decide_eq_true (h1 k (List.mem_range.2 (by omega)))

set_option maxRecDepth 4000 in
set_option maxHeartbeats 1600000 in
theorem wrongMeanI_any (n k : Int) (w : World) :
    Calls Try.prog 13 #[.int .i64 n, .int .i64 k] w (MadeFr w (if good5 n k then (wrongM n k).num else 0) (if good5 n k then (((wrongM n k).den : Nat) : Int) else 0) (good5 n k)) := by
  have V := fun w' => isValid_any n k w'
  unfold MadeFr
  have hE := PlaneE.start w n k
  obtain ⟨wb, hwb⟩ : ∃ wb, (w.alloc (.cells #[.int .i64 0, .int .i64 0] 22)).alloc (.cells #[.int .i64 n, .int .i64 k] 45) = wb := ⟨_, rfl⟩
  rw [hwb] at hE
  have HE := Lib.hid hE
  have HW := Lib.hid hwb
  clear hE hwb
  cases hg : good5 n k with
  | false =>
    rw [hg] at V
    replace V := Lib.hid V
    simp only [Bool.false_eq_true, if_false]
    clear hg
    obtain ⟨b0, b1⟩ := box_plane HE.out.box
    go_enter Try.func13, Try.ntmps13
    go_upto_region 2 with fail
    rw [HW.out]
    go_wp2_with fail
    refine (V.out _).mono ?_
    rintro e w1 ⟨rfl, hb1⟩
    have HE1 := Lib.hid (HE.out.next hb1)
    clear HE HW hb1 b0 b1
    obtain ⟨z0, z1, y0, y1⟩ := boxed_fr HE1.out.res
    go_wp2_with fail
    exact ret_fr2 Try.results13 rfl rfl (HE1.out.fin _ _).1 rfl ⟨rfl, (HE1.out.fin _ _).2⟩
  | true =>
    obtain ⟨a, b, rfl, rfl, h1, h2, h3⟩ := good5_is hg
    rw [hg] at V
    replace V := Lib.hid V
    simp only [if_true]
    have hWM : wrongM (a : Int) (b : Int) = wrongR a b a := by unfold wrongM; simp
    rw [hWM, ← wrgS_is h2 h3]
    obtain ⟨q, hq⟩ : ∃ q, mkRat ((wrgS a b a : Nat) : Int) 479001600 = q := ⟨_, rfl⟩
    rw [hq]
    replace hq := Lib.hid hq
    clear hg hWM
    obtain ⟨b0, b1⟩ := box_plane HE.out.box
    go_enter Try.func13, Try.ntmps13
    go_upto_region 2 with fail
    rw [HW.out]
    go_wp2_with fail
    refine (V.out _).mono ?_
    rintro e w1 ⟨rfl, hb1⟩
    have HE0 := Lib.hid (HE.out.next hb1)
    clear HE HW hb1 b0 b1 V
    go_wp2_with fail
    go_loopw [7, 17, 8, 19, 20, 21, 22, 23, 24, 25, 26] (fun vs vi _ _ _ _ _ _ _ _ _ wr => ∃ j : Nat, j ≤ a ∧ vs = .int .i64 ((wrgS a b j : Nat) : Int) ∧ vi = .int .i64 (j : Int) ∧ Hid (PlaneE w (a : Int) (b : Int) wr)) (fun _ vi _ _ _ _ _ _ _ _ _ _ => a - (intOf vi).toNat)
    case atStart => exact ⟨0, Nat.zero_le _, rfl, rfl, HE0⟩
    case round =>
      obtain ⟨j, hj, rfl, rfl, HE⟩ := hrel
      clear HE0
      by_cases hlt : j < a
      · have hk1 : (j : Int) < (a : Int) := by omega
        have S := Lib.hid (fun w' => shareOfOwn_any a b j h2 h3 hlt w')
        have hle := shr5_le a b j
        have hwl := wrgS_le a b j
        have hst : ((wrgS a b (j + 1) : Nat) : Int) = ((wrgS a b j : Nat) : Int) + (479001600 - ((shr5 a b j : Nat) : Int)) := by
          show ((wrgS a b j + (479001600 - shr5 a b j) : Nat) : Int) = _
          omega
        obtain ⟨s, hs⟩ : ∃ s, shr5 a b j = s := ⟨_, rfl⟩
        rw [hs] at S hle hst
        obtain ⟨x, hx⟩ : ∃ x, wrgS a b j = x := ⟨_, rfl⟩
        rw [hx] at hwl hst ⊢
        have hst2 := Lib.hid hst
        have hw1 : IntKind.i64.wrap (479001600 - (s : Int)) = 479001600 - (s : Int) := IntWalk.i64_in _ (by omega)
        have hw2 : IntKind.i64.wrap ((x : Int) + (479001600 - (s : Int))) = (x : Int) + (479001600 - (s : Int)) := IntWalk.i64_in _ (by omega)
        obtain ⟨b0, b1⟩ := box_plane HE.out.box
        clear hst hs hx
        go_wp2_with fail
        refine (S.out _).mono ?_
        rintro e w2 ⟨rfl, hb2⟩
        have HE2 := Lib.hid (HE.out.next hb2)
        clear HE S hb2 b0 b1
        go_wp2_with fail
        go_roundw
        case rel => exact ⟨j + 1, by omega, by rw [hst2.out], by go_num, HE2⟩
        case measure => simp [intOf]; omega
      · have hja : j = a := by omega
        subst hja
        have hk1 : ¬ (j : Int) < (j : Int) := by omega
        have hwl := wrgS_le j b j
        have C := fun w' => chanceOf_any (wrgS j b j) (Nat.le_trans hwl (by omega)) w'
        unfold ratV at C
        rw [hq.out] at C
        obtain ⟨x, hx⟩ : ∃ x, wrgS j b j = x := ⟨_, rfl⟩
        rw [hx] at C ⊢
        replace C := Lib.hid C
        clear hq hx hwl
        go_wp2_with fail
        refine (C.out _).mono ?_
        rintro e w3 ⟨rfl, hb3⟩
        have HE3 := Lib.hid (HE.out.next hb3)
        clear HE hb3 C
        obtain ⟨z0, z1, y0, y1⟩ := boxed_fr HE3.out.res
        go_wp2_with fail
        exact ret_fr2 Try.results13 rfl rfl (HE3.out.fin _ _).1 rfl ⟨rfl, (HE3.out.fin _ _).2⟩

theorem wrongMean_both (n k : Int) : ∃ x y B, (∀ w, Calls Try.prog 12 #[.int .i64 n, .int .i64 k] w (MadeFr w x y B)) ∧ (∀ w, Calls Try.prog 13 #[.int .i64 n, .int .i64 k] w (MadeFr w x y B)) :=
  ⟨_, _, _, fun w => wrongMeanS_any n k w, fun w => wrongMeanI_any n k w⟩
end Go.Proofs.Ytadonbnnolfbdaa
