/- Chapter 5, impl side: impl.IsPossible, SeatingChance; both sides. -/
import Derived.Test.YtadonbnnolfbdaaShO5
import Derived.Test.YtadonbnnolfbdaaOwnI5
namespace Go.Proofs.Ytadonbnnolfbdaa
open Go.RowKit

set_option maxRecDepth 4000 in
set_option maxHeartbeats 1600000 in
theorem isPossibleI_any (n k : Int) (p : Option Addr) (cap : Nat) (xs : List Int) (w : World) (lo hi : Nat) (hin : Ri lo hi w p xs) (hcap : xs.length ≤ cap) (hcm : cap ≤ maxLen) (hlen : xs.length ≤ 1048576) :
    Calls Try.prog 23 #[.int .i64 n, .int .i64 k, .slice p xs.length cap] w fun e w' => e = .returned (.tuple #[.bool (askB n k xs), .bool (good5 n k)]) ∧ Below w.heap.size w w' := by
  have V := Lib.hid (fun w' => isValid_any n k w')
  have CB := Lib.hid (fun (w' : World) (h' : Below w.heap.size w w') => canBe_any n k p cap xs w' lo hi (hin.below h' hin.top) hcap hcm hlen)
  obtain ⟨B, hB⟩ : ∃ B, askB n k xs = B := ⟨_, rfl⟩
  obtain ⟨G, hG⟩ : ∃ G, good5 n k = G := ⟨_, rfl⟩
  rw [hB] at CB ⊢
  rw [hG] at V ⊢
  obtain ⟨m, hm⟩ : ∃ m, xs.length = m := ⟨_, rfl⟩
  rw [hm] at CB ⊢
  have hX := OwnArr.made w 45 [.int .i64 n, .int .i64 k]
  have hBl := (Below.refl w.heap.size w).alloc (Nat.le_refl _) (planeB n k)
  obtain ⟨c0, c1⟩ := box_plane hX.drew
  have HXd := Lib.hid hX.drew
  have HBd := Lib.hid hBl.drew
  clear hin hB hG hm hX hBl hcap hlen
  go_enter Try.func23, Try.ntmps23
  go_upto_region 2 with fail
  go_region_held3 (fun w' => w'.cell? ⟨w.heap.size, 0, none⟩ = some (.int .i64 n) ∧ w'.cell? ⟨w.heap.size, 1, none⟩ = some (.int .i64 k) ∧ Hid (OwnArr w' w.heap.size 45 [.int .i64 n, .int .i64 k]) ∧ Hid (Below w.heap.size w w')) ((first | with_reducible exact ⟨c0, c1, HXd, HBd⟩ | with_reducible exact ⟨d0, d1, HXe, HBe⟩)) (first
    | (go_at_call 37; obtain ⟨-, -, HXc, HBc⟩ := (by assumption : _ ∧ _ ∧ Hid (OwnArr _ _ _ _) ∧ Hid (Below w.heap.size w _)); refine (CB.out _ HBc.out).mono ?_; rintro e w' ⟨rfl, hb'⟩; have HXe := Lib.hid (HXc.out.below hb' HXc.out.lt); have HBe := Lib.hid (HBc.out.trans (hb'.mono HBc.out.size)); clear hb'; obtain ⟨d0, d1⟩ := box_plane HXe.out)
    | (go_at_call 34; obtain ⟨-, -, HXc, HBc⟩ := (by assumption : _ ∧ _ ∧ Hid (OwnArr _ _ _ _) ∧ Hid (Below w.heap.size w _)); refine (V.out _).mono ?_; rintro e w' ⟨rfl, hb'⟩; have HXe := Lib.hid (HXc.out.below hb' HXc.out.lt); have HBe := Lib.hid (HBc.out.trans (hb'.mono HBc.out.size)); clear hb'; obtain ⟨d0, d1⟩ := box_plane HXe.out))
  all_goals
    obtain ⟨-, -, HXf, HBf⟩ := (by assumption : _ ∧ _ ∧ Hid (OwnArr _ _ _ _) ∧ Hid (Below w.heap.size w _))
    go_wp2_with fail
    go_ret2
    exact ⟨rfl, HBf.out⟩

set_option maxRecDepth 4000 in
set_option maxHeartbeats 1600000 in
theorem seatingChanceI_any (n k : Int) (p : Option Addr) (cap : Nat) (xs : List Int) (w : World) (lo hi : Nat) (hin : Ri lo hi w p xs) (hcap : xs.length ≤ cap) (hcm : cap ≤ maxLen) (hlen : xs.length ≤ 1048576) :
    Calls Try.prog 26 #[.int .i64 n, .int .i64 k, .slice p xs.length cap] w (MadeFr w (if askB n k xs then 1 else 0) (if askB n k xs then ((denM n.toNat k.toNat xs n.toNat : Nat) : Int) else 0) (askB n k xs)) := by
  have hE := PlaneE.start w n k
  obtain ⟨wb, hwb⟩ : ∃ wb, (w.alloc (.cells #[.int .i64 0, .int .i64 0] 22)).alloc (.cells #[.int .i64 n, .int .i64 k] 45) = wb := ⟨_, rfl⟩
  rw [hwb] at hE
  have HE := Lib.hid hE
  have HW := Lib.hid hwb
  have CB := fun (w' : World) (h' : Below w.heap.size w w') => canBe_any n k p cap xs w' lo hi (hin.below h' hin.top) hcap hcm hlen
  unfold MadeFr
  clear hE hwb
  cases ha : askB n k xs with
  | false =>
    rw [ha] at CB
    simp only [Bool.false_eq_true, if_false]
    obtain ⟨m, hm⟩ : ∃ m, xs.length = m := ⟨_, rfl⟩
    rw [hm] at CB ⊢
    replace CB := Lib.hid CB
    clear ha hin hm
    obtain ⟨b0, b1⟩ := box_plane HE.out.box
    go_enter Try.func26, Try.ntmps26
    go_upto_region 2 with fail
    rw [HW.out]
    go_wp2_with fail
    refine (CB.out _ HE.out.bel).mono ?_
    rintro e w1 ⟨rfl, hb1⟩
    have HE1 := Lib.hid (HE.out.next hb1)
    clear HE HW hb1 b0 b1
    obtain ⟨z0, z1, y0, y1⟩ := boxed_fr HE1.out.res
    go_wp2_with fail
    exact ret_fr2 Try.results26 rfl rfl (HE1.out.fin _ _).1 rfl ⟨rfl, (HE1.out.fin _ _).2⟩
  | true =>
    have ha' := ha
    unfold askB at ha'
    rw [Bool.and_eq_true] at ha'
    obtain ⟨a, b, rfl, rfl, h1, h2, h3⟩ := good5_is ha'.1
    have hp := ha'.2
    simp only [Int.toNat_natCast] at hp ⊢
    have SH := fun (w' : World) (h' : Below w.heap.size w w') => shareOf_any a b p cap xs w' lo hi (hin.below h' hin.top) h1 h2 hcap hcm hlen
    have C := fun w' => chanceOf_any (shaM a b xs) (Nat.le_trans (sha_le a b xs) (by omega)) w'
    rw [sha_rat h2 hp] at C
    unfold ratV at C
    have ho := one_over (den_pos (posB_is hp).2)
    rw [ho.1, ho.2] at C
    simp only [if_true]
    rw [ha] at CB
    obtain ⟨s, hs⟩ : ∃ s, shaM a b xs = s := ⟨_, rfl⟩
    rw [hs] at C SH
    obtain ⟨m, hm⟩ : ∃ m, xs.length = m := ⟨_, rfl⟩
    rw [hm] at CB SH ⊢
    obtain ⟨D, hD⟩ : ∃ D, denM a b xs a = D := ⟨_, rfl⟩
    rw [hD] at C ⊢
    replace CB := Lib.hid CB
    replace SH := Lib.hid SH
    replace C := Lib.hid C
    clear ha hin hm hs hD ho hp ha'
    obtain ⟨b0, b1⟩ := box_plane HE.out.box
    go_enter Try.func26, Try.ntmps26
    go_upto_region 2 with fail
    rw [HW.out]
    go_wp2_with fail
    refine (CB.out _ HE.out.bel).mono ?_
    rintro e w1 ⟨rfl, hb1⟩
    have HE1 := Lib.hid (HE.out.next hb1)
    clear HE HW hb1 b0 b1 CB
    obtain ⟨b0, b1⟩ := box_plane HE1.out.box
    go_wp2_with fail
    refine (SH.out _ HE1.out.bel).mono ?_
    rintro e w2 ⟨rfl, hb2⟩
    have HE2 := Lib.hid (HE1.out.next hb2)
    clear HE1 hb2 b0 b1 SH
    go_wp2_with fail
    refine (C.out _).mono ?_
    rintro e w3 ⟨rfl, hb3⟩
    have HE3 := Lib.hid (HE2.out.next hb3)
    clear HE2 hb3 C
    obtain ⟨z0, z1, y0, y1⟩ := boxed_fr HE3.out.res
    go_wp2_with fail
    exact ret_fr2 Try.results26 rfl rfl (HE3.out.fin _ _).1 rfl ⟨rfl, (HE3.out.fin _ _).2⟩

theorem isPossible_both (a0 : Int) (a1 : Int) (xs2 : List Int) : ∃ (y0 : Bool) (y1 : Bool), (∀ (q2 : Option Addr) (c2 : Nat) (w : World) (lo2 hi2 : Nat), Ri lo2 hi2 w q2 xs2 → xs2.length ≤ 1048576 → xs2.length ≤ c2 → c2 ≤ maxLen → Calls Try.prog 21 #[.int .i64 a0, .int .i64 a1, .slice q2 xs2.length c2] w fun e w' => e = .returned (.tuple #[.bool y0, .bool y1]) ∧ Below w.heap.size w w') ∧ (∀ (q2 : Option Addr) (c2 : Nat) (w : World) (lo2 hi2 : Nat), Ri lo2 hi2 w q2 xs2 → xs2.length ≤ 1048576 → xs2.length ≤ c2 → c2 ≤ maxLen → Calls Try.prog 23 #[.int .i64 a0, .int .i64 a1, .slice q2 xs2.length c2] w fun e w' => e = .returned (.tuple #[.bool y0, .bool y1]) ∧ Below w.heap.size w w') :=
  ⟨_, _, fun q c w lo hi h1 h2 h3 h4 => isPossibleS_any a0 a1 q c xs2 w lo hi h1 h3 h4 h2, fun q c w lo hi h1 h2 h3 h4 => isPossibleI_any a0 a1 q c xs2 w lo hi h1 h3 h4 h2⟩

theorem seatingChance_both (a0 : Int) (a1 : Int) (xs2 : List Int) : ∃ (x0 : Int) (z0 : Int) (y1 : Bool), (∀ (q2 : Option Addr) (c2 : Nat) (w : World) (lo2 hi2 : Nat), Ri lo2 hi2 w q2 xs2 → xs2.length ≤ 1048576 → xs2.length ≤ c2 → c2 ≤ maxLen → Calls Try.prog 25 #[.int .i64 a0, .int .i64 a1, .slice q2 xs2.length c2] w fun e w' => e = .returned (.tuple #[.agg #[.int .i64 x0, .int .i64 z0], .bool y1]) ∧ Below w.heap.size w w') ∧ (∀ (q2 : Option Addr) (c2 : Nat) (w : World) (lo2 hi2 : Nat), Ri lo2 hi2 w q2 xs2 → xs2.length ≤ 1048576 → xs2.length ≤ c2 → c2 ≤ maxLen → Calls Try.prog 26 #[.int .i64 a0, .int .i64 a1, .slice q2 xs2.length c2] w fun e w' => e = .returned (.tuple #[.agg #[.int .i64 x0, .int .i64 z0], .bool y1]) ∧ Below w.heap.size w w') :=
  ⟨_, _, _, fun q c w lo hi h1 h2 h3 h4 => seatingChanceS_any a0 a1 q c xs2 w lo hi h1 h3 h4 h2, fun q c w lo hi h1 h2 h3 h4 => seatingChanceI_any a0 a1 q c xs2 w lo hi h1 h3 h4 h2⟩
end Go.Proofs.Ytadonbnnolfbdaa
