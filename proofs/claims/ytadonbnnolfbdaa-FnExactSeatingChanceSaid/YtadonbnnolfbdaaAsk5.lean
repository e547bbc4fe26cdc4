/- Chapter 5, spec side: spec.l5Ask, IsPossible, SeatingChance. -/
import Derived.Test.YtadonbnnolfbdaaChn5
namespace Go.Proofs.Ytadonbnnolfbdaa
open Go.RowKit

/-- numbers and a possible seating -/
def askB (n k : Int) (xs : List Int) : Bool := good5 n k && posB n.toNat k.toNat xs

set_option maxRecDepth 4000 in
set_option maxHeartbeats 1000000 in
theorem l5Ask_any (n k : Int) (p : Option Addr) (cap : Nat) (xs : List Int) (w : World) (lo hi : Nat) (hin : Ri lo hi w p xs) (hcap : xs.length ≤ cap) (hcm : cap ≤ maxLen) (hlen : xs.length ≤ 1048576) :
    Calls Try.prog 38 #[.int .i64 n, .int .i64 k, .slice p xs.length cap] w fun e w' => e = .returned (.bool (askB n k xs)) ∧ Below w.heap.size w w' := by
  have G := l5Good_any n k w
  cases hg : good5 n k with
  | true =>
    obtain ⟨a, b, rfl, rfl, h1, h2, h3⟩ := good5_is hg
    have P := l5Possible_any a b p cap xs w lo hi hin h1 h2 h3 hcap hcm hlen
    have hB : askB (a : Int) (b : Int) xs = posB a b xs := by unfold askB; rw [hg, Bool.true_and]; rfl
    rw [hB]
    rw [hg] at G
    obtain ⟨B, hBB⟩ : ∃ B, posB a b xs = B := ⟨_, rfl⟩
    rw [hBB] at P ⊢
    obtain ⟨m, hm⟩ : ∃ m, xs.length = m := ⟨_, rfl⟩
    rw [hm] at P ⊢
    replace G := Lib.hid G
    replace P := Lib.hid P
    clear hin hg hB hBB hm
    go_enter Try.func38, Try.ntmps38
    go_wp2_with fail
    refine G.out.mono ?_
    rintro e w1 ⟨rfl, rfl⟩
    go_wp2_with fail
    refine P.out.mono ?_
    rintro e w2 ⟨rfl, hb2⟩
    go_wp2_with fail
    go_ret
    exact ⟨rfl, hb2⟩
  | false =>
    have hB : askB n k xs = false := by unfold askB; rw [hg]; rfl
    rw [hB]
    rw [hg] at G
    replace G := Lib.hid G
    clear hin hg hB
    go_enter Try.func38, Try.ntmps38
    go_wp2_with fail
    refine G.out.mono ?_
    rintro e w1 ⟨rfl, rfl⟩
    go_wp2_with fail
    go_ret
    exact ⟨rfl, Below.refl _ _⟩

set_option maxRecDepth 4000 in
set_option maxHeartbeats 1000000 in
theorem isPossibleS_any (n k : Int) (p : Option Addr) (cap : Nat) (xs : List Int) (w : World) (lo hi : Nat) (hin : Ri lo hi w p xs) (hcap : xs.length ≤ cap) (hcm : cap ≤ maxLen) (hlen : xs.length ≤ 1048576) :
    Calls Try.prog 21 #[.int .i64 n, .int .i64 k, .slice p xs.length cap] w fun e w' => e = .returned (.tuple #[.bool (askB n k xs), .bool (good5 n k)]) ∧ Below w.heap.size w w' := by
  have G := l5Good_any n k w
  cases hg : good5 n k with
  | true =>
    obtain ⟨a, b, rfl, rfl, h1, h2, h3⟩ := good5_is hg
    have P := l5Possible_any a b p cap xs w lo hi hin h1 h2 h3 hcap hcm hlen
    have hB : askB (a : Int) (b : Int) xs = posB a b xs := by unfold askB; rw [hg, Bool.true_and]; rfl
    rw [hB]
    rw [hg] at G
    obtain ⟨B, hBB⟩ : ∃ B, posB a b xs = B := ⟨_, rfl⟩
    rw [hBB] at P ⊢
    obtain ⟨m, hm⟩ : ∃ m, xs.length = m := ⟨_, rfl⟩
    rw [hm] at P ⊢
    replace G := Lib.hid G
    replace P := Lib.hid P
    clear hin hg hB hBB hm
    go_enter Try.func21, Try.ntmps21
    go_wp2_with fail
    refine G.out.mono ?_
    rintro e w1 ⟨rfl, rfl⟩
    go_wp2_with fail
    refine P.out.mono ?_
    rintro e w2 ⟨rfl, hb2⟩
    go_wp2_with fail
    go_ret2
    exact ⟨rfl, hb2⟩
  | false =>
    have hB : askB n k xs = false := by unfold askB; rw [hg]; rfl
    rw [hB]
    rw [hg] at G
    replace G := Lib.hid G
    clear hin hg hB
    go_enter Try.func21, Try.ntmps21
    go_wp2_with fail
    refine G.out.mono ?_
    rintro e w1 ⟨rfl, rfl⟩
    go_wp2_with fail
    go_ret2
    exact ⟨rfl, Below.refl _ _⟩

set_option maxRecDepth 4000 in
set_option maxHeartbeats 1000000 in
theorem seatingChanceS_any (n k : Int) (p : Option Addr) (cap : Nat) (xs : List Int) (w : World) (lo hi : Nat) (hin : Ri lo hi w p xs) (hcap : xs.length ≤ cap) (hcm : cap ≤ maxLen) (hlen : xs.length ≤ 1048576) :
    Calls Try.prog 25 #[.int .i64 n, .int .i64 k, .slice p xs.length cap] w (MadeFr w (if askB n k xs then 1 else 0) (if askB n k xs then ((denM n.toNat k.toNat xs n.toNat : Nat) : Int) else 0) (askB n k xs)) := by
  have HZ1 : Hid (OwnArr (w.alloc (.cells #[.int .i64 0, .int .i64 0] 22)) w.heap.size 22 [.int .i64 0, .int .i64 0]) := OwnArr.made w _ [_, _]
  have hB1 : Below w.heap.size w (w.alloc (.cells #[.int .i64 0, .int .i64 0] 22)) := (Below.refl _ _).alloc (Nat.le_refl _) _
  have HB1 := Lib.hid hB1
  have A := l5Ask_any n k p cap xs _ lo hi (hin.bel hB1) hcap hcm hlen
  unfold MadeFr
  cases ha : askB n k xs with
  | true =>
    have ha' := ha
    unfold askB at ha'
    rw [Bool.and_eq_true] at ha'
    obtain ⟨a, b, rfl, rfl, h1, h2, h3⟩ := good5_is ha'.1
    have hp := ha'.2
    simp only [Int.toNat_natCast] at hp ⊢
    unfold posB at hp
    rw [Bool.and_eq_true, decide_eq_true_eq] at hp
    obtain ⟨hl, hp⟩ := hp
    have C := fun (w' : World) (h' : Below w.heap.size w w') => l5Chance_any a b p cap xs w' lo hi (hin.below h' hin.top) h1 h2 h3 hl (by omega) hcm
    have ho := one_over (den_pos hp)
    have hch : chanceR a b xs = mkRat 1 (denM a b xs a) := by unfold chanceR; rw [if_pos hp]
    rw [hch] at C
    unfold ratV at C
    rw [ho.1, ho.2] at C
    rw [hl] at A ⊢
    rw [ha] at A
    replace A := Lib.hid A
    replace C := Lib.hid C
    simp only [if_true]
    obtain ⟨D, hD⟩ : ∃ D, denM a b xs a = D := ⟨_, rfl⟩
    rw [hD] at C ⊢
    clear ha ha' hp hch hD ho hin hB1 hl
    go_enter Try.func25, Try.ntmps25
    go_wp2_with fail
    refine A.out.mono ?_
    rintro e w1 ⟨rfl, hb1⟩
    have HZ2 := Lib.hid (HZ1.out.below hb1 HZ1.out.lt)
    have HB2 := Lib.hid (HB1.out.trans (hb1.mono HB1.out.size))
    clear HZ1 HB1 hb1 A
    go_wp2_with fail
    refine (C.out _ HB2.out).mono ?_
    rintro e w2 ⟨rfl, hb2⟩
    have HZ3 := Lib.hid (HZ2.out.below hb2 HZ2.out.lt)
    have HB3 := Lib.hid (HB2.out.trans (hb2.mono HB2.out.size))
    clear HZ2 HB2 hb2 C
    obtain ⟨z0, z1, y0, y1⟩ := boxed_fr HZ3.out
    go_wp2_with fail
    exact ret_fr2 Try.results25 rfl rfl ((HZ3.out.set 0 _).set 1 _) rfl ⟨rfl, (HB3.out.setCell (p := ⟨w.heap.size, 0, none⟩) (Nat.le_refl _) _).setCell (p := ⟨w.heap.size, 1, none⟩) (Nat.le_refl _) _⟩
  | false =>
    simp only [Bool.false_eq_true, if_false]
    rw [ha] at A
    replace A := Lib.hid A
    obtain ⟨m, hm⟩ : ∃ m, xs.length = m := ⟨_, rfl⟩
    rw [hm] at A ⊢
    clear ha hin hB1 hm
    go_enter Try.func25, Try.ntmps25
    go_wp2_with fail
    refine A.out.mono ?_
    rintro e w1 ⟨rfl, hb1⟩
    have HZ2 := Lib.hid (HZ1.out.below hb1 HZ1.out.lt)
    have HB2 := Lib.hid (HB1.out.trans (hb1.mono HB1.out.size))
    clear HZ1 HB1 hb1 A
    obtain ⟨z0, z1, y0, y1⟩ := boxed_fr HZ2.out
    go_wp2_with fail
    exact ret_fr2 Try.results25 rfl rfl ((HZ2.out.set 0 _).set 1 _) rfl ⟨rfl, (HB2.out.setCell (p := ⟨w.heap.size, 0, none⟩) (Nat.le_refl _) _).setCell (p := ⟨w.heap.size, 1, none⟩) (Nat.le_refl _) _⟩
end Go.Proofs.Ytadonbnnolfbdaa
