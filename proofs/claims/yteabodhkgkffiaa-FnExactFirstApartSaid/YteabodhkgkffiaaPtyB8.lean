/- Chapter 8: IsParty and CouplesTogether on both sides. -/
import Derived.Test.YteabodhkgkffiaaPtyS8
namespace Go.Proofs.Yteabodhkgkffiaa
open Go.RowKit

/-- a party of so many couples -/
def parB (k : Int) (ring : Bool) (xs : List Int) : Bool := couB k ring && orderB (2 * k) xs
theorem parB_is {k : Int} {ring : Bool} {xs : List Int} (h : parB k ring xs = true) : ∃ (n : Nat) (l : List Nat), k = n ∧ xs = ints l ∧ 1 ≤ n ∧ n ≤ 6 ∧ (ring = true → 2 ≤ n) ∧ l.length = 2 * n ∧ (∀ x ∈ l, x < 2 * n) := by
  unfold parB at h
  rw [Bool.and_eq_true] at h
  obtain ⟨n, rfl, h1, h6, h2⟩ := couB_is h.1
  have ho := h.2
  rw [show 2 * (n : Int) = ((2 * n : Nat) : Int) by omega] at ho
  obtain ⟨l, rfl, hl, hx⟩ := orderB_is ho
  exact ⟨n, l, rfl, rfl, h1, h6, h2, hl, hx⟩

set_option maxRecDepth 4000 in
set_option maxHeartbeats 400000 in
theorem isParty_any (k : Int) (ring : Bool) (p : Option Addr) (cap : Nat) (xs : List Int) (w : World) (lo hi : Nat) (hin : Ri lo hi w p xs) (hl : xs.length ≤ 1048576) :
    Calls Try.prog 30 #[.int .i64 k, .bool ring, .slice p xs.length cap] w fun e w' => e = .returned (.bool (parB k ring xs)) ∧ Below w.heap.size w w' := by
  have C := fun w' => hasCouples_any k ring w'
  unfold parB
  cases hc : couB k ring with
  | false =>
    rw [hc] at C
    replace C := Lib.hid C
    obtain ⟨m, hm⟩ : ∃ m, xs.length = m := ⟨_, rfl⟩
    rw [hm]
    clear hin hc hm
    go_enter Try.func30, Try.ntmps30
    go_wp2_with fail
    refine (C.out _).mono ?_
    rintro e w1 ⟨rfl, rfl⟩
    go_wp2_with fail
    go_ret
    exact ⟨rfl, Below.refl _ _⟩
  | true =>
    rw [hc] at C
    obtain ⟨n, rfl, h1, h6, -⟩ := couB_is hc
    have O := isOrder_any p cap xs (2 * (n : Int)) w lo hi hin (by omega) (by omega) hl
    obtain ⟨B, hB⟩ : ∃ B, orderB (2 * (n : Int)) xs = B := ⟨_, rfl⟩
    rw [hB] at O ⊢
    obtain ⟨m, hm⟩ : ∃ m, xs.length = m := ⟨_, rfl⟩
    rw [hm] at O ⊢
    replace C := Lib.hid C
    replace O := Lib.hid O
    have hw : IntKind.i64.wrap (2 * (n : Int)) = 2 * (n : Int) := IntWalk.i64_in _ (by omega)
    clear hin hc hm hB
    go_enter Try.func30, Try.ntmps30
    go_wp2_with fail
    refine (C.out _).mono ?_
    rintro e w1 ⟨rfl, rfl⟩
    go_wp2_with fail
    refine O.out.mono ?_
    rintro e w2 ⟨rfl, hb⟩
    go_wp2_with fail
    go_ret
    exact ⟨ret_bool (by simp), hb⟩

set_option maxRecDepth 4000 in
set_option maxHeartbeats 400000 in
theorem isPartyI_any (k : Int) (ring : Bool) (p : Option Addr) (cap : Nat) (xs : List Int) (w : World) (lo hi : Nat) (hin : Ri lo hi w p xs) (hl : xs.length ≤ 1048576) :
    Calls Try.prog 12 #[.int .i64 k, .bool ring, .slice p xs.length cap] w fun e w' => e = .returned (.tuple #[.bool (parB k ring xs), .bool (couB k ring)]) ∧ Below w.heap.size w w' := by
  have P := Lib.hid (isParty_any k ring p cap xs w lo hi hin hl)
  have C := Lib.hid (fun w' => hasCouples_any k ring w')
  obtain ⟨B, hB⟩ : ∃ B, parB k ring xs = B := ⟨_, rfl⟩
  rw [hB] at P ⊢
  obtain ⟨D, hD⟩ : ∃ B, couB k ring = B := ⟨_, rfl⟩
  rw [hD] at C ⊢
  obtain ⟨m, hm⟩ : ∃ m, xs.length = m := ⟨_, rfl⟩
  rw [hm] at P ⊢
  clear hin hm hB hD hl
  go_enter Try.func12, Try.ntmps12
  go_wp2_with fail
  refine P.out.mono ?_
  rintro e w1 ⟨rfl, hb⟩
  go_wp2_with fail
  refine (C.out _).mono ?_
  rintro e w2 ⟨rfl, rfl⟩
  go_wp2_with fail
  go_ret2
  exact ⟨rfl, hb⟩

set_option maxRecDepth 4000 in
set_option maxHeartbeats 400000 in
theorem isPartyS_any (k : Int) (ring : Bool) (p : Option Addr) (cap : Nat) (xs : List Int) (w : World) (lo hi : Nat) (hin : Ri lo hi w p xs) (hl : xs.length ≤ 1048576) :
    Calls Try.prog 10 #[.int .i64 k, .bool ring, .slice p xs.length cap] w fun e w' => e = .returned (.tuple #[.bool (parB k ring xs), .bool (couB k ring)]) ∧ Below w.heap.size w w' := by
  have C := fun w' => l8Couples_any k ring w'
  unfold parB
  cases hc : couB k ring with
  | false =>
    rw [hc] at C
    replace C := Lib.hid C
    obtain ⟨m, hm⟩ : ∃ m, xs.length = m := ⟨_, rfl⟩
    rw [hm]
    clear hin hc hm
    go_enter Try.func10, Try.ntmps10
    go_wp2_with fail
    refine (C.out _).mono ?_
    rintro e w1 ⟨rfl, rfl⟩
    go_wp2_with fail
    go_ret2
    exact ⟨rfl, Below.refl _ _⟩
  | true =>
    rw [hc] at C
    obtain ⟨n, rfl, h1, h6, -⟩ := couB_is hc
    have O := l4Order_any8 p cap xs (2 * n) w lo hi hin hl (by omega)
    have h2 : 2 * (n : Int) = ((2 * n : Nat) : Int) := by omega
    rw [← h2] at O
    obtain ⟨B, hB⟩ : ∃ B, orderB (2 * (n : Int)) xs = B := ⟨_, rfl⟩
    rw [hB] at O ⊢
    obtain ⟨m, hm⟩ : ∃ m, xs.length = m := ⟨_, rfl⟩
    rw [hm] at O ⊢
    replace C := Lib.hid C
    replace O := Lib.hid O
    have hw : IntKind.i64.wrap (2 * (n : Int)) = 2 * (n : Int) := IntWalk.i64_in _ (by omega)
    clear hin hc hm hB h2
    go_enter Try.func10, Try.ntmps10
    go_wp2_with fail
    refine (C.out _).mono ?_
    rintro e w1 ⟨rfl, rfl⟩
    go_wp2_with fail
    refine O.out.mono ?_
    rintro e w2 ⟨rfl, rfl⟩
    go_wp2_with fail
    go_ret2
    exact ⟨by simp, Below.refl _ _⟩

theorem isParty_both (a0 : Int) (a1 : Bool) (xs2 : List Int) : ∃ (y0 : Bool) (y1 : Bool), (∀ (q2 : Option Addr) (c2 : Nat) (w : World) (lo2 hi2 : Nat), Ri lo2 hi2 w q2 xs2 → xs2.length ≤ 1048576 → xs2.length ≤ c2 → c2 ≤ maxLen → Calls Try.prog 10 #[.int .i64 a0, .bool a1, .slice q2 xs2.length c2] w fun e w' => e = .returned (.tuple #[.bool y0, .bool y1]) ∧ Below w.heap.size w w') ∧ (∀ (q2 : Option Addr) (c2 : Nat) (w : World) (lo2 hi2 : Nat), Ri lo2 hi2 w q2 xs2 → xs2.length ≤ 1048576 → xs2.length ≤ c2 → c2 ≤ maxLen → Calls Try.prog 12 #[.int .i64 a0, .bool a1, .slice q2 xs2.length c2] w fun e w' => e = .returned (.tuple #[.bool y0, .bool y1]) ∧ Below w.heap.size w w') :=
  ⟨parB a0 a1 xs2, couB a0 a1, fun q c w lo hi h hl _ _ => isPartyS_any a0 a1 q c xs2 w lo hi h hl, fun q c w lo hi h hl _ _ => isPartyI_any a0 a1 q c xs2 w lo hi h hl⟩
end Go.Proofs.Yteabodhkgkffiaa
