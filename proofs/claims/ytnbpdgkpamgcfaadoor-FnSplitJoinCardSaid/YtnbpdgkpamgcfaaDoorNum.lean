/- spec.l1Num: the decimal text of a number, for every number from -9999999 to 9999999; spec.l1In. No function of the library is asked. -/
import Derived.Test.YtnbpdgkpamgcfaaDoorProg
import Derived.Test.YtnbpdgkpamgcfaaDoorSum
import Derived.WalkKit
import Derived.WalkSpells
import Derived.WalkLawsBesides
import Derived.Lib.Hide
import Derived.Lib.ItoaNum
import Derived.Lib.ItoaLen
import Derived.Lib.ItoaMem
import Derived.Lib.Strings
import Derived.Deep.QuietTactic
import Derived.BigQuiet
import Derived.IntWalk
namespace Go.Proofs.YtnbpdgkpamgcfaaDoor
open Go.RowKit

def dig10 (i : Nat) : ByteArray := ⟨#[UInt8.ofNat (48 + i)]⟩
theorem dig10_piece (i : Nat) (h : i < 10) : (⟨#[48, 49, 50, 51, 52, 53, 54, 55, 56, 57]⟩ : ByteArray).extract i (i + 1) = dig10 i := by
  match i, h with
  | 0, _ => rfl
  | 1, _ => rfl
  | 2, _ => rfl
  | 3, _ => rfl
  | 4, _ => rfl
  | 5, _ => rfl
  | 6, _ => rfl
  | 7, _ => rfl
  | 8, _ => rfl
  | 9, _ => rfl
  | n + 10, h => omega

theorem str_ne {a b : ByteArray} (h : ¬ a = b) : (!a.toList == b.toList) = true := by
  rw [Bool.not_eq_true', beq_eq_false_iff_ne]
  intro e
  rw [Lib.toList_data, Lib.toList_data] at e
  exact h (ByteArray.ext (Array.ext' e))

/-- the digits of a number, as a text -/
def decS (n : Nat) : ByteArray := ⟨(Lib.decDigits n).toArray⟩
theorem decS_small (n : Nat) (h : n < 10) : decS n = dig10 n := by
  unfold decS dig10
  rw [Lib.decDigits, dif_pos h]
theorem decS_big (n : Nat) (h : ¬ n < 10) : decS (n / 10) ++ dig10 (n % 10) = decS n := by
  unfold decS dig10
  rw [Lib.decDigits.eq_1 n, dif_neg h, ByteArray.mk_append_mk]

theorem decS_len (n : Nat) (h : n ≤ 9999999) : (decS n).size ≤ 21 := by
  have := Lib.itoa_length_le (n : Int) (by omega) (by omega)
  rw [Lib.itoa_nonneg] at this
  rw [Lib.size_eq]
  simpa [decS] using this

set_option maxHeartbeats 400000 in
theorem l1Num_nat (n : Nat) : ∀ (w : World), n ≤ 9999999 →
    Calls Tryd.prog 39 #[.int .i64 (n : Int)] w fun e w' => e = .returned (.string (decS n)) ∧ ∃ q, w' = w.drewN q := by
  induction n using Nat.strongRecOn with
  | _ n ih =>
    intro w hn
    by_cases h : n < 10
    · have he := dig10_piece n h
      have hs := decS_small n h
      go_enter Tryd.func39, Tryd.ntmps39
      go_wp2
      go_ret
      exact ⟨by rw [hs]; rfl, 0, rfl⟩
    · have hi := ih (n / 10) (by omega)
      obtain ⟨d, hd⟩ : ∃ d, d = n / 10 := ⟨_, rfl⟩
      obtain ⟨r, hr⟩ : ∃ r, r = n % 10 := ⟨_, rfl⟩
      have hr10 : r < 10 := by omega
      have he := dig10_piece r hr10
      have HB : Hid (decS d ++ dig10 r = decS n) := by
        show _ = _
        rw [hd, hr]; exact decS_big n h
      rw [← hd] at hi
      have HI : Hid (∀ (w : World), d ≤ 9999999 → Calls Tryd.prog 39 #[.int .i64 (d : Int)] w fun e w' => e = .returned (.string (decS d)) ∧ ∃ q, w' = w.drewN q) := hi
      have hd9 : d ≤ 9999999 := by omega
      have hlen := decS_len d (by omega)
      have hlen2 : (dig10 r).size = 1 := rfl
      have hw1 : IntKind.i64.wrap ((n : Int) / 10) = (d : Int) := by rw [IntWalk.i64_in _ (by omega)]; omega
      have hw2 : IntKind.i64.wrap ((n : Int) % 10) = (r : Int) := by rw [IntWalk.i64_in _ (by omega)]; omega
      have hw2' : (n : Int) % 10 = (r : Int) := by omega
      have hw3 : IntKind.i64.wrap ((r : Int) + 1) = (r : Int) + 1 := IntWalk.i64_in _ (by omega)
      have hr0 : (0 : Int) ≤ (r : Int) := by omega
      have hr1 : (r : Int) + 1 ≤ 10 := by omega
      have hrt : ((r : Int) + 1).toNat = r + 1 := by omega
      clear hi ih hd hr
      go_enter Tryd.func39, Tryd.ntmps39
      go_wp2_with fail
      go_quiet ((exact Calls.quiet_of (HI.out _ hd9)))
      go_wp2
      go_ret
      exact ⟨by rw [← HB.out]; rfl, nq, rfl⟩

/-- the decimal text of a number -/
def numS (n : Int) : ByteArray := ⟨(Lib.itoa n).toArray⟩
theorem numS_nat (n : Nat) : numS (n : Int) = decS n := by unfold numS decS; rw [Lib.itoa_nonneg]
theorem numS_neg (n : Nat) (h : 1 ≤ n) : numS (-(n : Int)) = ⟨#[45]⟩ ++ decS n := by
  unfold numS decS
  rw [Lib.itoa_neg n h, ByteArray.mk_append_mk]
  simp
theorem numS_len (n : Int) (h0 : -9999999 ≤ n) (h1 : n ≤ 9999999) : (numS n).size ≤ 21 := by
  have := Lib.itoa_length_le n (by omega) (by omega)
  rw [Lib.size_eq]
  simpa [numS] using this

set_option maxHeartbeats 400000 in
theorem l1Num_any (n : Int) (w : World) (h0 : -9999999 ≤ n) (h1 : n ≤ 9999999) :
    Calls Tryd.prog 39 #[.int .i64 n] w fun e w' => e = .returned (.string (numS n)) ∧ ∃ q, w' = w.drewN q := by
  by_cases h : n < 0
  · obtain ⟨m, hm⟩ : ∃ m : Nat, n = -(m : Int) := ⟨n.natAbs, by omega⟩
    have hm1 : 1 ≤ m := by omega
    have hm2 : m ≤ 9999999 := by omega
    have HN : Hid (numS n = ⟨#[45]⟩ ++ decS m) := by
      show _ = _
      rw [hm]; exact numS_neg m hm1
    have hw1 : IntKind.i64.wrap (-n) = (m : Int) := by rw [IntWalk.i64_in _ (by omega)]; omega
    have hw2 : -n = (m : Int) := by omega
    have hlen := decS_len m hm2
    clear hm h0 h1
    go_enter Tryd.func39, Tryd.ntmps39
    go_wp2_with (go_at_call 39; refine (l1Num_nat m _ hm2).mono ?_; rintro e w' ⟨rfl, q, rfl⟩)
    go_ret
    exact ⟨by rw [HN.out]; rfl, q, rfl⟩
  · obtain ⟨m, rfl⟩ : ∃ m : Nat, n = (m : Int) := ⟨n.toNat, by omega⟩
    refine (l1Num_nat m w (by omega)).mono fun e w' ⟨he, hw⟩ => ⟨by rw [he, numS_nat], hw⟩

set_option maxHeartbeats 400000 in
theorem l1In_any (x a b : Int) (w : World) :
    Calls Tryd.prog 38 #[.int .i64 x, .int .i64 a, .int .i64 b] w fun e w' => e = .returned (.bool (decide (a ≤ x ∧ x ≤ b))) ∧ w = w' := by
  by_cases h1 : a ≤ x
  · by_cases h2 : x ≤ b
    · go_enter Tryd.func38, Tryd.ntmps38
      go_wp2
      go_ret
      exact ⟨ret_bool (by simp; omega), rfl⟩
    · go_enter Tryd.func38, Tryd.ntmps38
      go_wp2
      go_ret
      exact ⟨ret_bool (by simp [h2]), rfl⟩
  · go_enter Tryd.func38, Tryd.ntmps38
    go_wp2
    go_ret
    exact ⟨ret_bool (by simp; omega), rfl⟩
theorem l1In_yes (x a b : Int) (h1 : a ≤ x) (h2 : x ≤ b) (w : World) :
    Calls Tryd.prog 38 #[.int .i64 x, .int .i64 a, .int .i64 b] w fun e w' => e = .returned (.bool true) ∧ w = w' :=
  (l1In_any x a b w).mono fun _ _ ⟨he, hw⟩ => ⟨by rw [he, decide_eq_true ⟨h1, h2⟩], hw⟩
theorem l1In_no (x a b : Int) (h : ¬ (a ≤ x ∧ x ≤ b)) (w : World) :
    Calls Tryd.prog 38 #[.int .i64 x, .int .i64 a, .int .i64 b] w fun e w' => e = .returned (.bool false) ∧ w = w' :=
  (l1In_any x a b w).mono fun _ _ ⟨he, hw⟩ => ⟨by rw [he, decide_eq_false h], hw⟩
end Go.Proofs.YtnbpdgkpamgcfaaDoor
