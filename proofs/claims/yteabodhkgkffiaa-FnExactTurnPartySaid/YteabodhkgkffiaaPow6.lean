/- Chapter 6, spec side: spec.l6Power, CountParking, LuckyCounts. -/
import Derived.Test.YteabodhkgkffiaaIsRow
import Derived.Test.YteabodhkgkffiaaApp
import Derived.Test.YteabodhkgkffiaaOut
namespace Go.Proofs.Yteabodhkgkffiaa
open Go.RowKit

set_option maxRecDepth 4000 in
set_option maxHeartbeats 1000000 in
theorem l6Power_any (a n : Nat) (hn : n ≤ 1000) (hb : ∀ j, j ≤ n → a ^ j ≤ 4611686018427387904) (w : World) :
    Calls Try.prog 50 #[.int .i64 (a : Nat), .int .i64 (n : Nat)] w fun e w' => e = .returned (.int .i64 ((a ^ n : Nat) : Int)) ∧ w = w' := by
  have HBD := Lib.hid hb
  obtain ⟨R, hR⟩ : ∃ R, a ^ n = R := ⟨_, rfl⟩
  rw [hR]
  have HR := Lib.hid hR
  clear hR hb
  go_enter Try.func50, Try.ntmps50
  go_wp2_with fail
  go_loop [5, 6] (fun vo vi => ∃ j : Nat, j ≤ n ∧ vo = .int .i64 ((a ^ j : Nat) : Int) ∧ vi = .int .i64 (j : Int)) (fun _ vi => n - (intOf vi).toNat)
  case atStart => exact ⟨0, Nat.zero_le _, rfl, rfl⟩
  case round =>
    obtain ⟨j, hj, rfl, rfl⟩ := hrel
    by_cases hlt : j < n
    · have hk1 : (j : Int) < (n : Int) := by omega
      have hf := HBD.out (j + 1) hlt
      have hm : ((a ^ j : Nat) : Int) * (a : Int) = ((a ^ (j + 1) : Nat) : Int) := by rw [Nat.pow_succ]; push_cast; rfl
      obtain ⟨x, hx⟩ : ∃ x, a ^ j = x := ⟨_, rfl⟩
      obtain ⟨y, hy⟩ : ∃ y, a ^ (j + 1) = y := ⟨_, rfl⟩
      rw [hy] at hf
      rw [hx, hy] at hm
      have hw : IntKind.i64.wrap (y : Int) = (y : Int) := IntWalk.i64_in _ (by omega)
      have HY := Lib.hid hy
      rw [hx]
      clear hx hy
      go_wp2_with fail
      go_round
      case rel => exact ⟨j + 1, by omega, by rw [HY.out], by go_num⟩
      case measure => simp [intOf]; omega
    · have hjn : j = n := by omega
      subst hjn
      have hk1 : ¬ (j : Int) < (j : Int) := by omega
      have hr := HR.out
      obtain ⟨x, hx⟩ : ∃ x, a ^ j = x := ⟨_, rfl⟩
      rw [hx] at hr ⊢
      subst hr
      clear HR hx
      go_wp2_with fail
      go_ret
      exact ⟨rfl, rfl⟩

/-- a number of cars -/
def good6 (n : Int) : Bool := decide (1 ≤ n) && decide (n ≤ 12)
theorem good6_is {n : Int} (h : good6 n = true) : ∃ a : Nat, n = a ∧ 1 ≤ a ∧ a ≤ 12 := by
  simp only [good6, Bool.and_eq_true, decide_eq_true_eq] at h
  exact ⟨n.toNat, by omega, by omega, by omega⟩
theorem pow_small {n j : Nat} (hn : n ≤ 12) (hj : j ≤ 11) : (n + 1) ^ j ≤ 1792160394037 := by
  have h1 : (n + 1) ^ j ≤ 13 ^ j := Nat.pow_le_pow_left (by omega) j
  have h2 : 13 ^ j ≤ 13 ^ 11 := Nat.pow_le_pow_right (by omega) hj
  have h3 : 13 ^ 11 = 1792160394037 := by decide
  omega

/-- the numbers F 0, .., F (N - 1) -/
def nrM (N : Nat) (F : Nat → Nat) : List Nat := (List.range N).map F
theorem nr_len (N : Nat) (F : Nat → Nat) : (nrM N F).length = N := by unfold nrM; rw [List.length_map, List.length_range]
theorem nr_get {N : Nat} {F : Nat → Nat} {i : Nat} (h : i < N) : (iv (ints (nrM N F)))[i]? = some (.int .i64 ((F i : Nat) : Int)) := by
  rw [iv_get (by rw [ints_length, nr_len]; exact h), ints_get (by rw [nr_len]; exact h)]
  unfold nrM
  rw [List.getElem?_map, List.getElem?_range h]; rfl
theorem nr_ivlen (N : Nat) (F : Nat → Nat) : (iv (ints (nrM N F))).length = N := by rw [iv_length, ints_length, nr_len]
theorem nr_set (N : Nat) (F : Nat → Nat) (k x : Nat) : (iv (ints (nrM N F))).set k (.int .i64 (x : Int)) = iv (ints (nrM N fun j => if j = k then x else F j)) := by
  apply List.ext_getElem?
  intro i
  rw [List.getElem?_set]
  by_cases hi : i < N
  · rw [nr_get hi, nr_get hi, nr_ivlen]
    by_cases e : k = i
    · subst e; rw [if_pos rfl, if_pos hi, if_pos rfl]
    · rw [if_neg e, if_neg (fun e2 => e e2.symm)]
  · rw [List.getElem?_eq_none (by rw [nr_ivlen]; omega), List.getElem?_eq_none (by rw [nr_ivlen]; omega), nr_ivlen]
    by_cases e : k = i
    · rw [if_pos e, if_neg (by omega)]
    · rw [if_neg e]
theorem nr_congr {N : Nat} {F G : Nat → Nat} (h : ∀ j, j < N → F j = G j) : nrM N F = nrM N G := by
  unfold nrM
  apply List.map_congr_left
  intro j hj
  exact h j (List.mem_range.1 hj)
theorem nr_zero (N : Nat) : List.replicate N (Value.int .i64 0) = iv (ints (nrM N fun _ => 0)) := by
  apply List.ext_getElem?
  intro i
  by_cases hi : i < N
  · rw [nr_get hi]; simp [hi]
  · rw [List.getElem?_eq_none (by simp; omega), List.getElem?_eq_none (by rw [nr_ivlen]; omega)]
theorem out_arr {B : Nat} {w : World} {g : Nat} {xs : List Int} {N : Nat} (h : OwnArr w g 3 (iv xs)) (hB : B ≤ g) (hl : xs.length = N) (hN : N ≤ maxLen) : Out B w (.slice (some ⟨g, 0, none⟩) N N) xs := by
  subst hl
  refine ⟨by rw [iv_length, Nat.mul_one], .inr ⟨g, xs.length, (iv xs).toArray, rfl, hB, h, Nat.le_refl _, hN, by simp [iv_length], ?_⟩⟩
  rw [Nat.mul_one]
  exact List.take_of_length_le (by rw [iv_length]; exact Nat.le_refl _)

/-- how many parking lists have so many lucky cars, behind j factors -/
def lkN (n : Nat) : Nat → Nat → Nat
  | 0, k => if k = 1 then 1 else 0
  | j + 1, k => lkN n j k * (j + 1) + (if k = 0 then 0 else lkN n j (k - 1) * (n - j))
theorem lk_le (n : Nat) : ∀ j, j ≤ n → ∀ k, lkN n j k ≤ (n + 1) ^ j
  | 0, _, k => by show (if k = 1 then 1 else 0) ≤ 1; split <;> omega
  | j + 1, h, k => by
    show lkN n j k * (j + 1) + _ ≤ (n + 1) ^ (j + 1)
    have h1 := lk_le n j (by omega) k
    have h2 := lk_le n j (by omega) (k - 1)
    have h3 : lkN n j k * (j + 1) ≤ (n + 1) ^ j * (j + 1) := Nat.mul_le_mul_right _ h1
    have h4 : lkN n j (k - 1) * (n - j) ≤ (n + 1) ^ j * (n - j) := Nat.mul_le_mul_right _ h2
    have h5 : (n + 1) ^ (j + 1) = (n + 1) ^ j * (j + 1) + (n + 1) ^ j * (n - j) := by rw [Nat.pow_succ, ← Nat.mul_add]; congr 1; omega
    rw [h5]
    split
    · omega
    · omega

end Go.Proofs.Yteabodhkgkffiaa
