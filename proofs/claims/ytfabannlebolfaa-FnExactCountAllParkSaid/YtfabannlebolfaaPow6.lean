/- Chapter 6, spec side: spec.l6Power, CountParking, LuckyCounts. -/
import Derived.Test.YtfabannlebolfaaIsRow
import Derived.Test.YtfabannlebolfaaApp
import Derived.Test.YtfabannlebolfaaOut
namespace Go.Proofs.Ytfabannlebolfaa
open Go.RowKit

set_option maxRecDepth 4000 in
set_option maxHeartbeats 1000000 in
theorem l6Power_any (a n : Nat) (hn : n ≤ 1000) (hb : ∀ j, j ≤ n → a ^ j ≤ 4611686018427387904) (w : World) :
    Calls Try.prog 29 #[.int .i64 (a : Nat), .int .i64 (n : Nat)] w fun e w' => e = .returned (.int .i64 ((a ^ n : Nat) : Int)) ∧ w = w' := by
  have HBD := Lib.hid hb
  obtain ⟨R, hR⟩ : ∃ R, a ^ n = R := ⟨_, rfl⟩
  rw [hR]
  have HR := Lib.hid hR
  clear hR hb
  go_enter Try.func29, Try.ntmps29
  go_wp2_with fail
  go_loop [5, 6] (fun vo vi => ∃ j : Nat, j ≤ n ∧ vo = .int .i64 ((a ^ j : Nat) : Int) ∧ vi = .int .i64 (j : Int)) (fun _ vi => n - (intOf vi).toNat)
  case atStart => exact ⟨0, Nat.zero_le _, rfl, rfl⟩
  case round =>
    obtain ⟨j, hj, rfl, rfl⟩ := hrel
    by_cases hlt : j < n
    · have hk1 : (j : Int) < (n : Int) := by omega
      have hf := HBD.out (j + 1) hlt
      have hm : ((a ^ j : Nat) : Int) * (a : Int) = ((a ^ (j + 1) : Nat) : Int) := by rw [Nat.pow_succ]; push_cast; rfl
      obtain ⟨x, hx⟩ : ∃ x, a ^ j = x := ⟨_, rfl⟩
      obtain ⟨y, hy⟩ : ∃ y, a ^ (j + 1) = y := ⟨_, rfl⟩
      rw [hy] at hf
      rw [hx, hy] at hm
      have hw : IntKind.i64.wrap (y : Int) = (y : Int) := IntWalk.i64_in _ (by omega)
      have HY := Lib.hid hy
      rw [hx]
      clear hx hy
      go_wp2_with fail
      go_round
      case rel => exact ⟨j + 1, by omega, by rw [HY.out], by go_num⟩
      case measure => simp [intOf]; omega
    · have hjn : j = n := by omega
      subst hjn
      have hk1 : ¬ (j : Int) < (j : Int) := by omega
      have hr := HR.out
      obtain ⟨x, hx⟩ : ∃ x, a ^ j = x := ⟨_, rfl⟩
      rw [hx] at hr ⊢
      subst hr
      clear HR hx
      go_wp2_with fail
      go_ret
      exact ⟨rfl, rfl⟩

/-- a number of cars -/
def good6 (n : Int) : Bool := decide (1 ≤ n) && decide (n ≤ 12)
theorem good6_is {n : Int} (h : good6 n = true) : ∃ a : Nat, n = a ∧ 1 ≤ a ∧ a ≤ 12 := by
  simp only [good6, Bool.and_eq_true, decide_eq_true_eq] at h
  exact ⟨n.toNat, by omega, by omega, by omega⟩
theorem pow_small {n j : Nat} (hn : n ≤ 12) (hj : j ≤ 11) : (n + 1) ^ j ≤ 1792160394037 := by
  have h1 : (n + 1) ^ j ≤ 13 ^ j := Nat.pow_le_pow_left (by omega) j
  have h2 : 13 ^ j ≤ 13 ^ 11 := Nat.pow_le_pow_right (by omega) hj
  have h3 : 13 ^ 11 = 1792160394037 := by decide
  omega

set_option maxRecDepth 4000 in
set_option maxHeartbeats 1000000 in
theorem countParkingS_any (n : Int) (w : World) :
    Calls Try.prog 13 #[.int .i64 n] w fun e w' => e = .returned (.tuple #[.int .i64 (if good6 n then (((n.toNat + 1) ^ (n.toNat - 1) : Nat) : Int) else 0), .bool (good6 n)]) ∧ Below w.heap.size w w' := by
  have IN := fun w' => l1In_any n 1 12 w'
  have hg : (decide (1 ≤ n) && decide (n ≤ 12)) = good6 n := rfl
  rw [hg] at IN
  cases hg2 : good6 n with
  | false =>
    rw [hg2] at IN
    replace IN := Lib.hid IN
    simp only [Bool.false_eq_true, if_false]
    clear hg hg2
    go_enter Try.func13, Try.ntmps13
    go_wp2_with fail
    refine (IN.out _).mono ?_
    rintro e w1 ⟨rfl, rfl⟩
    go_wp2_with fail
    go_ret2
    exact ⟨rfl, Below.refl _ _⟩
  | true =>
    rw [hg2] at IN
    replace IN := Lib.hid IN
    obtain ⟨a, rfl, h1, h2⟩ := good6_is hg2
    have P := fun w' => l6Power_any (a + 1) (a - 1) (by omega) (fun j hj => Nat.le_trans (pow_small h2 (by omega)) (by omega)) w'
    simp only [if_true, Int.toNat_natCast]
    obtain ⟨R, hR⟩ : ∃ R, (a + 1) ^ (a - 1) = R := ⟨_, rfl⟩
    rw [hR] at P ⊢
    rw [show ((a + 1 : Nat) : Int) = (a : Int) + 1 by omega, show ((a - 1 : Nat) : Int) = (a : Int) - 1 by omega] at P
    have hw1 : IntKind.i64.wrap ((a : Int) + 1) = (a : Int) + 1 := IntWalk.i64_in _ (by omega)
    have hw2 : IntKind.i64.wrap ((a : Int) - 1) = (a : Int) - 1 := IntWalk.i64_in _ (by omega)
    replace P := Lib.hid P
    clear hg hg2 hR
    go_enter Try.func13, Try.ntmps13
    go_wp2_with fail
    refine (IN.out _).mono ?_
    rintro e w1 ⟨rfl, rfl⟩
    go_wp2_with fail
    refine (P.out _).mono ?_
    rintro e w2 ⟨rfl, rfl⟩
    go_wp2_with fail
    go_ret2
    exact ⟨rfl, Below.refl _ _⟩

/-- the numbers F 0, .., F (N - 1) -/
def nrM (N : Nat) (F : Nat → Nat) : List Nat := (List.range N).map F
theorem nr_len (N : Nat) (F : Nat → Nat) : (nrM N F).length = N := by unfold nrM; rw [List.length_map, List.length_range]
theorem nr_get {N : Nat} {F : Nat → Nat} {i : Nat} (h : i < N) : (iv (ints (nrM N F)))[i]? = some (.int .i64 ((F i : Nat) : Int)) := by
  rw [iv_get (by rw [ints_length, nr_len]; exact h), ints_get (by rw [nr_len]; exact h)]
  unfold nrM
  rw [List.getElem?_map, List.getElem?_range h]; rfl
theorem nr_ivlen (N : Nat) (F : Nat → Nat) : (iv (ints (nrM N F))).length = N := by rw [iv_length, ints_length, nr_len]
theorem nr_set (N : Nat) (F : Nat → Nat) (k x : Nat) : (iv (ints (nrM N F))).set k (.int .i64 (x : Int)) = iv (ints (nrM N fun j => if j = k then x else F j)) := by
  apply List.ext_getElem?
  intro i
  rw [List.getElem?_set]
  by_cases hi : i < N
  · rw [nr_get hi, nr_get hi, nr_ivlen]
    by_cases e : k = i
    · subst e; rw [if_pos rfl, if_pos hi, if_pos rfl]
    · rw [if_neg e, if_neg (fun e2 => e e2.symm)]
  · rw [List.getElem?_eq_none (by rw [nr_ivlen]; omega), List.getElem?_eq_none (by rw [nr_ivlen]; omega), nr_ivlen]
    by_cases e : k = i
    · rw [if_pos e, if_neg (by omega)]
    · rw [if_neg e]
theorem nr_congr {N : Nat} {F G : Nat → Nat} (h : ∀ j, j < N → F j = G j) : nrM N F = nrM N G := by
  unfold nrM
  apply List.map_congr_left
  intro j hj
  exact h j (List.mem_range.1 hj)
theorem nr_zero (N : Nat) : List.replicate N (Value.int .i64 0) = iv (ints (nrM N fun _ => 0)) := by
  apply List.ext_getElem?
  intro i
  by_cases hi : i < N
  · rw [nr_get hi]; simp [hi]
  · rw [List.getElem?_eq_none (by simp; omega), List.getElem?_eq_none (by rw [nr_ivlen]; omega)]
theorem out_arr {B : Nat} {w : World} {g : Nat} {xs : List Int} {N : Nat} (h : OwnArr w g 3 (iv xs)) (hB : B ≤ g) (hl : xs.length = N) (hN : N ≤ maxLen) : Out B w (.slice (some ⟨g, 0, none⟩) N N) xs := by
  subst hl
  refine ⟨by rw [iv_length, Nat.mul_one], .inr ⟨g, xs.length, (iv xs).toArray, rfl, hB, h, Nat.le_refl _, hN, by simp [iv_length], ?_⟩⟩
  rw [Nat.mul_one]
  exact List.take_of_length_le (by rw [iv_length]; exact Nat.le_refl _)

/-- how many parking lists have so many lucky cars, behind j factors -/
def lkN (n : Nat) : Nat → Nat → Nat
  | 0, k => if k = 1 then 1 else 0
  | j + 1, k => lkN n j k * (j + 1) + (if k = 0 then 0 else lkN n j (k - 1) * (n - j))
theorem lk_le (n : Nat) : ∀ j, j ≤ n → ∀ k, lkN n j k ≤ (n + 1) ^ j
  | 0, _, k => by show (if k = 1 then 1 else 0) ≤ 1; split <;> omega
  | j + 1, h, k => by
    show lkN n j k * (j + 1) + _ ≤ (n + 1) ^ (j + 1)
    have h1 := lk_le n j (by omega) k
    have h2 := lk_le n j (by omega) (k - 1)
    have h3 : lkN n j k * (j + 1) ≤ (n + 1) ^ j * (j + 1) := Nat.mul_le_mul_right _ h1
    have h4 : lkN n j (k - 1) * (n - j) ≤ (n + 1) ^ j * (n - j) := Nat.mul_le_mul_right _ h2
    have h5 : (n + 1) ^ (j + 1) = (n + 1) ^ j * (j + 1) + (n + 1) ^ j * (n - j) := by rw [Nat.pow_succ, ← Nat.mul_add]; congr 1; omega
    rw [h5]
    split
    · omega
    · omega

set_option maxRecDepth 4000 in
set_option maxHeartbeats 2000000 in
theorem luckyCountsS_any (n : Int) (w : World) :
    Calls Try.prog 19 #[.int .i64 n] w fun e w' => ∃ v, e = .returned (.tuple #[v, .bool (good6 n)]) ∧ Out w.heap.size w' v (if good6 n then ints (nrM (n.toNat + 1) (lkN n.toNat (n.toNat - 1))) else []) ∧ Below w.heap.size w w' := by
  have IN := fun w' => l1In_any n 1 12 w'
  have hg : (decide (1 ≤ n) && decide (n ≤ 12)) = good6 n := rfl
  rw [hg] at IN
  cases hg2 : good6 n with
  | false =>
    rw [hg2] at IN
    replace IN := Lib.hid IN
    simp only [Bool.false_eq_true, if_false]
    clear hg hg2
    go_enter Try.func19, Try.ntmps19
    go_wp2_with fail
    refine (IN.out _).mono ?_
    rintro e w1 ⟨rfl, rfl⟩
    have HO := Lib.hid (Out.nilLit w)
    have HB : Hid (Below w.heap.size w (w.alloc (.cells #[] 3))) := (Below.refl _ _).alloc (Nat.le_refl _) _
    go_wp2_with fail
    go_ret2
    exact ⟨_, rfl, HO.out, HB.out⟩
  | true =>
    rw [hg2] at IN
    replace IN := Lib.hid IN
    obtain ⟨n, rfl, h1, h2⟩ := good6_is hg2
    simp only [if_true, Int.toNat_natCast]
    have hmk0 := @run_make_row' Try.prog 22 3 (.int .i64 0) 8 Try.underlying22 infoInt rfl .i64 .i64 (n + 1) (by omega) (by omega)
    rw [madeCells_one, nr_zero] at hmk0
    have hmk := hmk0 w
    rw [show ((n + 1 : Nat) : Int) = (n : Int) + 1 by omega] at hmk
    obtain ⟨w2, hw2⟩ : ∃ w2, w2 = w.alloc (.cells (iv (ints (nrM (n + 1) fun _ => 0))).toArray 3) := ⟨_, rfl⟩
    rw [← hw2] at hmk
    have hO2 : OwnArr w2 w.heap.size 3 (iv (ints (nrM (n + 1) fun _ => 0))) := by rw [hw2]; exact OwnArr.made _ _ _
    have hB2 : Below w.heap.size w w2 := by rw [hw2]; exact (Below.refl _ _).alloc (Nat.le_refl _) _
    have hc1 := hO2.cell 1
    have hf1 := hO2.free 1
    rw [nr_get (by omega)] at hc1
    have hs1 := hO2.set 1 (.int .i64 ((1 : Nat) : Int))
    rw [nr_set] at hs1
    have HO3 : Hid (OwnArr (w2.setCell ⟨w.heap.size, 1, none⟩ (.int .i64 1)) w.heap.size 3 (iv (ints (nrM (n + 1) (lkN n 0))))) := hs1
    have HB3 := Lib.hid (hB2.setCell (p := ⟨w.heap.size, 1, none⟩) (Nat.le_refl _) (.int .i64 1))
    have hw1 : IntKind.i64.wrap ((n : Int) + 1) = (n : Int) + 1 := IntWalk.i64_in _ (by omega)
    have hn1 : (1 : Int) < (n : Int) + 1 := by omega
    obtain ⟨R, hR⟩ : ∃ R, ints (nrM (n + 1) (lkN n (n - 1))) = R := ⟨_, rfl⟩
    rw [hR]
    replace hR := Lib.hid hR
    clear hg hg2 hmk0 hw2 hO2 hB2 hs1
    go_enter Try.func19, Try.ntmps19
    go_wp2_with fail
    refine (IN.out _).mono ?_
    rintro e w1 ⟨rfl, rfl⟩
    go_wp2_with fail
    clear hmk hc1 hf1 hn1
    go_loopw [5, 6, 7] (fun i _ _ wr => ∃ (j : Nat), j + 1 ≤ n ∧ i = .int .i64 ((j : Int) + 1) ∧ Hid (OwnArr wr w.heap.size 3 (iv (ints (nrM (n + 1) (lkN n j))))) ∧ Hid (Below w.heap.size w wr)) (fun i _ _ _ => n + 1 - (intOf i).toNat)
    case atStart => exact ⟨0, by omega, rfl, HO3, HB3⟩
    case round =>
      obtain ⟨j, hj, rfl, HO, HB⟩ := hrel
      clear HO3 HB3
      by_cases hlt : j + 1 < n
      · have hj1 : (j : Int) + 1 < (n : Int) := by omega
        have hwi : IntKind.i64.wrap ((j : Int) + 1 + 1) = (j : Int) + 1 + 1 := IntWalk.i64_in _ (by omega)
        have HO0 : Hid (OwnArr wr w.heap.size 3 (iv (ints (nrM (n + 1) fun p => if p < n + 1 then lkN n j p else lkN n (j + 1) p)))) := by
          show OwnArr _ _ _ _
          rw [nr_congr (G := lkN n j) (fun p hp => by rw [if_pos hp])]
          exact HO.out
        have HLE := Lib.hid (fun k => lk_le n j (by omega) k)
        have HLE2 := Lib.hid (fun k => lk_le n (j + 1) (by omega) k)
        have hpw := pow_small (n := n) (j := j) h2 (by omega)
        have hpw2 := pow_small (n := n) (j := j + 1) h2 (by omega)
        clear HO
        go_wp2_with fail
        go_loopw [6, 7] (fun kv _ wr => ∃ (t : Nat), t ≤ n + 1 ∧ kv = .int .i64 ((t : Int) - 1) ∧ Hid (OwnArr wr w.heap.size 3 (iv (ints (nrM (n + 1) fun p => if p < t then lkN n j p else lkN n (j + 1) p)))) ∧ Hid (Below w.heap.size w wr)) (fun kv _ _ => ((intOf kv) + 1).toNat)
        case atStart => exact ⟨n + 1, Nat.le_refl _, by go_num, HO0, HB⟩
        case round =>
          obtain ⟨t, ht, rfl, HO, HB⟩ := hrel
          clear HO0
          by_cases ht0 : 0 < t
          · obtain ⟨k, rfl⟩ : ∃ k, t = k + 1 := ⟨t - 1, by omega⟩
            rw [show ((k + 1 : Nat) : Int) - 1 = (k : Int) by omega]
            have hk0 : (0 : Int) ≤ (k : Int) := by omega
            have hk1 : (k : Int) < (n : Int) + 1 := by omega
            have hc := HO.out.cell k
            have hf := HO.out.free k
            rw [nr_get (by omega), if_pos (Nat.lt_succ_self k)] at hc
            have hl1 := HLE.out k
            have hl2 := HLE2.out k
            have hst : lkN n (j + 1) k = lkN n j k * (j + 1) + (if k = 0 then 0 else lkN n j (k - 1) * (n - j)) := rfl
            have hset := HO.out.set k (.int .i64 ((lkN n (j + 1) k : Nat) : Int))
            rw [nr_set, nr_congr (G := fun p => if p < k then lkN n j p else lkN n (j + 1) p) (fun p _ => by
              by_cases e : p = k
              · subst e; rw [if_pos rfl, if_neg (Nat.lt_irrefl _)]
              · rw [if_neg e]
                by_cases e2 : p < k
                · rw [if_pos (by omega), if_pos e2]
                · rw [if_neg (by omega), if_neg e2])] at hset
            have HO4 := Lib.hid hset
            have HB4 := Lib.hid (HB.out.setCell (p := ⟨w.heap.size, k, none⟩) (Nat.le_refl _) (.int .i64 ((lkN n (j + 1) k : Nat) : Int)))
            have hwk : IntKind.i64.wrap ((k : Int) - 1) = (k : Int) - 1 := IntWalk.i64_in _ (by omega)
            by_cases hkz : k = 0
            · subst hkz
              rw [if_pos rfl, Nat.add_zero] at hst
              obtain ⟨x, hx⟩ : ∃ x, lkN n j 0 = x := ⟨_, rfl⟩
              obtain ⟨z, hz⟩ : ∃ z, lkN n (j + 1) 0 = z := ⟨_, rfl⟩
              rw [hx] at hc hl1 hst
              rw [hz] at hl2 hst HO4 HB4
              have hm : (x : Int) * ((j : Int) + 1) = (z : Int) := by rw [hst]; push_cast; rfl
              have hwz : IntKind.i64.wrap (z : Int) = (z : Int) := IntWalk.i64_in _ (by omega)
              clear hset hst hx hz HO HB
              go_wp2_with fail
              go_roundw
              case rel => exact ⟨0, by omega, by go_num, HO4, HB4⟩
              case measure => simp [intOf]
            · have hkp : (0 : Int) < (k : Int) := by omega
              have hkp2 : (0 : Int) ≤ (k : Int) - 1 := by omega
              have hkp3 : (k : Int) - 1 < (n : Int) + 1 := by omega
              obtain ⟨k1, hk1'⟩ : ∃ k1, k - 1 = k1 := ⟨_, rfl⟩
              have hk1e : (k : Int) - 1 = (k1 : Int) := by omega
              have hc1 := HO.out.cell k1
              rw [nr_get (by omega), if_pos (by omega)] at hc1
              have hl3 := HLE.out k1
              rw [if_neg hkz, hk1'] at hst
              obtain ⟨x, hx⟩ : ∃ x, lkN n j k = x := ⟨_, rfl⟩
              obtain ⟨y, hy⟩ : ∃ y, lkN n j k1 = y := ⟨_, rfl⟩
              obtain ⟨z, hz⟩ : ∃ z, lkN n (j + 1) k = z := ⟨_, rfl⟩
              rw [hx] at hc hl1 hst
              rw [hy] at hc1 hl3 hst
              rw [hz] at hl2 hst HO4 HB4
              obtain ⟨a, ha⟩ : ∃ a, x * (j + 1) = a := ⟨_, rfl⟩
              obtain ⟨b, hb⟩ : ∃ b, y * (n - j) = b := ⟨_, rfl⟩
              rw [ha, hb] at hst
              have hma : (x : Int) * ((j : Int) + 1) = (a : Int) := by rw [← ha]; push_cast; rfl
              have hnj : (n : Int) - ((j : Int) + 1) + 1 = ((n - j : Nat) : Int) := by omega
              have hmb : (y : Int) * ((n - j : Nat) : Int) = (b : Int) := by rw [← hb]; push_cast; rfl
              obtain ⟨d, hd⟩ : ∃ d, n - j = d := ⟨_, rfl⟩
              rw [hd] at hnj hmb
              have hwa : IntKind.i64.wrap (a : Int) = (a : Int) := IntWalk.i64_in _ (by omega)
              have hwb : IntKind.i64.wrap (b : Int) = (b : Int) := IntWalk.i64_in _ (by omega)
              have hab : (a : Int) + (b : Int) = (z : Int) := by omega
              have hwz : IntKind.i64.wrap (z : Int) = (z : Int) := IntWalk.i64_in _ (by omega)
              have hwn : IntKind.i64.wrap ((n : Int) - ((j : Int) + 1)) = (n : Int) - ((j : Int) + 1) := IntWalk.i64_in _ (by omega)
              have hwd : IntKind.i64.wrap (d : Int) = (d : Int) := IntWalk.i64_in _ (by omega)
              clear hset hst hx hy hz ha hb hd hk1' HO HB
              go_wp2_with fail
              go_roundw
              case rel => exact ⟨k, by omega, by go_num, HO4, HB4⟩
              case measure => simp [intOf]; omega
          · have ht00 : t = 0 := by omega
            subst ht00
            have HO5 : Hid (OwnArr wr w.heap.size 3 (iv (ints (nrM (n + 1) (lkN n (j + 1)))))) := by
              show OwnArr _ _ _ _
              have := HO.out
              rwa [nr_congr (G := lkN n (j + 1)) (fun p _ => by rw [if_neg (Nat.not_lt_zero _)])] at this
            clear HO HLE HLE2
            go_wp2_with fail
            go_roundw
            case rel => exact ⟨j + 1, by omega, by go_num, HO5, HB⟩
            case measure => simp [intOf]; omega
      · have hjn : j = n - 1 := by omega
        have hj1 : ¬ (j : Int) + 1 < (n : Int) := by omega
        have hO := HO.out
        rw [hjn, hR.out] at hO
        have HO5 := Lib.hid hO
        have HLR : Hid (R.length = n + 1) := by show _ = _; rw [← hR.out, ints_length, nr_len]
        clear hO HO hR hjn
        go_wp2_with fail
        go_ret2
        exact ⟨_, rfl, out_arr HO5.out (Nat.le_refl _) HLR.out (by unfold maxLen; omega), HB.out⟩
end Go.Proofs.Ytfabannlebolfaa
