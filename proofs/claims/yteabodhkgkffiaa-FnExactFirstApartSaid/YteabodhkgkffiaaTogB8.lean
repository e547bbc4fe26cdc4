/- Chapter 8: CouplesTogether on both sides. -/
import Derived.Test.YteabodhkgkffiaaPtyB8
namespace Go.Proofs.Yteabodhkgkffiaa
open Go.RowKit

/-- how many couples of a party sit together -/
def togV (k : Int) (ring : Bool) (xs : List Int) : Int := if parB k ring xs = true then ((tog8 ring (xs.map Int.toNat) : Nat) : Int) else 0
theorem ints_nat (l : List Nat) : (ints l).map Int.toNat = l := by
  unfold ints
  rw [List.map_map]
  conv => rhs; rw [← List.map_id l]
  apply List.map_congr_left
  intro x _
  simp

set_option maxRecDepth 4000 in
set_option maxHeartbeats 400000 in
theorem couplesTogetherS_any (k : Int) (ring : Bool) (p : Option Addr) (cap : Nat) (xs : List Int) (w : World) (lo hi : Nat) (hin : Ri lo hi w p xs) (hl : xs.length ≤ 1048576) :
    Calls Try.prog 14 #[.int .i64 k, .bool ring, .slice p xs.length cap] w fun e w' => e = .returned (.tuple #[.int .i64 (togV k ring xs), .bool (parB k ring xs)]) ∧ Below w.heap.size w w' := by
  have C := fun w' => l8Couples_any k ring w'
  unfold togV
  cases hc : couB k ring with
  | false =>
    have hp : parB k ring xs = false := by unfold parB; rw [hc]; rfl
    rw [hc] at C
    rw [hp, if_neg (by simp)]
    replace C := Lib.hid C
    obtain ⟨m, hm⟩ : ∃ m, xs.length = m := ⟨_, rfl⟩
    rw [hm]
    clear hin hc hm hp
    go_enter Try.func14, Try.ntmps14
    go_wp2_with fail
    refine (C.out _).mono ?_
    rintro e w1 ⟨rfl, rfl⟩
    go_wp2_with fail
    go_ret2
    exact ⟨rfl, Below.refl _ _⟩
  | true =>
    rw [hc] at C
    obtain ⟨n, rfl, h1, h6, h2r⟩ := couB_is hc
    have O := l4Order_any8 p cap xs (2 * n) w lo hi hin hl (by omega)
    have h2 : 2 * (n : Int) = ((2 * n : Nat) : Int) := by omega
    rw [← h2] at O
    have hw : IntKind.i64.wrap (2 * (n : Int)) = 2 * (n : Int) := IntWalk.i64_in _ (by omega)
    cases ho : orderB (2 * (n : Int)) xs with
    | false =>
      have hp : parB n ring xs = false := by unfold parB; rw [hc, ho]; rfl
      rw [ho] at O
      rw [hp, if_neg (by simp)]
      replace C := Lib.hid C
      replace O := Lib.hid O
      obtain ⟨m, hm⟩ : ∃ m, xs.length = m := ⟨_, rfl⟩
      rw [hm] at O ⊢
      clear hin hc hm hp ho h2
      go_enter Try.func14, Try.ntmps14
      go_wp2_with fail
      refine (C.out _).mono ?_
      rintro e w1 ⟨rfl, rfl⟩
      go_wp2_with fail
      refine O.out.mono ?_
      rintro e w2 ⟨rfl, rfl⟩
      go_wp2_with fail
      go_ret2
      exact ⟨rfl, Below.refl _ _⟩
    | true =>
      have hp : parB n ring xs = true := by unfold parB; rw [hc, ho]; rfl
      rw [ho] at O
      rw [hp, if_pos rfl]
      rw [h2] at ho
      obtain ⟨l, rfl, hll, hx⟩ := orderB_is ho
      rw [ints_nat]
      have T := l8Together_any ring p cap l w lo hi hin (by omega) (by omega) (fun x h => by have := hx x h; omega)
      obtain ⟨R, hR⟩ : ∃ R, tog8 ring l = R := ⟨_, rfl⟩
      rw [hR] at T ⊢
      replace C := Lib.hid C
      replace O := Lib.hid O
      replace T := Lib.hid T
      obtain ⟨m, hm⟩ : ∃ m, (ints l).length = m := ⟨_, rfl⟩
      rw [hm] at O T ⊢
      clear hin hc hm hp ho h2 hx hll hR
      go_enter Try.func14, Try.ntmps14
      go_wp2_with fail
      refine (C.out _).mono ?_
      rintro e w1 ⟨rfl, rfl⟩
      go_wp2_with fail
      refine O.out.mono ?_
      rintro e w2 ⟨rfl, rfl⟩
      go_wp2_with fail
      refine T.out.mono ?_
      rintro e w3 ⟨rfl, -, hb⟩
      go_wp2_with fail
      go_ret2
      exact ⟨rfl, hb⟩

set_option maxRecDepth 4000 in
set_option maxHeartbeats 1600000 in
theorem couplesTogetherI_any (k : Int) (ring : Bool) (p : Option Addr) (cap : Nat) (xs : List Int) (w : World) (lo hi : Nat) (hin : Ri lo hi w p xs) (hl : xs.length ≤ 1048576) :
    Calls Try.prog 15 #[.int .i64 k, .bool ring, .slice p xs.length cap] w fun e w' => e = .returned (.tuple #[.int .i64 (togV k ring xs), .bool (parB k ring xs)]) ∧ Below w.heap.size w w' := by
  have P := isParty_any k ring p cap xs w lo hi hin hl
  unfold togV
  cases hp : parB k ring xs with
  | false =>
    rw [hp] at P
    rw [if_neg (by simp)]
    replace P := Lib.hid P
    obtain ⟨m, hm⟩ : ∃ m, xs.length = m := ⟨_, rfl⟩
    rw [hm] at P ⊢
    clear hin hm hp hl
    go_enter Try.func15, Try.ntmps15
    go_wp2_with fail
    refine P.out.mono ?_
    rintro e w1 ⟨rfl, hb⟩
    go_wp2_with fail
    go_ret2
    exact ⟨rfl, hb⟩
  | true =>
    rw [hp] at P
    rw [if_pos rfl]
    obtain ⟨nk, l, rfl, rfl, h1, h6, h2r, hll, hx⟩ := parB_is hp
    rw [ints_nat]
    obtain ⟨b, off, rfl, -, -, hbs, hc⟩ := hin.int (by rw [ints_length]; omega)
    have hin0 := hin
    rw [ints_length] at hc P ⊢
    have HCW := Lib.hid (fun (w' : World) (hb : Below w.heap.size w w') j (h : j < l.length) => (hb.cell (p := ⟨b, off + j, none⟩) hbs).trans ((hc j h).trans (by rw [ints_get h])))
    have HL := Lib.hid (fun j (h : j < l.length) => hx _ (nat_mem h))
    have HA : Hid (∀ j, tgA ring l j = if ((decide (j + 1 < l.length) || ring) && decide (l[j]?.getD 0 / 2 = l[(j + 1) % l.length]?.getD 0 / 2)) = true then 1 else 0) := fun j => rfl
    have HN : Hid (∀ j, tgN ring l (j + 1) = tgN ring l j + tgA ring l j) := fun j => rfl
    have HB := Lib.hid (tgN_le ring l)
    have HR : Hid (tog8 ring l = tgN ring l l.length) := rfl
    obtain ⟨R, hR⟩ : ∃ R, tog8 ring l = R := ⟨_, rfl⟩
    rw [hR] at HR ⊢
    have HZ : Hid (tgN ring l 0 = 0) := rfl
    obtain ⟨T, hT⟩ : ∃ T, tgN ring l = T := ⟨_, rfl⟩
    rw [hT] at HN HR HB HZ
    obtain ⟨F, hF⟩ : ∃ F : Nat → Nat, (fun j => l[j]?.getD 0) = F := ⟨_, rfl⟩
    have HF : Hid (∀ j, l[j]?.getD 0 = F j) := fun j => by rw [← hF]
    obtain ⟨n, hn⟩ : ∃ n, l.length = n := ⟨_, rfl⟩
    rw [hn] at hll HCW HL HA HR P ⊢
    have hn1 : 1 ≤ n := by omega
    have hn12 : n ≤ 12 := by omega
    replace P := Lib.hid P
    clear hin hin0 hc hl hR hT hF hn hx hp hll h2r
    go_enter Try.func15, Try.ntmps15
    go_wp2_with fail
    refine P.out.mono ?_
    rintro e w1 ⟨rfl, hb1⟩
    have HB1 := Lib.hid hb1
    clear hb1 P
    go_wp2_with fail
    go_loop [8, 19] (fun vc vi => ∃ j : Nat, j ≤ n ∧ vc = .int .i64 ((T j : Nat) : Int) ∧ vi = .int .i64 (j : Int)) (fun _ vi => n - (intOf vi).toNat)
    case atStart => exact ⟨0, Nat.zero_le _, by rw [HZ.out]; rfl, rfl⟩
    case round =>
      obtain ⟨j, hj, rfl, rfl⟩ := hrel
      by_cases hlt : j < n
      · have hk1 : (j : Int) < (n : Int) := by omega
        have hm : (j + 1) % n < n := Nat.mod_lt _ (by omega)
        have hrm : ((j : Int) + 1).tmod (n : Int) = (((j + 1) % n : Nat) : Int) := by rw [show (j : Int) + 1 = ((j + 1 : Nat) : Int) by omega]; exact (Int.ofNat_tmod _ _).symm
        have hn0 : ¬ (n : Int) = 0 := by omega
        have hn00 : ¬ n = 0 := by omega
        have hwn : IntKind.i64.wrap ((j : Int) + 1) = (j : Int) + 1 := IntWalk.i64_in _ (by omega)
        have c1 := HCW.out _ HB1.out j hlt
        have c2 := HCW.out _ HB1.out _ hm
        have l1 := HL.out j hlt
        have l2 := HL.out _ hm
        have e1 := HN.out j
        rw [HA.out j] at e1
        have hmz : (0 < (j + 1) % n) ↔ j + 1 < n := by
          by_cases h : j + 1 < n
          · rw [Nat.mod_eq_of_lt h]; omega
          · have : j + 1 = n := by omega
            rw [this, Nat.mod_self]; omega
        obtain ⟨m, hmm⟩ : ∃ m, (j + 1) % n = m := ⟨_, rfl⟩
        rw [hmm] at hm hrm c2 l2 e1 hmz
        rw [HF.out] at c1 c2 l1 l2
        simp only [HF.out] at e1
        obtain ⟨x, hx⟩ : ∃ x, F j = x := ⟨_, rfl⟩
        obtain ⟨y, hy⟩ : ∃ y, F m = y := ⟨_, rfl⟩
        rw [hx] at c1 l1 e1
        rw [hy] at c2 l2 e1
        have IC := fun w' => isCouple_any x y (by omega) (by omega) w'
        have hwm : IntKind.i64.wrap (m : Int) = (m : Int) := IntWalk.i64_in _ (by omega)
        have tl := HB.out j
        obtain ⟨t, ht⟩ : ∃ t, T j = t := ⟨_, rfl⟩
        rw [ht] at tl e1 ⊢
        obtain ⟨C, hC⟩ : ∃ C, decide (x / 2 = y / 2) = C := ⟨_, rfl⟩
        rw [hC] at IC e1
        replace IC := Lib.hid IC
        clear hmm hx hy ht hC
        by_cases hj1 : j + 1 < n
        · have hm0 : (0 : Int) < (m : Int) := by have := hmz.2 hj1; omega
          cases C with
          | true =>
            rw [if_pos (by simp [hj1])] at e1
            have HE : Hid (T (j + 1) = t + 1) := e1
            clear e1 hmz
            go_wp2_with fail
            refine (IC.out _).mono ?_
            rintro e w2 ⟨rfl, rfl⟩
            go_wp2_with fail
            go_round
            case rel => exact ⟨j + 1, by omega, by rw [HE.out]; go_num, by go_num⟩
            case measure => simp [intOf]; omega
          | false =>
            rw [if_neg (by simp)] at e1
            have HE : Hid (T (j + 1) = t + 0) := e1
            clear e1 hmz
            go_wp2_with fail
            refine (IC.out _).mono ?_
            rintro e w2 ⟨rfl, rfl⟩
            go_wp2_with fail
            go_round
            case rel => exact ⟨j + 1, by omega, by rw [HE.out]; rfl, by go_num⟩
            case measure => simp [intOf]; omega
        · have hm0 : ¬ (0 : Int) < (m : Int) := by
            have : ¬ 0 < m := fun h => hj1 (hmz.1 h)
            omega
          cases ring with
          | true =>
            have hm00 : m = 0 := by omega
            subst hm00
            rw [Nat.add_zero] at c2
            clear hm0
            have hm0 : ¬ (0 : Int) < ((0 : Nat) : Int) := by omega
            cases C with
            | true =>
              rw [if_pos (by simp)] at e1
              have HE : Hid (T (j + 1) = t + 1) := e1
              clear e1 hmz
              go_wp2_with fail
              refine (IC.out _).mono ?_
              rintro e w2 ⟨rfl, rfl⟩
              go_wp2_with fail
              go_round
              case rel => exact ⟨j + 1, by omega, by rw [HE.out]; go_num, by go_num⟩
              case measure => simp [intOf]; omega
            | false =>
              rw [if_neg (by simp)] at e1
              have HE : Hid (T (j + 1) = t + 0) := e1
              clear e1 hmz
              go_wp2_with fail
              refine (IC.out _).mono ?_
              rintro e w2 ⟨rfl, rfl⟩
              go_wp2_with fail
              go_round
              case rel => exact ⟨j + 1, by omega, by rw [HE.out]; rfl, by go_num⟩
              case measure => simp [intOf]; omega
          | false =>
            rw [if_neg (by simp [hj1])] at e1
            have HE : Hid (T (j + 1) = t + 0) := e1
            clear e1 hmz
            go_wp2_with fail
            go_round
            case rel => exact ⟨j + 1, by omega, by rw [HE.out]; rfl, by go_num⟩
            case measure => simp [intOf]; omega
      · have hjn : j = n := by omega
        subst hjn
        have hk1 : ¬ (j : Int) < (j : Int) := by omega
        have hr := HR.out
        obtain ⟨x, hx⟩ : ∃ x, T j = x := ⟨_, rfl⟩
        rw [hx] at hr ⊢
        subst hr
        clear HR hx
        go_wp2_with fail
        go_ret2
        exact ⟨rfl, HB1.out⟩

theorem couplesTogether_both (a0 : Int) (a1 : Bool) (xs2 : List Int) : ∃ (x0 : Int) (y1 : Bool), (∀ (q2 : Option Addr) (c2 : Nat) (w : World) (lo2 hi2 : Nat), Ri lo2 hi2 w q2 xs2 → xs2.length ≤ 1048576 → xs2.length ≤ c2 → c2 ≤ maxLen → Calls Try.prog 14 #[.int .i64 a0, .bool a1, .slice q2 xs2.length c2] w fun e w' => e = .returned (.tuple #[.int .i64 x0, .bool y1]) ∧ Below w.heap.size w w') ∧ (∀ (q2 : Option Addr) (c2 : Nat) (w : World) (lo2 hi2 : Nat), Ri lo2 hi2 w q2 xs2 → xs2.length ≤ 1048576 → xs2.length ≤ c2 → c2 ≤ maxLen → Calls Try.prog 15 #[.int .i64 a0, .bool a1, .slice q2 xs2.length c2] w fun e w' => e = .returned (.tuple #[.int .i64 x0, .bool y1]) ∧ Below w.heap.size w w') :=
  ⟨togV a0 a1 xs2, parB a0 a1 xs2, fun q c w lo hi h hl _ _ => couplesTogetherS_any a0 a1 q c xs2 w lo hi h hl, fun q c w lo hi h hl _ _ => couplesTogetherI_any a0 a1 q c xs2 w lo hi h hl⟩
end Go.Proofs.Yteabodhkgkffiaa
