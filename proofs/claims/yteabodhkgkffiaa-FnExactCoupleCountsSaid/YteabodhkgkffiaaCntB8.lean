/- Chapter 8, spec side: spec.l8Some, CoupleCounts, MenageCount; both sides. -/
import Derived.Test.YteabodhkgkffiaaCntI8
import Derived.Test.YteabodhkgkffiaaApp
namespace Go.Proofs.Yteabodhkgkffiaa
open Go.RowKit

set_option maxRecDepth 4000 in
set_option maxHeartbeats 1000000 in
theorem l8Some_any (k : Nat) (ring : Bool) (j : Nat) (hk : k ≤ 6) (hk1 : 1 ≤ k) (hj : j ≤ k) (w : World) :
    Calls Try.prog 38 #[.int .i64 (k : Nat), .bool ring, .int .i64 (j : Nat)] w fun e w' => e = .returned (.int .i64 ((som8 k ring j : Nat) : Int)) ∧ w = w' := by
  have b0 := som_bound k hk ring j hj
  have b1 := cho_le k (by omega) j (by omega)
  have b2 : 2 ^ j ≤ 64 := Nat.le_trans (Nat.pow_le_pow_right (by omega) (by omega : j ≤ 6)) (by decide)
  have CH := fun w' => l6Choose_any8 k j (by omega) hj w'
  have PW := fun w' => l6Power_any 2 j (by omega) (two_pow_small (by omega)) w'
  cases ring with
  | true =>
    have hS : som8 k true j = cho8 k j * 2 ^ j * 2 * k * fac8 (2 * k - j - 1) := rfl
    obtain ⟨d, hd⟩ : ∃ d, 2 * k - j - 1 = d := ⟨_, rfl⟩
    have F := fun w' => l8Orders_any d (by omega) w'
    have hd1 : 2 * (k : Int) - (j : Int) - 1 = (d : Int) := by omega
    rw [hd] at hS
    obtain ⟨x, hx⟩ : ∃ x, cho8 k j = x := ⟨_, rfl⟩
    obtain ⟨y, hy⟩ : ∃ y, 2 ^ j = y := ⟨_, rfl⟩
    obtain ⟨z, hz⟩ : ∃ z, fac8 d = z := ⟨_, rfl⟩
    obtain ⟨R, hR⟩ : ∃ R, som8 k true j = R := ⟨_, rfl⟩
    rw [hx] at CH b1 hS
    rw [hy] at PW b2 hS
    rw [hz] at F hS
    rw [hR] at b0 hS ⊢
    have b3 : x * y ≤ 924 * 64 := Nat.mul_le_mul b1 b2
    obtain ⟨m, hm⟩ : ∃ m, x * y = m := ⟨_, rfl⟩
    rw [hm] at b3 hS
    have b4 : m * 2 * k ≤ 924 * 64 * 2 * 6 := Nat.mul_le_mul (Nat.mul_le_mul_right 2 b3) hk
    obtain ⟨q, hq⟩ : ∃ q, m * 2 * k = q := ⟨_, rfl⟩
    rw [hq] at b4 hS
    have m1 : (x : Int) * (y : Int) = (m : Int) := by rw [← hm]; push_cast; rfl
    have m2 : (m : Int) * 2 * (k : Int) = (q : Int) := by rw [← hq]; push_cast; rfl
    have m3 : (q : Int) * (z : Int) = (R : Int) := by rw [hS]; push_cast; rfl
    have w1 : IntKind.i64.wrap (m : Int) = (m : Int) := IntWalk.i64_in _ (by omega)
    have w2 : IntKind.i64.wrap (q : Int) = (q : Int) := IntWalk.i64_in _ (by omega)
    have w3 : IntKind.i64.wrap (R : Int) = (R : Int) := IntWalk.i64_in _ (by omega)
    have w4 : IntKind.i64.wrap ((m : Int) * 2) = (m : Int) * 2 := IntWalk.i64_in _ (by omega)
    have w5 : IntKind.i64.wrap (2 * (k : Int) - (j : Int)) = 2 * (k : Int) - (j : Int) := IntWalk.i64_in _ (by omega)
    have w6 : IntKind.i64.wrap (d : Int) = (d : Int) := IntWalk.i64_in _ (by omega)
    replace CH := Lib.hid CH
    replace PW := Lib.hid PW
    replace F := Lib.hid F
    clear hx hy hz hR hm hq hS hd
    go_enter Try.func38, Try.ntmps38
    go_wp2_with fail
    refine (CH.out _).mono ?_
    rintro e w1 ⟨rfl, rfl⟩
    go_wp2_with fail
    refine (PW.out _).mono ?_
    rintro e w1 ⟨rfl, rfl⟩
    go_wp2_with fail
    refine (F.out _).mono ?_
    rintro e w1 ⟨rfl, rfl⟩
    go_wp2_with fail
    go_ret
    exact ⟨rfl, rfl⟩
  | false =>
    have hS : som8 k false j = cho8 k j * 2 ^ j * fac8 (2 * k - j) := rfl
    obtain ⟨d, hd⟩ : ∃ d, 2 * k - j = d := ⟨_, rfl⟩
    have F := fun w' => l8Orders_any d (by omega) w'
    have hd1 : 2 * (k : Int) - (j : Int) = (d : Int) := by omega
    rw [hd] at hS
    obtain ⟨x, hx⟩ : ∃ x, cho8 k j = x := ⟨_, rfl⟩
    obtain ⟨y, hy⟩ : ∃ y, 2 ^ j = y := ⟨_, rfl⟩
    obtain ⟨z, hz⟩ : ∃ z, fac8 d = z := ⟨_, rfl⟩
    obtain ⟨R, hR⟩ : ∃ R, som8 k false j = R := ⟨_, rfl⟩
    rw [hx] at CH b1 hS
    rw [hy] at PW b2 hS
    rw [hz] at F hS
    rw [hR] at b0 hS ⊢
    have b3 : x * y ≤ 924 * 64 := Nat.mul_le_mul b1 b2
    obtain ⟨m, hm⟩ : ∃ m, x * y = m := ⟨_, rfl⟩
    rw [hm] at b3 hS
    have m1 : (x : Int) * (y : Int) = (m : Int) := by rw [← hm]; push_cast; rfl
    have m3 : (m : Int) * (z : Int) = (R : Int) := by rw [hS]; push_cast; rfl
    have w1 : IntKind.i64.wrap (m : Int) = (m : Int) := IntWalk.i64_in _ (by omega)
    have w3 : IntKind.i64.wrap (R : Int) = (R : Int) := IntWalk.i64_in _ (by omega)
    have w6 : IntKind.i64.wrap (d : Int) = (d : Int) := IntWalk.i64_in _ (by omega)
    replace CH := Lib.hid CH
    replace PW := Lib.hid PW
    replace F := Lib.hid F
    clear hx hy hz hR hm hS hd
    go_enter Try.func38, Try.ntmps38
    go_wp2_with fail
    refine (CH.out _).mono ?_
    rintro e w1 ⟨rfl, rfl⟩
    go_wp2_with fail
    refine (PW.out _).mono ?_
    rintro e w1 ⟨rfl, rfl⟩
    go_wp2_with fail
    refine (F.out _).mono ?_
    rintro e w1 ⟨rfl, rfl⟩
    go_wp2_with fail
    go_ret
    exact ⟨rfl, rfl⟩

theorem cnT_zero (k : Nat) (ring : Bool) (t : Nat) : cnT8 k ring t 0 = 0 := rfl
theorem cnT_step (k : Nat) (ring : Bool) (t m : Nat) : cnT8 k ring t (m + 1) = cnT8 k ring t m + (if m % 2 = 1 then -((cho8 (t + m) t * som8 k ring (t + m) : Nat) : Int) else ((cho8 (t + m) t * som8 k ring (t + m) : Nat) : Int)) := rfl

set_option maxRecDepth 4000 in
set_option maxHeartbeats 2000000 in
theorem ccS_any (k : Int) (ring : Bool) (w : World) :
    Calls Try.prog 22 #[.int .i64 k, .bool ring] w fun e w' => ∃ v, e = .returned (.tuple #[v, .bool (couB k ring)]) ∧ Out w.heap.size w' v (ccR k ring) ∧ Below w.heap.size w w' := by
  have C := fun w' => l8Couples_any k ring w'
  have HO0 := Lib.hid (Out.nilLit w)
  have HB0 : Hid (Below w.heap.size w (w.alloc (.cells #[] 3))) := (Below.refl _ _).alloc (Nat.le_refl _) _
  unfold ccR
  cases hc : couB k ring with
  | false =>
    rw [hc] at C
    rw [if_neg (by simp)]
    replace C := Lib.hid C
    clear hc
    go_enter Try.func22, Try.ntmps22
    go_wp2_with fail
    refine (C.out _).mono ?_
    rintro e w2 ⟨rfl, rfl⟩
    go_wp2_with fail
    go_ret2
    exact ⟨_, rfl, HO0.out, HB0.out⟩
  | true =>
    rw [hc] at C
    rw [if_pos rfl]
    obtain ⟨n, rfl, h1, h6, h2r⟩ := couB_is hc
    rw [Int.toNat_natCast]
    have CH := Lib.hid (fun j t (h : j ≤ n) (h2 : t ≤ j) w' => l6Choose_any8 j t (by omega) h2 w')
    have SM := Lib.hid (fun j (h : j ≤ n) w' => l8Some_any n ring j h6 h1 h w')
    have HZ := Lib.hid (cnT_zero n ring)
    have HS := Lib.hid (cnT_step n ring)
    have BC := Lib.hid (fun j t (h : j ≤ n) (h2 : t ≤ j) => cho_le j (by omega) t (by omega))
    have BS := Lib.hid (fun j (h : j ≤ n) => som_bound n h6 ring j h)
    have BT := Lib.hid (fun t (h : t ≤ n) m (h2 : m ≤ n + 1 - t) => cnT_bound n h6 ring t h m h2)
    obtain ⟨T, hT⟩ : ∃ T, cnT8 n ring = T := ⟨_, rfl⟩
    rw [hT] at HZ HS BT ⊢
    obtain ⟨S, hS⟩ : ∃ S, som8 n ring = S := ⟨_, rfl⟩
    simp only [hS] at SM HS BS
    obtain ⟨L, hL⟩ : ∃ L, (fun t => T t (n + 1 - t)) = L := ⟨_, rfl⟩
    have HL : Hid (∀ t, L t = T t (n + 1 - t)) := fun t => by rw [← hL]
    rw [hL]
    obtain ⟨R, hR⟩ : ∃ R, imL (n + 1) L = R := ⟨_, rfl⟩
    rw [hR]
    have HR := Lib.hid hR
    replace C := Lib.hid C
    clear hc hT hS hL hR
    go_enter Try.func22, Try.ntmps22
    go_wp2_with fail
    refine (C.out _).mono ?_
    rintro e w2 ⟨rfl, rfl⟩
    clear C
    go_wp2_with fail
    go_loopw [6, 7] (fun v i wr => ∃ t : Nat, t ≤ n + 1 ∧ i = .int .i64 (t : Int) ∧ Hid (Out w.heap.size wr v (imL t L)) ∧ Hid (Below w.heap.size w wr)) (fun _ i _ => n + 1 - (intOf i).toNat)
    case atStart => exact ⟨0, Nat.zero_le _, rfl, HO0, HB0⟩
    case round =>
      obtain ⟨t, ht, rfl, HO, HB⟩ := hrel
      clear HO0 HB0
      by_cases htn : t ≤ n
      · have htni : (t : Int) ≤ (n : Int) := by omega
        have hwt : IntKind.i64.wrap ((t : Int) + 1) = (t : Int) + 1 := IntWalk.i64_in _ (by omega)
        go_wp2_with fail
        go_loop [8, 9] (fun vs vj => ∃ m : Nat, m ≤ n + 1 - t ∧ vs = .int .i64 (T t m) ∧ vj = .int .i64 ((t : Int) + (m : Int))) (fun _ vj => n + 1 - (intOf vj).toNat)
        case atStart => exact ⟨0, Nat.zero_le _, by rw [HZ.out], by simp⟩
        case round =>
          obtain ⟨m, hm, rfl, rfl⟩ := hrel
          by_cases hmn : t + m ≤ n
          · obtain ⟨j, hj⟩ : ∃ j, t + m = j := ⟨_, rfl⟩
            have hji : (t : Int) + (m : Int) = (j : Int) := by omega
            have hjn : (j : Int) ≤ (n : Int) := by omega
            have hsub : (j : Int) - (t : Int) = (m : Int) := by omega
            have C1 := CH.out j t (by omega) (by omega)
            have S1 := SM.out j (by omega)
            have c1 := BC.out j t (by omega) (by omega)
            have s1 := BS.out j (by omega)
            have e1 := HS.out t m
            rw [hj] at e1
            obtain ⟨b1, b2⟩ := BT.out t htn m hm
            obtain ⟨b3, b4⟩ := BT.out t htn (m + 1) (by omega)
            obtain ⟨x, hx⟩ : ∃ x, cho8 j t = x := ⟨_, rfl⟩
            obtain ⟨y, hy⟩ : ∃ y, S j = y := ⟨_, rfl⟩
            rw [hx] at C1 c1 e1
            rw [hy] at S1 s1 e1
            have p1 : x * y ≤ 924 * 6000000000 := Nat.mul_le_mul c1 s1
            obtain ⟨q, hq⟩ : ∃ q, x * y = q := ⟨_, rfl⟩
            rw [hq] at p1 e1
            have hqi : (x : Int) * (y : Int) = (q : Int) := by rw [← hq]; push_cast; rfl
            obtain ⟨a, ha⟩ : ∃ a, T t m = a := ⟨_, rfl⟩
            rw [ha] at b1 b2 e1 ⊢
            have w1 : IntKind.i64.wrap (q : Int) = (q : Int) := IntWalk.i64_in _ (by omega)
            have w2 : IntKind.i64.wrap (-(q : Int)) = -(q : Int) := IntWalk.i64_in _ (by omega)
            have w3 : IntKind.i64.wrap (m : Int) = (m : Int) := IntWalk.i64_in _ (by omega)
            have hrm : (m : Int).tmod 2 = ((m % 2 : Nat) : Int) := (Int.ofNat_tmod m 2).symm
            have hwj : IntKind.i64.wrap ((j : Int) + 1) = (j : Int) + 1 := IntWalk.i64_in _ (by omega)
            replace C1 := Lib.hid C1
            replace S1 := Lib.hid S1
            rw [hji]
            by_cases hodd : m % 2 = 1
            · have ho : ((m % 2 : Nat) : Int) = 1 := by omega
              rw [if_pos hodd] at e1
              have w4 : IntKind.i64.wrap (a + -(q : Int)) = a + -(q : Int) := IntWalk.i64_in _ (by omega)
              have HE := Lib.hid e1
              rw [ho] at hrm
              clear hx hy hq ha e1 hodd ho hj
              go_wp2_with fail
              refine (C1.out _).mono ?_
              rintro e w1 ⟨rfl, rfl⟩
              go_wp2_with fail
              refine (S1.out _).mono ?_
              rintro e w1 ⟨rfl, rfl⟩
              go_wp2_with fail
              go_round
              case rel => exact ⟨m + 1, by omega, by rw [HE.out], by rw [← hji]; go_num⟩
              case measure => simp [intOf]; omega
            · have ho : ((m % 2 : Nat) : Int) = 0 := by omega
              rw [if_neg hodd] at e1
              have w4 : IntKind.i64.wrap (a + (q : Int)) = a + (q : Int) := IntWalk.i64_in _ (by omega)
              have HE := Lib.hid e1
              rw [ho] at hrm
              clear hx hy hq ha e1 hodd ho hj
              go_wp2_with fail
              refine (C1.out _).mono ?_
              rintro e w1 ⟨rfl, rfl⟩
              go_wp2_with fail
              refine (S1.out _).mono ?_
              rintro e w1 ⟨rfl, rfl⟩
              go_wp2_with fail
              go_round
              case rel => exact ⟨m + 1, by omega, by rw [HE.out], by rw [← hji]; go_num⟩
              case measure => simp [intOf]; omega
          · have hme : m = n + 1 - t := by omega
            have hno : ¬ (t : Int) + (m : Int) ≤ (n : Int) := by omega
            have hLt := HL.out t
            rw [← hme] at hLt
            rw [← hLt]
            have HT : Hid (imL (t + 1) L = imL t L ++ [L t]) := im_succ t L
            obtain ⟨y, hy⟩ : ∃ y, L t = y := ⟨_, rfl⟩
            rw [hy] at HT ⊢
            have hl : (imL t L).length = t := im_len t L
            have hblk := Lib.hid (own_block HO.out)
            have hsz := HB.out.size
            clear hLt hy hme
            go_wp2_with (at_builtin; refine wpList_app rfl _ _ rfl w.heap.size _ (imL t L) rfl (World.ownsRow.alloc HO.out (.cells #[.int .i64 y] 3)) _ 1 1 0 (wr.heap.size + 1) [y] rfl (lit_one (OwnArr.made wr _ [_]) _ (Nat.lt_succ_self _) (by simp)) rfl (by omega) (by simp; omega) ?_; intro v3 w3 hO3 hg3 hn3)
            have hG3 : Below w.heap.size wr w3 := ((Below.refl w.heap.size wr).alloc (by omega) _).grown hg3 (by simp; omega) hblk.out
            have HB3 := Lib.hid (HB.out.trans hG3)
            rw [← HT.out] at hO3
            have HO3 := Lib.hid hO3
            clear hO3 hg3 hn3 hG3 HB HO
            go_wp2_with fail
            go_roundw
            case rel => exact ⟨t + 1, by omega, by go_num, HO3, HB3⟩
            case measure => simp [intOf]; omega
      · have hte : t = n + 1 := by omega
        subst hte
        have htno : ¬ ((n + 1 : Nat) : Int) ≤ (n : Int) := by omega
        rw [HR.out] at HO
        go_wp2_with fail
        go_ret2
        exact ⟨_, rfl, HO.out, HB.out⟩

theorem coupleCounts_both (a0 : Int) (a1 : Bool) : ∃ (L0 : List Int) (y1 : Bool), L0.length ≤ 1000 ∧ (∀  (w : World), Calls Try.prog 22 #[.int .i64 a0, .bool a1] w fun e w' => ∃ v0, e = .returned (.tuple #[v0, .bool y1]) ∧ Out w.heap.size w' v0 L0 ∧ Below w.heap.size w w') ∧ (∀  (w : World), Calls Try.prog 23 #[.int .i64 a0, .bool a1] w fun e w' => ∃ v0, e = .returned (.tuple #[v0, .bool y1]) ∧ Out w.heap.size w' v0 L0 ∧ Below w.heap.size w w') := by
  refine ⟨ccR a0 a1, couB a0 a1, ?_, ccS_any a0 a1, ccI_any a0 a1⟩
  unfold ccR
  split
  · rename_i h
    obtain ⟨n, rfl, h1, h6, -⟩ := couB_is h
    rw [im_len]; omega
  · simp
end Go.Proofs.Yteabodhkgkffiaa
