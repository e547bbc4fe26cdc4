/- impl.settleWays, for every valid Row with at most ten free seats. -/
import Derived.Test.YtfpndbekinibhaaTieM
import Derived.Test.YtfpndbekinibhaaWel
namespace Go.Proofs.Ytfpndbekinibhaa
open Go.RowKit

set_option maxHeartbeats 1000000 in
theorem ways_stop (n : Nat) (ring : Bool) (p : Option Addr) (cap : Nat) (S : Nat → Bool) (w : World) (lo hi : Nat) (hin : Ri lo hi w p (ints (tk n S))) (h2 : 2 ≤ n) (hn : n ≤ 24) (h3 : ring = true → 3 ≤ n) (hz : (polM n ring S 2).length = 0) :
    Calls Try.prog 33 #[rowV n ring p (ints (tk n S)).length cap] w fun e w' => e = .returned (.int .i64 1) ∧ Below w.heap.size w w' := by
  have hb := box_below w n ring p (ints (tk n S)).length cap 31
  have PA := Lib.hid (politeI_any n ring p cap S 2 _ lo hi (hin.below hb hin.top) h2 hn h3 (by omega))
  have HB := Lib.hid hb
  have hz2 : (ints (polM n ring S 2)).length = 0 := by rw [ints_length]; exact hz
  replace hz2 := Lib.hid hz2
  obtain ⟨m, hm⟩ : ∃ m, (ints (tk n S)).length = m := ⟨_, rfl⟩
  rw [hm] at PA HB ⊢
  clear hin hb hz h3 hm
  go_enter Try.func33, Try.ntmps33
  go_wp2_with fail
  refine PA.out.mono ?_
  rintro e w1 ⟨v, rfl, hO, hb1⟩
  obtain ⟨q, c, rfl, -⟩ := hO.rd
  rw [hz2.out]
  have HB1 := Lib.hid (HB.out.trans (hb1.mono HB.out.size))
  clear hO hb1 PA
  go_wp2_with fail
  go_ret
  exact ⟨rfl, HB1.out⟩

set_option maxRecDepth 4000 in
set_option maxHeartbeats 2000000 in
theorem ways_go (n : Nat) (ring : Bool) (p : Option Addr) (cap : Nat) (S : Nat → Bool) (f : Nat) (w : World) (lo hi : Nat) (hin : Ri lo hi w p (ints (tk n S))) (h2 : 2 ≤ n) (hn : n ≤ 24) (h3 : ring = true → 3 ≤ n) (hf : f + 1 ≤ 10) (hS : (tk n S).length + (f + 1) = n) (hz : ¬ (polM n ring S 2).length = 0)
    (ih : ∀ (T : Nat → Bool) (p : Option Addr) (cap : Nat) (w : World) (lo hi : Nat), Ri lo hi w p (ints (tk n T)) → (tk n T).length + f = n → Calls Try.prog 33 #[rowV n ring p (ints (tk n T)).length cap] w fun e w' => e = .returned (.int .i64 (tiesM n ring f T : Nat)) ∧ Below w.heap.size w w') :
    Calls Try.prog 33 #[rowV n ring p (ints (tk n S)).length cap] w fun e w' => e = .returned (.int .i64 (tiesM n ring (f + 1) S : Nat)) ∧ Below w.heap.size w w' := by
  have hb := box_below w n ring p (ints (tk n S)).length cap 31
  have PA := Lib.hid (politeI_any n ring p cap S 2 _ lo hi (hin.below hb hin.top) h2 hn h3 (by omega))
  have HX := Lib.hid (OwnArr.made w 31 [.int .i64 n, .bool ring, .slice p (ints (tk n S)).length cap])
  have HB := Lib.hid hb
  have TK : Hid (∀ (x : Nat) (_ : x < n) (_ : S x = false) (w' : World) (_ : Below w.heap.size w w'), Calls Try.prog 52 #[rowV n ring p (ints (tk n S)).length cap, .int .i64 x] w' (MadeRow w' n ring (ints (tk n (setS S x))) true)) := by
    show ∀ _, _
    exact fun x hx hs w' h' => takeI_any n ring p cap S x w' lo hi (hin.below h' hin.top) h2 hn h3 hx hs
  have IH := Lib.hid (fun (x : Nat) (hx : x < n) (hs : S x = false) (q : Option Addr) (c : Nat) (w' : World) (l' h' : Nat) (hq : Ri l' h' w' q (ints (tk n (setS S x)))) => ih (setS S x) q c w' l' h' hq (by rw [tk_setS hx hs]; omega))
  have hpl := polM_cnt n ring S 2
  have hll := fun x hx => polM_lt (n := n) (ring := ring) (S := S) (least := 2) (x := x) hx
  have hbound : ∀ k, sumOf (fun x => tiesM n ring f (setS S x)) ((polM n ring S 2).take k) ≤ 3628800 := by
    intro k
    have h1 := tiesM_le n ring (f + 1) S hS
    rw [tiesM_go hz] at h1
    have h2 := fct_ten (f + 1) hf
    have h3 := sumOf_take_le (f := fun x => tiesM n ring f (setS S x)) (polM n ring S 2) k
    omega
  rw [tiesM_go hz]
  obtain ⟨P, hP⟩ : ∃ P, polM n ring S 2 = P := ⟨_, rfl⟩
  rw [hP] at PA hpl hll hbound hz ⊢
  obtain ⟨g, hg⟩ : ∃ g : Nat → Nat, (fun x => tiesM n ring f (setS S x)) = g := ⟨_, rfl⟩
  rw [hg] at hbound ⊢
  have HG : Hid (∀ x, tiesM n ring f (setS S x) = g x) := by
    show ∀ _, _
    intro x; rw [← hg]
  have HLL := Lib.hid hll
  have HBD := Lib.hid hbound
  have hel := ints_length P
  obtain ⟨k0, hk0⟩ : ∃ k, P.length = k := ⟨_, rfl⟩
  rw [hk0] at hpl hz hel
  replace hel := Lib.hid hel
  have HM := Lib.hid hk0
  obtain ⟨m, hm⟩ : ∃ m, (ints (tk n S)).length = m := ⟨_, rfl⟩
  rw [hm] at PA HB HX TK ⊢
  have hk24 : k0 ≤ 24 := by omega
  have hkz : ((k0 : Int) == 0) = false := by simp; omega
  clear hin hb h3 hm hll hbound hP hg hk0 hS ih hpl
  go_enter Try.func33, Try.ntmps33
  go_wp2_with fail
  refine PA.out.mono ?_
  rintro e w1 ⟨v, rfl, hO, hb1⟩
  obtain ⟨q, c, rfl, -, -, hR, -⟩ := hO.rd
  rw [hel.out]
  have HR := Lib.hid hR
  have HX1 := Lib.hid (HX.out.below hb1 HX.out.lt)
  have HB1 := Lib.hid (HB.out.trans (hb1.mono HB.out.size))
  clear hO hb1 PA hR HX HB
  go_wp2_with fail
  go_loopw [4, 6, 7, 8, 16] (fun d _ _ _ i wr => ∃ (y k : Nat), k ≤ k0 ∧ y ≤ 3628800 ∧ i = .int .i64 k ∧ d = .int .i64 y ∧ Hid (y = sumOf g (P.take k)) ∧ Hid (Below w1.heap.size w1 wr)) (fun _ _ _ _ i _ => k0 - (intOf i).toNat)
  case atStart => exact ⟨0, 0, Nat.zero_le _, by omega, rfl, rfl, by show _ = _; simp [sumOf], Lib.hid (Below.refl _ _)⟩
  case round =>
    obtain ⟨y, k, hk, hy, rfl, rfl, HD, HW⟩ := hrel
    by_cases hlt : k < k0
    · have hk1 : (k : Int) < (k0 : Int) := by omega
      have hkl : k < P.length := by have := HM.out; omega
      obtain ⟨b, off, rfl, -, -, hbw, hc⟩ := HR.out.int (by rw [ints_length]; omega)
      have h0 := (HW.out.cell (p := ⟨b, off + k, none⟩) hbw).trans (hc k (by rw [ints_length]; exact hkl))
      rw [ints_get hkl] at h0
      have hxl := HLL.out _ (nat_mem hkl)
      have HST := Lib.hid (sum_take2 (f := g) hkl)
      have hbd := HBD.out (k + 1)
      obtain ⟨x, hx⟩ : ∃ x, P[k]?.getD 0 = x := ⟨_, rfl⟩
      rw [hx] at h0 hxl HST
      have hd2 := HD.out
      have hst := HST.out
      rw [← hd2] at hst
      have hgx := HG.out x
      have HBr : Hid (Below w.heap.size w wr) := HB1.out.trans (HW.out.mono HB1.out.size)
      have HXr := Lib.hid (HX1.out.below HW.out HX1.out.lt)
      have T := Lib.hid (TK.out x hxl.1 hxl.2 wr HBr.out)
      have I2 := IH.out x hxl.1 hxl.2
      rw [hgx] at I2
      obtain ⟨z, hz'⟩ : ∃ z, g x = z := ⟨_, rfl⟩
      rw [hz'] at I2 hst
      have hyz : y + z ≤ 3628800 := by rw [← hst]; exact hbd
      have HD2 := Lib.hid hst.symm
      have hw : IntKind.i64.wrap ((y : Int) + (z : Int)) = (y : Int) + (z : Int) := IntWalk.i64_in _ (by omega)
      clear hx hc hxl hd2 hst hgx HST HD hz' hbd
      obtain ⟨c0, c1, c2, -⟩ := HXr.out.three
      go_wp2_with fail
      refine T.out.mono ?_
      rintro e w4 ⟨u, rfl, hT, hb4⟩
      obtain ⟨q4, c4, rfl, -⟩ := hT.rd
      obtain ⟨m4, hm4⟩ : ∃ m4, (ints (tk n (setS S x))).length = m4 := ⟨_, rfl⟩
      rw [hm4] at hT I2 ⊢
      replace I2 := Lib.hid I2
      have hR4 := (Out.ri hT).1
      have HW4 := Lib.hid (HW.out.trans (hb4.mono HW.out.size))
      have hb5 := (Below.refl w4.heap.size w4).alloc (Nat.le_refl _) (.cells #[.int .i64 n, .bool ring, .slice q4 m4 c4] 31)
      have HR5 := Lib.hid (hR4.bel hb5)
      have HW5 := Lib.hid (HW4.out.alloc HW4.out.size (.cells #[.int .i64 n, .bool ring, .slice q4 m4 c4] 31))
      clear hT hR4 hb4 hb5 hm4 T c0 c1 c2 HXr
      go_wp2_with fail
      refine (I2.out q4 c4 _ _ _ HR5.out).mono ?_
      rintro e w6 ⟨rfl, hb6⟩
      have HW6 := Lib.hid (HW5.out.trans (hb6.mono HW5.out.size))
      clear hb6 I2
      go_wp2_with fail
      go_roundw
      case rel => exact ⟨y + z, k + 1, by omega, hyz, by go_num, by go_num, HD2, HW6⟩
      case measure => simp [intOf]; omega
    · have hkm : P.take k = P := List.take_of_length_le (by have := HM.out; omega)
      have hF := HD.out
      rw [hkm] at hF
      replace hF := Lib.hid hF
      have HBr : Hid (Below w.heap.size w wr) := HB1.out.trans (HW.out.mono HB1.out.size)
      clear HD hkm
      go_wp2_with fail
      go_ret
      exact ⟨by rw [← hF.out]; rfl, HBr.out⟩

theorem ways_any (n : Nat) (ring : Bool) (h2 : 2 ≤ n) (hn : n ≤ 24) (h3 : ring = true → 3 ≤ n) : ∀ (f : Nat), f ≤ 10 → ∀ (S : Nat → Bool) (p : Option Addr) (cap : Nat) (w : World) (lo hi : Nat), Ri lo hi w p (ints (tk n S)) → (tk n S).length + f = n →
    Calls Try.prog 33 #[rowV n ring p (ints (tk n S)).length cap] w fun e w' => e = .returned (.int .i64 (tiesM n ring f S : Nat)) ∧ Below w.heap.size w w' := by
  intro f
  induction f with
  | zero =>
    intro _ S p cap w lo hi hin hS
    exact ways_stop n ring p cap S w lo hi hin h2 hn h3 (polM_full (by omega) 2)
  | succ f ih =>
    intro hf S p cap w lo hi hin hS
    by_cases hz : (polM n ring S 2).length = 0
    · have := ways_stop n ring p cap S w lo hi hin h2 hn h3 hz
      rw [tiesM_stop hz]
      exact this
    · exact ways_go n ring p cap S f w lo hi hin h2 hn h3 hf hS hz (fun T p cap w lo hi hq hT => ih (by omega) T p cap w lo hi hq hT)
end Go.Proofs.Ytfpndbekinibhaa
