/- slices.Max, slices.Min and slices.Index of numbers; spec.l3Start: the first of the greatest. -/
import Derived.Test.YtfpndbekinibhaaExtM
import Derived.Test.YtfpndbekinibhaaCntI0
namespace Go.Proofs.Ytfpndbekinibhaa
open Go.RowKit

def atI (xs : List Int) (i : Nat) : Int := xs[i]?.getD 0
theorem cntL_at {n : Nat} {ring : Bool} {k i : Nat} (h : i < k) : atI (cntL n ring k) i = ((cntM n ring i : Nat) : Int) := by
  unfold atI cntL
  rw [ints_get (by simpa using h)]
  simp [h]

set_option maxHeartbeats 800000 in
theorem max_any (q : Option Addr) (cap : Nat) (xs : List Int) (n : Nat) (hn : xs.length = n + 1) (hn24 : n ≤ 1000) (w : World) (lo hi : Nat) (hin : Ri lo hi w q xs) :
    Calls Try.prog 26 #[.slice q (n + 1) cap] w fun e w' => e = .returned (.int .i64 (atI xs (bestM (atI xs) n))) ∧ w = w' := by
  obtain ⟨b, off, rfl, -, -, -, hc⟩ := hin.int (by omega)
  have HC : Hid (∀ i, i < n + 1 → w.cell? ⟨b, off + i, none⟩ = some (.int .i64 (atI xs i))) := by
    show ∀ _, _
    intro i hi
    exact hc i (by omega)
  obtain ⟨f, hf⟩ : ∃ f, atI xs = f := ⟨_, rfl⟩
  rw [hf] at HC ⊢
  have h0 := HC.out 0 (by omega)
  rw [Nat.add_zero] at h0
  clear hc hin hf hn
  obtain ⟨x0, hx0⟩ : ∃ x, f 0 = x := ⟨_, rfl⟩
  rw [hx0] at h0
  have HX0 : Hid (x0 = f (bestM f 0)) := hx0.symm
  obtain ⟨N, hN⟩ : ∃ N, n + 1 = N := ⟨_, rfl⟩
  rw [hN] at HC ⊢
  have hNp : ¬ (N : Int) < 1 := by omega
  have hN1 : 1 ≤ N := by omega
  have hN0 : 0 < N := by omega
  have hNb : N ≤ 1001 := by omega
  replace hN := Lib.hid hN
  clear hx0
  go_enter Try.func26, Try.ntmps26
  go_wp2_with fail
  go_loop [3, 4] (fun m i => ∃ (k : Nat) (y : Int), 1 ≤ k ∧ k ≤ N ∧ i = .int .i64 k ∧ m = .int .i64 y ∧ Hid (y = f (bestM f (k - 1)))) (fun _ i => N - (intOf i).toNat)
  case atStart => exact ⟨1, x0, Nat.le_refl _, hN1, rfl, rfl, HX0⟩
  case round =>
    obtain ⟨k, y, hk1, hk, rfl, rfl, HY⟩ := hrel
    by_cases hlt : k < N
    · have hki : (k : Int) < (N : Int) := by omega
      have hk0 : (0 : Int) ≤ (k : Int) := by omega
      have h1 := HC.out k hlt
      obtain ⟨j, rfl⟩ : ∃ j, k = j + 1 := ⟨k - 1, by omega⟩
      have hy := HY.out
      rw [Nat.add_sub_cancel] at hy
      have hup := fun h : f (bestM f j) < f (j + 1) => bestM_up h
      have hst := fun h : ¬ f (bestM f j) < f (j + 1) => bestM_stay h
      obtain ⟨z, hz⟩ : ∃ z, f (j + 1) = z := ⟨_, rfl⟩
      rw [hz] at h1
      by_cases hlz : y < z
      · have HY2 : Hid (z = f (bestM f (j + 1 + 1 - 1))) := by
          show _ = _
          rw [Nat.add_sub_cancel, hup (by rw [← hy, hz]; exact hlz), hz]
        have hlz2 : ¬ z ≤ y := by omega
        have hlz3 : y ≤ z := by omega
        clear hup hst hz hy HY
        go_wp2_with fail
        go_round
        case rel => exact ⟨j + 1 + 1, z, by omega, by omega, by go_num, by simp, HY2⟩
        case measure => simp [intOf]; omega
      · have HY2 : Hid (y = f (bestM f (j + 1 + 1 - 1))) := by
          show _ = _
          rw [Nat.add_sub_cancel, hst (by rw [← hy, hz]; exact hlz), hy]
        have hlz2 : z ≤ y := by omega
        clear hup hst hz hy HY
        go_wp2_with fail
        go_round
        case rel => exact ⟨j + 1 + 1, y, by omega, by omega, by go_num, by simp, HY2⟩
        case measure => simp [intOf]; omega
    · have hkN : k = N := by omega
      subst hkN
      have hy := HY.out
      have e : k - 1 = n := by have := hN.out; omega
      rw [e] at hy
      subst hy
      go_wp2_with fail
      go_ret
      exact ⟨rfl, rfl⟩
set_option maxHeartbeats 800000 in
theorem min_any (q : Option Addr) (cap : Nat) (xs : List Int) (n : Nat) (hn : xs.length = n + 1) (hn24 : n ≤ 1000) (w : World) (lo hi : Nat) (hin : Ri lo hi w q xs) :
    Calls Try.prog 28 #[.slice q (n + 1) cap] w fun e w' => e = .returned (.int .i64 (atI xs (bestM (fun i => - atI xs i) n))) ∧ w = w' := by
  obtain ⟨b, off, rfl, -, -, -, hc⟩ := hin.int (by omega)
  have HC : Hid (∀ i, i < n + 1 → w.cell? ⟨b, off + i, none⟩ = some (.int .i64 (atI xs i))) := by
    show ∀ _, _
    intro i hi
    exact hc i (by omega)
  obtain ⟨f, hf⟩ : ∃ f, atI xs = f := ⟨_, rfl⟩
  rw [hf] at HC ⊢
  have h0 := HC.out 0 (by omega)
  rw [Nat.add_zero] at h0
  clear hc hin hf hn
  obtain ⟨x0, hx0⟩ : ∃ x, f 0 = x := ⟨_, rfl⟩
  rw [hx0] at h0
  have HX0 : Hid (x0 = f (bestM (fun i => - f i) 0)) := hx0.symm
  obtain ⟨N, hN⟩ : ∃ N, n + 1 = N := ⟨_, rfl⟩
  rw [hN] at HC ⊢
  have hNp : ¬ (N : Int) < 1 := by omega
  have hN1 : 1 ≤ N := by omega
  have hN0 : 0 < N := by omega
  have hNb : N ≤ 1001 := by omega
  replace hN := Lib.hid hN
  clear hx0
  go_enter Try.func28, Try.ntmps28
  go_wp2_with fail
  go_loop [3, 4] (fun m i => ∃ (k : Nat) (y : Int), 1 ≤ k ∧ k ≤ N ∧ i = .int .i64 k ∧ m = .int .i64 y ∧ Hid (y = f (bestM (fun i => - f i) (k - 1)))) (fun _ i => N - (intOf i).toNat)
  case atStart => exact ⟨1, x0, Nat.le_refl _, hN1, rfl, rfl, HX0⟩
  case round =>
    obtain ⟨k, y, hk1, hk, rfl, rfl, HY⟩ := hrel
    by_cases hlt : k < N
    · have hki : (k : Int) < (N : Int) := by omega
      have hk0 : (0 : Int) ≤ (k : Int) := by omega
      have h1 := HC.out k hlt
      obtain ⟨j, rfl⟩ : ∃ j, k = j + 1 := ⟨k - 1, by omega⟩
      have hy := HY.out
      rw [Nat.add_sub_cancel] at hy
      have hup := fun h : f (j + 1) < f (bestM (fun i => - f i) j) => bestM_up (f := fun i => - f i) (k := j) (by show - f _ < - f _; omega)
      have hst := fun h : ¬ f (j + 1) < f (bestM (fun i => - f i) j) => bestM_stay (f := fun i => - f i) (k := j) (by show ¬ (- f _ < - f _); omega)
      obtain ⟨z, hz⟩ : ∃ z, f (j + 1) = z := ⟨_, rfl⟩
      rw [hz] at h1
      by_cases hlz : z < y
      · have HY2 : Hid (z = f (bestM (fun i => - f i) (j + 1 + 1 - 1))) := by
          show _ = _
          rw [Nat.add_sub_cancel, hup (by rw [← hy, hz]; exact hlz), hz]
        have hlz2 : ¬ y ≤ z := by omega
        have hlz3 : z ≤ y := by omega
        clear hup hst hz hy HY
        go_wp2_with fail
        go_round
        case rel => exact ⟨j + 1 + 1, z, by omega, by omega, by go_num, by simp, HY2⟩
        case measure => simp [intOf]; omega
      · have HY2 : Hid (y = f (bestM (fun i => - f i) (j + 1 + 1 - 1))) := by
          show _ = _
          rw [Nat.add_sub_cancel, hst (by rw [← hy, hz]; exact hlz), hy]
        have hlz2 : y ≤ z := by omega
        clear hup hst hz hy HY
        go_wp2_with fail
        go_round
        case rel => exact ⟨j + 1 + 1, y, by omega, by omega, by go_num, by simp, HY2⟩
        case measure => simp [intOf]; omega
    · have hkN : k = N := by omega
      subst hkN
      have hy := HY.out
      have e : k - 1 = n := by have := hN.out; omega
      rw [e] at hy
      subst hy
      go_wp2_with fail
      go_ret
      exact ⟨rfl, rfl⟩

set_option maxHeartbeats 400000 in
theorem indexAt_any (p : Option Addr) (cap : Nat) (xs : List Int) (x : Int) (w : World) (lo hi : Nat) (hin : Ri lo hi w p xs) (hlen : xs.length ≤ 1000) (b : Nat) (hb : b < xs.length) (hbx : atI xs b = x) (hf : ∀ i, i < b → atI xs i ≠ x) :
    Calls Try.prog 27 #[.slice p xs.length cap, .int .i64 x] w fun e w' => e = .returned (.int .i64 (b : Nat)) ∧ w = w' := by
  obtain ⟨g, off, rfl, -, -, -, hc⟩ := hin.int (by omega)
  have HC := Lib.hid hc
  have HF := Lib.hid hf
  have HX := Lib.hid hbx
  obtain ⟨N, hN⟩ : ∃ N, xs.length = N := ⟨_, rfl⟩
  rw [hN] at HC hb hlen ⊢
  clear hin hc hf hbx hN
  go_enter Try.func27, Try.ntmps27
  go_wp2
  go_loop [5, 8] (fun _ i => ∃ (k : Nat), k ≤ b ∧ i = .int .i64 k) (fun _ i => N - (intOf i).toNat)
  case atStart => exact ⟨0, Nat.zero_le _, rfl⟩
  case round =>
    obtain ⟨k, hk, rfl⟩ := hrel
    have hki : (k : Int) < (N : Int) := by omega
    have h0 := HC.out k (by omega)
    obtain ⟨y, hy⟩ : ∃ y, xs[k]?.getD 0 = y := ⟨_, rfl⟩
    rw [hy] at h0
    by_cases hlt : k < b
    · have hne : ¬ x = y := by
        have := HF.out k hlt
        unfold atI at this
        rw [hy] at this
        exact fun e => this e.symm
      have hkN : k < N := by omega
      clear hy
      go_wp2
      go_round
      case rel => exact ⟨k + 1, by omega, by go_num⟩
      case measure => simp [intOf]; omega
    · have hkb : k = b := by omega
      subst hkb
      have hxy : y = x := by have := HX.out; unfold atI at this; rw [hy] at this; exact this
      subst hxy
      clear hy
      go_wp2
      go_ret
      exact ⟨rfl, rfl⟩

set_option maxRecDepth 4000 in
set_option maxHeartbeats 2000000 in
theorem startS_any (n : Nat) (ring : Bool) (sg : Int) (hsg : sg = 1 ∨ sg = -1) (w : World) (h2 : 2 ≤ n) (hn : n ≤ 24) :
    Calls Try.prog 24 #[.int .i64 n, .bool ring, .int .i64 sg] w fun e w' => e = .returned (.tuple #[.int .i64 (bestM (fun i => sg * ((cntM n ring i : Nat) : Int)) (n - 1) : Nat), .int .i64 ((cntM n ring (bestM (fun i => sg * ((cntM n ring i : Nat) : Int)) (n - 1)) : Nat) : Int)]) ∧ Below w.heap.size w w' := by
  have C := Lib.hid (countsS_any n ring w h2 hn)
  have HLEN := Lib.hid (cntL_len n ring n)
  have HAT : Hid (∀ i, i < n → (cntL n ring n)[i]?.getD 0 = ((cntM n ring i : Nat) : Int)) := by
    show ∀ _, _
    intro i hi
    exact cntL_at hi
  have HB25 : Hid (∀ i, cntM n ring i ≤ 25) := by
    show ∀ _, _
    intro i
    have := ordM_len n ring 2 24 (oneS i)
    unfold cntM; omega
  obtain ⟨L, hL⟩ : ∃ L, cntL n ring n = L := ⟨_, rfl⟩
  rw [hL] at C HLEN HAT
  obtain ⟨c, hc⟩ : ∃ c, cntM n ring = c := ⟨_, rfl⟩
  rw [hc] at HAT HB25 ⊢
  clear hL hc
  obtain ⟨F, hF⟩ : ∃ F : Nat → Int, (fun i => sg * ((c i : Nat) : Int)) = F := ⟨_, rfl⟩
  rw [hF]
  have HFE : Hid (∀ i, F i = sg * ((c i : Nat) : Int)) := by
    show ∀ _, _
    intro i
    rw [← hF]
  replace hsg := Lib.hid hsg
  clear hF
  go_enter Try.func24, Try.ntmps24
  go_wp2_with fail
  refine C.out.mono ?_
  rintro e w1 ⟨v, rfl, hO, hb1⟩
  obtain ⟨q, cp, rfl, -, -, hR, -⟩ := hO.rd
  rw [HLEN.out]
  obtain ⟨b, off, rfl, -, -, -, hcell⟩ := hR.int (by rw [HLEN.out]; omega)
  have HC : Hid (∀ i, i < n → w1.cell? ⟨b, off + i, none⟩ = some (.int .i64 (c i : Nat))) := by
    show ∀ _, _
    intro i hi
    rw [hcell i (by rw [HLEN.out]; exact hi), HAT.out i hi]
  have HB1 := Lib.hid hb1
  clear hO hR hcell hb1 C HAT HLEN
  go_wp2_with fail
  go_loopw [9, 10] (fun bv pv wr => ∃ (k : Nat), 1 ≤ k ∧ k ≤ n ∧ pv = .int .i64 k ∧ bv = .int .i64 (bestM F (k - 1) : Nat) ∧ Hid (∀ i, i < n → wr.cell? ⟨b, off + i, none⟩ = some (.int .i64 (c i : Nat))) ∧ Hid (Below w.heap.size w wr)) (fun _ pv _ => n - (intOf pv).toNat)
  case atStart => exact ⟨1, Nat.le_refl _, by omega, rfl, rfl, HC, HB1⟩
  case round =>
    obtain ⟨k, hk1, hk, rfl, rfl, HCr, HBr⟩ := hrel
    clear HC HB1
    by_cases hlt : k < n
    · have hki : (k : Int) < (n : Int) := by omega
      have hk0 : (0 : Int) ≤ (k : Int) := by omega
      obtain ⟨j, rfl⟩ : ∃ j, k = j + 1 := ⟨k - 1, by omega⟩
      rw [Nat.add_sub_cancel]
      have hbl := bestM_le F j
      have hup := fun h : F (bestM F j) < F (j + 1) => bestM_up h
      have hst := fun h : ¬ F (bestM F j) < F (j + 1) => bestM_stay h
      obtain ⟨m, hm⟩ : ∃ m, bestM F j = m := ⟨_, rfl⟩
      rw [hm] at hbl hup hst ⊢
      have x1 := HCr.out (j + 1) hlt
      have x2 := HCr.out m (by omega)
      have y1 := HB25.out (j + 1)
      have y2 := HB25.out m
      have f1 := HFE.out (j + 1)
      have f2 := HFE.out m
      obtain ⟨a1, ha1⟩ : ∃ a, c (j + 1) = a := ⟨_, rfl⟩
      obtain ⟨a2, ha2⟩ : ∃ a, c m = a := ⟨_, rfl⟩
      rw [ha1] at x1 y1 f1
      rw [ha2] at x2 y2 f2
      have hmn : (m : Int) < (n : Int) := by omega
      have hm0 : (0 : Int) ≤ (m : Int) := by omega
      have w1' : IntKind.i64.wrap (sg * (a1 : Int)) = sg * (a1 : Int) := IntWalk.i64_in _ (by rcases hsg.out with h | h <;> subst h <;> omega)
      have w2' : IntKind.i64.wrap (sg * (a2 : Int)) = sg * (a2 : Int) := IntWalk.i64_in _ (by rcases hsg.out with h | h <;> subst h <;> omega)
      rw [f1, f2] at hup hst
      obtain ⟨e1, he1⟩ : ∃ e, sg * (a1 : Int) = e := ⟨_, rfl⟩
      obtain ⟨e2, he2⟩ : ∃ e, sg * (a2 : Int) = e := ⟨_, rfl⟩
      by_cases hgt : sg * (a2 : Int) < sg * (a1 : Int)
      · have HE := Lib.hid (hup hgt)
        have hbb : decide (sg * (a2 : Int) < sg * (a1 : Int)) = true := decide_eq_true hgt
        clear hup hst hm f1 f2 ha1 ha2 he1 he2
        go_wp2_with fail
        go_region
        all_goals
          go_wp2_with fail
          go_roundw
          case rel => exact ⟨j + 1 + 1, by omega, by omega, by go_num, by rw [Nat.add_sub_cancel, HE.out], HCr, Lib.hid HBr.out.drew⟩
          case measure => simp [intOf]; omega
      · have HE := Lib.hid (hst hgt)
        have hbb : decide (sg * (a2 : Int) < sg * (a1 : Int)) = false := decide_eq_false hgt
        clear hup hst hm f1 f2 ha1 ha2 he1 he2
        go_wp2_with fail
        go_region
        all_goals
          go_wp2_with fail
          go_roundw
          case rel => exact ⟨j + 1 + 1, by omega, by omega, by go_num, by rw [Nat.add_sub_cancel, HE.out], HCr, Lib.hid HBr.out.drew⟩
          case measure => simp [intOf]; omega
    · have hkn : k = n := by omega
      subst hkn
      have hbl := bestM_le F (k - 1)
      obtain ⟨m, hm⟩ : ∃ m, bestM F (k - 1) = m := ⟨_, rfl⟩
      rw [hm] at hbl ⊢
      have x2 := HCr.out m (by omega)
      have hmn : (m : Int) < (k : Int) := by omega
      have hm0 : (0 : Int) ≤ (m : Int) := by omega
      have hnn : ¬ (k : Int) < (k : Int) := by omega
      obtain ⟨a2, ha2⟩ : ∃ a, c m = a := ⟨_, rfl⟩
      rw [ha2] at x2
      have HM := Lib.hid hm
      have HA2 := Lib.hid ha2
      clear ha2 hm
      have HBd := Lib.hid HBr.out.drew
      go_wp2_with fail
      go_region
      all_goals
        go_wp2_with fail
        go_ret2
        exact ⟨by rw [HM.out, HA2.out]; rfl, HBd.out⟩
end Go.Proofs.Ytfpndbekinibhaa
