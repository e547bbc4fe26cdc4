/- Chapter 7: enterings: mathematics. Plain lemmas. Chapter 7, spec side: spec.l7Order. -/
import Derived.Test.YtkbpfjhikabbmaaOrderM
import Derived.Test.YtkbpfjhikabbmaaOut
import Derived.Test.YtkbpfjhikabbmaaHasS
import Derived.BigQuiet
section
namespace Go.Proofs.Ytkbpfjhikabbmaa

/-- the first k numbers lie below n and differ -/
def good7 (n : Nat) (xs : List Int) (k : Nat) : Prop := ∀ i, i < k → 0 ≤ xs[i]?.getD 0 ∧ xs[i]?.getD 0 < (n : Int) ∧ xs[i]?.getD 0 ∉ xs.take i
theorem good_ne {n : Nat} {xs : List Int} {k : Nat} (h : good7 n xs k) (hk : k ≤ xs.length) {i j : Nat} (hij : i < j) (hj : j < k) : xs[i]?.getD 0 ≠ xs[j]?.getD 0 := by
  intro e
  refine (h j hj).2.2 ?_
  rw [← e, List.getElem?_eq_getElem (by omega)]
  simp only [Option.getD_some]
  refine List.mem_iff_getElem.2 ⟨i, by rw [List.length_take]; omega, ?_⟩
  rw [List.getElem_take]
theorem good_nodup {n : Nat} {xs : List Int} (h : good7 n xs xs.length) : xs.Nodup := by
  unfold List.Nodup
  rw [List.pairwise_iff_getElem]
  intro i j hi hj hij
  have := good_ne h (Nat.le_refl _) hij hj
  rw [List.getElem?_eq_getElem hi, List.getElem?_eq_getElem hj] at this
  exact this
theorem sort7 (xs : List Int) : (xs.mergeSort (fun a b => decide (a ≤ b))).Perm xs ∧ (xs.mergeSort (fun a b => decide (a ≤ b))).Pairwise (· ≤ ·) := by
  refine ⟨List.mergeSort_perm _ _, ?_⟩
  have := List.pairwise_mergeSort (le := fun (a b : Int) => decide (a ≤ b)) (by intro a b c; simp; omega) (by intro a b; simp; omega) xs
  exact this.imp (by intro a b; simp)
theorem good_order {n : Nat} {xs : List Int} (h : good7 n xs xs.length) (hl : xs.length = n) : orderB (n : Int) xs = true := by
  obtain ⟨hp, hs⟩ := sort7 xs
  obtain ⟨ss, hss⟩ : ∃ ss, xs.mergeSort (fun a b => decide (a ≤ b)) = ss := ⟨_, rfl⟩
  rw [hss] at hp hs
  have hnd : ss.Nodup := hp.nodup_iff.2 (good_nodup h)
  have hls := hp.length_eq
  have hm : ∀ x ∈ ss, 0 ≤ x ∧ x < (n : Int) := by
    intro x hx
    obtain ⟨i, hi, e⟩ := List.getElem_of_mem (hp.mem_iff.1 hx)
    have := h i hi
    rw [List.getElem?_eq_getElem hi] at this
    simp only [Option.getD_some] at this
    rw [← e]; exact ⟨this.1, this.2.1⟩
  refine orderB_true hp hs (by omega) ?_
  have key := mono_id (n := n) (f := fun k => (ss[k]?.getD 0).toNat) (by
    intro v hv
    have := hm _ (List.getElem_mem (l := ss) (n := v) (by omega))
    show (ss[v]?.getD 0).toNat < n
    rw [List.getElem?_eq_getElem (by omega)]
    simp only [Option.getD_some]
    omega) (by
    intro u v huv hv
    have h1 := List.pairwise_iff_getElem.1 hs u v (by omega) (by omega) huv
    have h2 : ss[u] ≠ ss[v] := List.pairwise_iff_getElem.1 hnd u v (by omega) (by omega) huv
    have h3 := hm _ (List.getElem_mem (l := ss) (n := u) (by omega))
    show (ss[u]?.getD 0).toNat < (ss[v]?.getD 0).toNat
    rw [List.getElem?_eq_getElem (by omega), List.getElem?_eq_getElem (by omega)]
    simp only [Option.getD_some]
    omega)
  intro k hk
  have h1 := key k (by omega)
  have h3 := hm _ (List.getElem_mem (l := ss) (n := k) (by omega))
  change (ss[k]?.getD 0).toNat = k at h1
  rw [List.getElem?_eq_getElem (by omega)] at h1 ⊢
  simp only [Option.getD_some] at h1 ⊢
  omega
theorem order_good {n : Nat} {xs : List Int} (h : orderB (n : Int) xs = true) : good7 n xs xs.length ∧ xs.length = n := by
  obtain ⟨l, rfl, hl, hx⟩ := orderB_is h
  have hln : (ints l).length = n := by rw [ints_length, hl]
  refine ⟨?_, hln⟩
  simp only [orderB, Bool.and_eq_true, decide_eq_true_eq, List.all_eq_true, List.mem_range] at h
  obtain ⟨hp, hs⟩ := sort7 (ints l)
  have hk := (order_sorted hp hs).1 h.2
  have hnd : (ints l).Nodup := by
    rw [← hp.nodup_iff]
    unfold List.Nodup
    rw [List.pairwise_iff_getElem]
    intro i j hi hj hij e
    have hle := hp.length_eq
    have h1 := hk i (by omega)
    have h2 := hk j (by omega)
    rw [List.getElem?_eq_getElem hi] at h1
    rw [List.getElem?_eq_getElem hj] at h2
    simp only [Option.getD_some] at h1 h2
    omega
  intro i hi
  have hil : i < l.length := by rw [ints_length] at hi; exact hi
  rw [ints_get hil]
  refine ⟨by omega, ?_, ?_⟩
  · have := hx _ (List.getElem_mem hil)
    rw [List.getElem?_eq_getElem hil]
    simp only [Option.getD_some]
    omega
  · intro hm
    obtain ⟨j, hj, e⟩ := List.mem_iff_getElem.1 hm
    rw [List.length_take] at hj
    rw [List.getElem_take] at e
    have h1 := List.pairwise_iff_getElem.1 hnd j i (by omega) hi (by omega)
    have h2 : (ints l)[i] = ((l[i]?.getD 0 : Nat) : Int) := by
      have := ints_get hil
      rw [List.getElem?_eq_getElem hi] at this
      exact this
    exact h1 (by rw [e, h2])
theorem order_no {n : Nat} {xs : List Int} {i : Nat} (hi : i < xs.length) (h : ¬ (0 ≤ xs[i]?.getD 0 ∧ xs[i]?.getD 0 < (n : Int) ∧ xs[i]?.getD 0 ∉ xs.take i)) : orderB (n : Int) xs = false := by
  cases e : orderB (n : Int) xs with
  | false => rfl
  | true => exact absurd ((order_good e).1 i hi) h
theorem order_yes {n : Nat} {xs : List Int} (h : good7 n xs xs.length) : orderB (n : Int) xs = decide ((xs.length : Int) = (n : Int)) := by
  by_cases e : xs.length = n
  · rw [good_order h e, decide_eq_true (by omega)]
  · cases h' : orderB (n : Int) xs with
    | true => exact absurd (order_good h').2 e
    | false => rw [decide_eq_false (by omega)]
end Go.Proofs.Ytkbpfjhikabbmaa
end

section
namespace Go.Proofs.Ytkbpfjhikabbmaa
open Go.RowKit

theorem Rd.pfx7 {lo hi : Nat} {w : World} {p : Option Addr} {xs : List Int} (h : Ri lo hi w p xs) (k : Nat) : Ri lo hi w p (xs.take k) := by
  have := Rd.pfx h k
  unfold iv at this
  rw [← List.map_take] at this
  exact this

set_option maxRecDepth 4000 in
set_option maxHeartbeats 2000000 in
theorem l7Order_any (n : Nat) (p : Option Addr) (cap : Nat) (xs : List Int) (w : World) (lo hi : Nat) (hin : Ri lo hi w p xs) (hcap : xs.length ≤ cap) (hcm : cap ≤ maxLen) (hlen : xs.length ≤ 1048576) (hn : n ≤ 24) :
    Calls Try.prog 35 #[.int .i64 (n : Nat), .slice p xs.length cap] w fun e w' => e = .returned (.bool (orderB n xs)) ∧ Below w.heap.size w w' := by
  have HI := Lib.hid (fun (w' : World) (h' : Below w.heap.size w w') => hin.below h' hin.top)
  have HS := Lib.hid (fun (i : Nat) (hi' : i ≤ xs.length) (x : Int) (w' : World) (h' : Below w.heap.size w w') => l1Has_any p cap (xs.take i) x w' lo hi (Rd.pfx7 (hin.below h' hin.top) i) (by rw [List.length_take]; omega))
  have HNO := Lib.hid (fun (i : Nat) (hi' : i < xs.length) (h : ¬ (0 ≤ xs[i]?.getD 0 ∧ xs[i]?.getD 0 < (n : Int) ∧ xs[i]?.getD 0 ∉ xs.take i)) => order_no hi' h)
  have HYE := Lib.hid (fun (h : good7 n xs xs.length) => order_yes h)
  have hmax : maxLen = 9223372036854775807 := rfl
  obtain ⟨R, hR⟩ : ∃ R, orderB n xs = R := ⟨_, rfl⟩
  rw [hR] at HNO HYE ⊢
  obtain ⟨m, hm⟩ : ∃ m, xs.length = m := ⟨_, rfl⟩
  rw [hm] at HS HNO HYE hcap hlen ⊢
  have HM := Lib.hid hm
  clear hin hR hm
  go_enter Try.func35, Try.ntmps35
  go_wp2_with fail
  go_loopw [5] (fun i wr => ∃ (k : Nat), k ≤ m ∧ i = .int .i64 (k : Int) ∧ Hid (good7 n xs k) ∧ Hid (Below w.heap.size w wr)) (fun i _ => m - (intOf i).toNat)
  case atStart => exact ⟨0, Nat.zero_le _, rfl, (by show ∀ _, _; intro i h; omega), Lib.hid (Below.refl _ _)⟩
  case round =>
    obtain ⟨k, hk, rfl, HG, HB⟩ := hrel
    by_cases hlt : k < m
    · have hk1 : (k : Int) < (m : Int) := by omega
      have hk0 : (0 : Int) ≤ (k : Int) := by omega
      have hkc : (k : Int) ≤ (cap : Int) := by omega
      have hkl : k < xs.length := by rw [HM.out]; exact hlt
      obtain ⟨b, off, rfl, -, -, hbw, hc⟩ := (HI.out wr HB.out).int (by omega)
      have h0 := hc k hkl
      have HH := fun (x : Int) (w' : World) (h' : Below w.heap.size w w') => HS.out k (by omega) x w' h'
      rw [show (xs.take k).length = k by rw [List.length_take]; omega] at HH
      have hno := HNO.out k hlt
      obtain ⟨x, hx⟩ : ∃ x, xs[k]?.getD 0 = x := ⟨_, rfl⟩
      rw [hx] at h0 hno
      have HX := Lib.hid hx
      replace HNO := Lib.hid hno
      clear hno hx
      have HL := fun w' => l1In_any x 0 ((n : Int) - 1) w'
      replace HH := fun (w' : World) (h' : Below w.heap.size w w') => HH x w' h'
      clear hc hbw
      by_cases h1 : 0 ≤ x ∧ x < (n : Int)
      · have e1 : (decide (0 ≤ x) && decide (x ≤ (n : Int) - 1)) = true := by simp; omega
        rw [e1] at HL
        replace HL := Lib.hid HL
        obtain ⟨h1, h2⟩ := h1
        clear e1
        by_cases h3 : x ∈ xs.take k
        · have hr := HNO.out (fun h => h.2.2 h3)
          subst hr
          rw [decide_eq_true h3] at HH
          replace HH := Lib.hid HH
          clear h3 HNO HYE
          go_wp2_with fail
          go_quiet ((first | (go_at_call 46; exact quiet_same (HH.out _ (bel_drewN HB.out _))) | (go_at_call 34; exact quiet_same (HL.out _))))
          go_wp2_with fail
          go_ret
          exact ⟨rfl, bel_drewN HB.out _⟩
        · have HG2 : Hid (good7 n xs (k + 1)) := by
            show ∀ _, _
            intro i hi'
            by_cases e : i = k
            · subst e; rw [HX.out]; exact ⟨h1, h2, h3⟩
            · exact HG.out i (by omega)
          rw [decide_eq_false h3] at HH
          replace HH := Lib.hid HH
          clear h3 HG
          go_wp2_with fail
          go_quiet ((first | (go_at_call 46; exact quiet_same (HH.out _ (bel_drewN HB.out _))) | (go_at_call 34; exact quiet_same (HL.out _))))
          go_wp2_with fail
          go_roundw
          case rel => exact ⟨k + 1, by omega, by go_num, HG2, Lib.hid (bel_drewN HB.out _)⟩
          case measure => simp [intOf]; omega
      · have e1 : (decide (0 ≤ x) && decide (x ≤ (n : Int) - 1)) = false := by simp; omega
        rw [e1] at HL
        replace HL := Lib.hid HL
        have hr := HNO.out (fun h => h1 ⟨h.1, h.2.1⟩)
        subst hr
        clear e1 h1 HNO HYE HH
        go_wp2_with fail
        go_quiet ((go_at_call 34; exact quiet_same (HL.out _)))
        go_wp2_with fail
        go_ret
        exact ⟨rfl, bel_drewN HB.out _⟩
    · have hkm : k = m := by omega
      subst hkm
      have hr := HYE.out HG.out
      have hk1 : ¬ (k : Int) < (k : Int) := by omega
      subst hr
      clear HNO
      go_wp2_with fail
      go_ret
      exact ⟨rfl, HB.out⟩
end Go.Proofs.Ytkbpfjhikabbmaa
end
