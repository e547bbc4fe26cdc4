/- Chapter 7: enterings: mathematics. Plain lemmas. Chapter 7, spec side: spec.l7Order. -/
import Derived.Test.YtlhnejjciondeaaOrderM
import Derived.Test.YtlhnejjciondeaaOut
import Derived.Test.YtlhnejjciondeaaHasS
import Derived.BigQuiet
section
namespace Go.Proofs.Ytlhnejjciondeaa

/-- the first k numbers lie below n and differ -/
def good7 (n : Nat) (xs : List Int) (k : Nat) : Prop := ∀ i, i < k → 0 ≤ xs[i]?.getD 0 ∧ xs[i]?.getD 0 < (n : Int) ∧ xs[i]?.getD 0 ∉ xs.take i
theorem good_ne {n : Nat} {xs : List Int} {k : Nat} (h : good7 n xs k) (hk : k ≤ xs.length) {i j : Nat} (hij : i < j) (hj : j < k) : xs[i]?.getD 0 ≠ xs[j]?.getD 0 := by
  intro e
  refine (h j hj).2.2 ?_
  rw [← e, List.getElem?_eq_getElem (by omega)]
  simp only [Option.getD_some]
  refine List.mem_iff_getElem.2 ⟨i, by rw [List.length_take]; omega, ?_⟩
  rw [List.getElem_take]
theorem good_nodup {n : Nat} {xs : List Int} (h : good7 n xs xs.length) : xs.Nodup := by
  unfold List.Nodup
  rw [List.pairwise_iff_getElem]
  intro i j hi hj hij
  have := good_ne h (Nat.le_refl _) hij hj
  rw [List.getElem?_eq_getElem hi, List.getElem?_eq_getElem hj] at this
  exact this
theorem sort7 (xs : List Int) : (xs.mergeSort (fun a b => decide (a ≤ b))).Perm xs ∧ (xs.mergeSort (fun a b => decide (a ≤ b))).Pairwise (· ≤ ·) := by
  refine ⟨List.mergeSort_perm _ _, ?_⟩
  have := List.pairwise_mergeSort (le := fun (a b : Int) => decide (a ≤ b)) (by intro a b c; simp; omega) (by intro a b; simp; omega) xs
  exact this.imp (by intro a b; simp)
theorem good_order {n : Nat} {xs : List Int} (h : good7 n xs xs.length) (hl : xs.length = n) : orderB (n : Int) xs = true := by
  obtain ⟨hp, hs⟩ := sort7 xs
  obtain ⟨ss, hss⟩ : ∃ ss, xs.mergeSort (fun a b => decide (a ≤ b)) = ss := ⟨_, rfl⟩
  rw [hss] at hp hs
  have hnd : ss.Nodup := hp.nodup_iff.2 (good_nodup h)
  have hls := hp.length_eq
  have hm : ∀ x ∈ ss, 0 ≤ x ∧ x < (n : Int) := by
    intro x hx
    obtain ⟨i, hi, e⟩ := List.getElem_of_mem (hp.mem_iff.1 hx)
    have := h i hi
    rw [List.getElem?_eq_getElem hi] at this
    simp only [Option.getD_some] at this
    rw [← e]; exact ⟨this.1, this.2.1⟩
  refine orderB_true hp hs (by omega) ?_
  have key := mono_id (n := n) (f := fun k => (ss[k]?.getD 0).toNat) (by
    intro v hv
    have := hm _ (List.getElem_mem (l := ss) (n := v) (by omega))
    show (ss[v]?.getD 0).toNat < n
    rw [List.getElem?_eq_getElem (by omega)]
    simp only [Option.getD_some]
    omega) (by
    intro u v huv hv
    have h1 := List.pairwise_iff_getElem.1 hs u v (by omega) (by omega) huv
    have h2 : ss[u] ≠ ss[v] := List.pairwise_iff_getElem.1 hnd u v (by omega) (by omega) huv
    have h3 := hm _ (List.getElem_mem (l := ss) (n := u) (by omega))
    show (ss[u]?.getD 0).toNat < (ss[v]?.getD 0).toNat
    rw [List.getElem?_eq_getElem (by omega), List.getElem?_eq_getElem (by omega)]
    simp only [Option.getD_some]
    omega)
  intro k hk
  have h1 := key k (by omega)
  have h3 := hm _ (List.getElem_mem (l := ss) (n := k) (by omega))
  change (ss[k]?.getD 0).toNat = k at h1
  rw [List.getElem?_eq_getElem (by omega)] at h1 ⊢
  simp only [Option.getD_some] at h1 ⊢
  omega
theorem order_good {n : Nat} {xs : List Int} (h : orderB (n : Int) xs = true) : good7 n xs xs.length ∧ xs.length = n := by
  obtain ⟨l, rfl, hl, hx⟩ := orderB_is h
  have hln : (ints l).length = n := by rw [ints_length, hl]
  refine ⟨?_, hln⟩
  simp only [orderB, Bool.and_eq_true, decide_eq_true_eq, List.all_eq_true, List.mem_range] at h
  obtain ⟨hp, hs⟩ := sort7 (ints l)
  have hk := (order_sorted hp hs).1 h.2
  have hnd : (ints l).Nodup := by
    rw [← hp.nodup_iff]
    unfold List.Nodup
    rw [List.pairwise_iff_getElem]
    intro i j hi hj hij e
    have hle := hp.length_eq
    have h1 := hk i (by omega)
    have h2 := hk j (by omega)
    rw [List.getElem?_eq_getElem hi] at h1
    rw [List.getElem?_eq_getElem hj] at h2
    simp only [Option.getD_some] at h1 h2
    omega
  intro i hi
  have hil : i < l.length := by rw [ints_length] at hi; exact hi
  rw [ints_get hil]
  refine ⟨by omega, ?_, ?_⟩
  · have := hx _ (List.getElem_mem hil)
    rw [List.getElem?_eq_getElem hil]
    simp only [Option.getD_some]
    omega
  · intro hm
    obtain ⟨j, hj, e⟩ := List.mem_iff_getElem.1 hm
    rw [List.length_take] at hj
    rw [List.getElem_take] at e
    have h1 := List.pairwise_iff_getElem.1 hnd j i (by omega) hi (by omega)
    have h2 : (ints l)[i] = ((l[i]?.getD 0 : Nat) : Int) := by
      have := ints_get hil
      rw [List.getElem?_eq_getElem hi] at this
      exact this
    exact h1 (by rw [e, h2])
theorem order_no {n : Nat} {xs : List Int} {i : Nat} (hi : i < xs.length) (h : ¬ (0 ≤ xs[i]?.getD 0 ∧ xs[i]?.getD 0 < (n : Int) ∧ xs[i]?.getD 0 ∉ xs.take i)) : orderB (n : Int) xs = false := by
  cases e : orderB (n : Int) xs with
  | false => rfl
  | true => exact absurd ((order_good e).1 i hi) h
theorem order_yes {n : Nat} {xs : List Int} (h : good7 n xs xs.length) : orderB (n : Int) xs = decide ((xs.length : Int) = (n : Int)) := by
  by_cases e : xs.length = n
  · rw [good_order h e, decide_eq_true (by omega)]
  · cases h' : orderB (n : Int) xs with
    | true => exact absurd (order_good h').2 e
    | false => rw [decide_eq_false (by omega)]
end Go.Proofs.Ytlhnejjciondeaa
end

section
namespace Go.Proofs.Ytlhnejjciondeaa
open Go.RowKit

theorem Rd.pfx7 {lo hi : Nat} {w : World} {p : Option Addr} {xs : List Int} (h : Ri lo hi w p xs) (k : Nat) : Ri lo hi w p (xs.take k) := by
  have := Rd.pfx h k
  unfold iv at this
  rw [← List.map_take] at this
  exact this

end Go.Proofs.Ytlhnejjciondeaa
end
