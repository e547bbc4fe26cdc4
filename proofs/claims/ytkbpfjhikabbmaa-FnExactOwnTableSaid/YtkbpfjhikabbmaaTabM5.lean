/- The table of own seats, by all possible seatings: mathematics. Plain lemmas. -/
import Derived.Test.YtkbpfjhikabbmaaShM5
import Derived.Test.YtkbpfjhikabbmaaSeaM5
import Derived.Test.YtkbpfjhikabbmaaFrac
namespace Go.Proofs.Ytkbpfjhikabbmaa
open Go.RowKit

theorem den_take {n k : Nat} {xs : List Int} {m : Nat} : ∀ j, j ≤ m → denM n k (xs.take m) j = denM n k xs j
  | 0, _ => rfl
  | j + 1, h => by
    show denM n k (xs.take m) j * (choM n k ((xs.take m).take j)).length = denM n k xs j * (choM n k (xs.take j)).length
    rw [den_take j (by omega), List.take_take, Nat.min_eq_left (by omega)]
theorem den_snoc {n k : Nat} (bs : List Int) (c : Int) : denM n k (bs ++ [c]) (bs.length + 1) = denM n k bs bs.length * (choM n k bs).length := by
  show denM n k (bs ++ [c]) bs.length * (choM n k ((bs ++ [c]).take bs.length)).length = _
  have e : (bs ++ [c]).take bs.length = bs := by simp
  rw [e]
  have h := den_take (n := n) (k := k) (xs := bs ++ [c]) (m := bs.length) bs.length (Nat.le_refl _)
  rw [e] at h
  rw [h]
theorem poss_take {n k : Nat} {xs : List Int} {m : Nat} {j : Nat} (hj : j ≤ m) : possM n k (xs.take m) j = possM n k xs j := by
  unfold possM
  rw [Bool.eq_iff_iff, List.all_eq_true, List.all_eq_true]
  have key : ∀ i, i < j → (decide ((xs.take m)[i]?.getD 0 ∈ ints (choM n k ((xs.take m).take i))) = decide (xs[i]?.getD 0 ∈ ints (choM n k (xs.take i)))) := by
    intro i hi
    rw [List.getElem?_take, if_pos (by omega), List.take_take, Nat.min_eq_left (by omega)]
  constructor
  · intro h i hi
    rw [← key i (List.mem_range.1 hi)]
    exact h i hi
  · intro h i hi
    rw [key i (List.mem_range.1 hi)]
    exact h i hi
theorem poss_snoc {n k : Nat} {bs : List Int} {c : Nat} (h : possM n k bs bs.length = true) (hc : c ∈ choM n k bs) : possM n k (bs ++ [(c : Int)]) (bs.length + 1) = true := by
  rw [possM_succ]
  have e : (bs ++ [(c : Int)]).take bs.length = bs := by simp
  have h1 := poss_take (n := n) (k := k) (xs := bs ++ [(c : Int)]) (m := bs.length) (j := bs.length) (Nat.le_refl _)
  rw [e] at h1
  rw [← h1, h, Bool.true_and, decide_eq_true_eq, e]
  rw [List.getElem?_append_right (Nat.le_refl _), Nat.sub_self]
  simp only [List.getElem?_cons_zero, Option.getD_some]
  unfold ints
  exact List.mem_map.2 ⟨c, hc, rfl⟩
/-- all of them are possible -/
theorem seat_poss {n k : Nat} : ∀ d bs, bs.length + d = n → possM n k bs bs.length = true → ∀ x ∈ seatM n k d bs, x.length = n ∧ possM n k x n = true
  | 0, bs, hl, h, x, hx => by
    simp only [seatM, List.mem_singleton] at hx
    subst hx
    have e : x.length = n := by omega
    rw [e] at h
    exact ⟨e, h⟩
  | d + 1, bs, hl, h, x, hx => by
    have hx' : x ∈ (choM n k bs).flatMap (fun (c : Nat) => seatM n k d (bs ++ [(c : Int)])) := hx
    obtain ⟨c, hc, hm⟩ := List.mem_flatMap.1 hx'
    have h2 := poss_snoc h hc
    have el : (bs ++ [(c : Int)]).length = bs.length + 1 := by simp
    exact seat_poss d (bs ++ [(c : Int)]) (by omega) (by rw [el]; exact h2) x hm
/-- the shares of lists of seats, together -/
def totM (n k : Nat) (Ls : List (List Int)) : Nat := (Ls.map (shaM n k)).sum
theorem tot_app (n k : Nat) (A B : List (List Int)) : totM n k (A ++ B) = totM n k A + totM n k B := by
  unfold totM
  rw [List.map_append, List.sum_append]
theorem tot_flat {n k : Nat} {f : Nat → List (List Int)} {q : Nat} : ∀ (cs : List Nat), (∀ c ∈ cs, totM n k (f c) ≤ q) → totM n k (cs.flatMap f) ≤ cs.length * q
  | [], _ => by simp [totM]
  | c :: cs, h => by
    rw [List.flatMap_cons, tot_app, List.length_cons, Nat.add_mul, Nat.one_mul]
    have h1 := h c (List.mem_cons_self ..)
    have h2 := tot_flat (q := q) (f := f) cs (fun x hx => h x (List.mem_cons_of_mem _ hx))
    omega
theorem tot_le {n k : Nat} : ∀ d bs, bs.length + d = n → possM n k bs bs.length = true → totM n k (seatM n k d bs) ≤ 479001600 / denM n k bs bs.length
  | 0, bs, hl, h => by
    have e : bs.length = n := by omega
    show (List.map (shaM n k) [bs]).sum ≤ _
    simp only [List.map_cons, List.map_nil, List.sum_cons, List.sum_nil, Nat.add_zero]
    unfold shaM
    split
    · rw [e]; exact Nat.le_refl _
    · exact Nat.zero_le _
  | d + 1, bs, hl, h => by
    have hs : ∀ c ∈ choM n k bs, totM n k (seatM n k d (bs ++ [(c : Int)])) ≤ 479001600 / denM n k bs bs.length / (choM n k bs).length := fun c hc => by
      have el : (bs ++ [(c : Int)]).length = bs.length + 1 := by simp
      have h2 := tot_le (n := n) (k := k) d (bs ++ [(c : Int)]) (by rw [el]; omega) (by rw [el]; exact poss_snoc h hc)
      rw [el, den_snoc, ← Nat.div_div_eq_div_mul] at h2
      exact h2
    have h3 := tot_flat (n := n) (k := k) (f := fun (c : Nat) => seatM n k d (bs ++ [(c : Int)])) (choM n k bs) hs
    show totM n k ((choM n k bs).flatMap _) ≤ _
    refine Nat.le_trans h3 ?_
    rw [Nat.mul_comm]
    exact Nat.div_mul_le_self _ _
/-- the share of those in which the traveler i has the own seat -/
def tabM (n k : Nat) (Ls : List (List Int)) (i : Nat) : Nat := totM n k (Ls.filter fun x => decide (x[i]?.getD 0 = (i : Int)))
theorem tab_snoc (n k : Nat) (Ls : List (List Int)) (x : List Int) (i : Nat) : tabM n k (Ls ++ [x]) i = tabM n k Ls i + (if x[i]?.getD 0 = (i : Int) then shaM n k x else 0) := by
  unfold tabM
  rw [List.filter_append, tot_app]
  congr 1
  by_cases h : x[i]?.getD 0 = (i : Int)
  · rw [if_pos h, List.filter_cons_of_pos (by simpa using h)]
    simp [totM]
  · rw [if_neg h, List.filter_cons_of_neg (by simpa using h)]
    simp [totM]
theorem tot_filter (n k : Nat) (p : List Int → Bool) : ∀ (Ls : List (List Int)), totM n k (Ls.filter p) ≤ totM n k Ls
  | [] => by simp [totM]
  | x :: Ls => by
    have ih := tot_filter n k p Ls
    have e : totM n k (x :: Ls) = shaM n k x + totM n k Ls := by simp [totM]
    cases hp : p x with
    | true =>
      rw [List.filter_cons_of_pos hp]
      have e2 : totM n k (x :: Ls.filter p) = shaM n k x + totM n k (Ls.filter p) := by simp [totM]
      omega
    | false =>
      rw [List.filter_cons_of_neg (by simp [hp])]
      omega
theorem tot_take (n k : Nat) (Ls : List (List Int)) (j : Nat) : totM n k (Ls.take j) ≤ totM n k Ls := by
  conv => rhs; rw [← List.take_append_drop j Ls]
  rw [tot_app]; omega
theorem tab_le {n k : Nat} (j i : Nat) : tabM n k ((seatM n k n []).take j) i ≤ 479001600 := by
  have h1 := tot_le (n := n) (k := k) n [] (by simp) (by simp [possM])
  have h2 := tot_take n k (seatM n k n []) j
  have h3 := tot_filter n k (fun x => decide (x[i]?.getD 0 = (i : Int))) ((seatM n k n []).take j)
  have h4 := Nat.div_le_self 479001600 (denM n k ([] : List Int) ([] : List Int).length)
  unfold tabM
  omega
/-- the chance of a possible seating, by its share -/
theorem chance_sha {n k : Nat} (hn : n ≤ 12) {x : List Int} (hx : x ∈ seatM n k n []) : chanceR n k x = mkRat ((shaM n k x : Nat) : Int) 479001600 := by
  obtain ⟨h1, h2⟩ := seat_poss (n := n) (k := k) n [] (by simp) (by simp [possM]) x hx
  have hp : posB n k x = true := by unfold posB; rw [h1, h2]; simp
  unfold chanceR
  rw [if_pos h2, sha_rat hn hp]
theorem rat_addD {D : Nat} (hD : D ≠ 0) (a b : Nat) : mkRat (a : Int) D + mkRat (b : Int) D = mkRat ((a + b : Nat) : Int) D := by
  rw [Rat.mkRat_add_mkRat _ _ hD hD]
  have h := Rat.mkRat_mul_left (a := D) (n := ((a + b : Nat) : Int)) (d := D) hD
  rw [← h]
  congr 1
  rw [Int.natCast_add, Int.mul_add, Int.mul_comm (D : Int) a, Int.mul_comm (D : Int) b]
theorem rat_add (a b : Nat) : mkRat (a : Int) 479001600 + mkRat (b : Int) 479001600 = mkRat ((a + b : Nat) : Int) 479001600 := rat_addD (by decide) a b
theorem rat_small {a : Nat} (h : a ≤ 479001600) : (mkRat (a : Int) 479001600).num.natAbs ≤ 479001600 ∧ (mkRat (a : Int) 479001600).den ≤ 479001600 := by
  obtain ⟨h1, h2⟩ := cut_le (a : Int) 479001600 (by decide)
  exact ⟨by rw [Int.natAbs_natCast] at h1; omega, h2⟩
end Go.Proofs.Ytkbpfjhikabbmaa
