/- Possible seatings in order; enterings are those of travelers who all lost their passes: mathematics. Plain lemmas. -/
import Derived.Test.YtkbpfjhikabbmaaCho5
namespace Go.Proofs.Ytkbpfjhikabbmaa
open Go.RowKit

/-- all possible seatings with a beginning, d travelers to come -/
def seatM (n k : Nat) : Nat → List Int → List (List Int)
  | 0, bs => [bs]
  | d + 1, bs => (choM n k bs).flatMap (fun (c : Nat) => seatM n k d (bs ++ [(c : Int)]))
/-- those with the first i choices -/
def partM (n k d : Nat) (bs : List Int) (cs : List Nat) : List (List Int) := cs.flatMap (fun (c : Nat) => seatM n k d (bs ++ [(c : Int)]))
theorem cho_few {n : Nat} {bs : List Int} (h : bs.length < n) : choM n n bs = tk n (choS bs) := by
  unfold choM
  rw [if_neg (by omega)]
theorem part_more {n d : Nat} {bs : List Int} {r : Nat} : partM n n d bs (tk (r + 1) (choS bs)) = partM n n d bs (tk r (choS bs)) ++ (if choS bs r then seatM n n d (bs ++ [(r : Int)]) else []) := by
  unfold partM
  rw [tk_succ, List.flatMap_append]
  split <;> simp
theorem tk_drop7 (T U : Nat → Bool) (s : Nat) (hT : T s = true) : ∀ n, s < n → (∀ i, i < n → U i = (T i && decide (i ≠ s))) → (tk n T).length = (tk n U).length + 1
  | 0, h, _ => absurd h (Nat.not_lt_zero _)
  | n + 1, h, hU => by
    rw [tk_succ, tk_succ, List.length_append, List.length_append, hU n (Nat.lt_succ_self n)]
    by_cases hs : s = n
    · subst hs
      have e : tk s T = tk s U := tk_congr (fun i hi => by rw [hU i (Nat.lt_succ_of_lt hi)]; have : i ≠ s := by omega
                                                           simp [this])
      rw [e, hT]
      simp
    · have ih := tk_drop7 T U s hT n (by omega) (fun i hi => hU i (Nat.lt_succ_of_lt hi))
      have hn : n ≠ s := fun h => hs h.symm
      rw [ih]
      simp only [hn, ne_eq, not_false_eq_true, decide_true, Bool.and_true]
      omega
/-- behind j travelers n - j seats are free -/
theorem nodup_free7 (n : Nat) : ∀ (l : List Nat), l.Nodup → (∀ x ∈ l, x < n) → (tk n (fun i => !decide (i ∈ l))).length + l.length = n
  | [], _, _ => by
    have : tk n (fun i => !decide (i ∈ ([] : List Nat))) = List.range n := by
      unfold tk
      rw [List.filter_eq_self]
      intro a _; simp
    rw [this, List.length_range]; simp
  | a :: l, hd, hl => by
    rw [List.nodup_cons] at hd
    have ih := nodup_free7 n l hd.2 (fun x hx => hl x (List.mem_cons_of_mem _ hx))
    have ha := hl a (List.mem_cons_self ..)
    have := tk_drop7 (fun i => !decide (i ∈ l)) (fun i => !decide (i ∈ a :: l)) a (by simpa using hd.1) n ha (by
      intro i _
      by_cases h : i = a
      · subst h; simp
      · simp [h])
    rw [List.length_cons]
    omega
theorem nodup_all7 {n : Nat} {l : List Nat} (hd : l.Nodup) (hl : ∀ x ∈ l, x < n) (hn : l.length = n) (r : Nat) (hr : r < n) : r ∈ l := by
  have h := nodup_free7 n l hd hl
  have h0 : tk n (fun i => !decide (i ∈ l)) = [] := List.length_eq_zero_iff.1 (by omega)
  refine Classical.byContradiction fun hn => ?_
  have : r ∈ tk n (fun i => !decide (i ∈ l)) := mem_tk.2 ⟨hr, by simpa using hn⟩
  rw [h0] at this
  simp at this
theorem flat_le {α β : Type} {f : α → List β} {K : Nat} : ∀ {l : List α}, (∀ x ∈ l, (f x).length ≤ K) → (l.flatMap f).length ≤ l.length * K
  | [], _ => by simp
  | a :: l, h => by
    rw [List.flatMap_cons, List.length_append, List.length_cons, Nat.add_mul, Nat.one_mul]
    have h1 := h a (List.mem_cons_self ..)
    have h2 := flat_le (f := f) (K := K) (l := l) (fun x hx => h x (List.mem_cons_of_mem _ hx))
    omega
theorem cho_le {n k : Nat} (bs : List Int) (hn : n ≤ 12) : (choM n k bs).length ≤ 12 := by
  unfold choM
  split
  · simp
  · exact Nat.le_trans (tk_length_le n _) hn
theorem seat_len {n k : Nat} (hn : n ≤ 12) : ∀ d bs, (seatM n k d bs).length ≤ 12 ^ d
  | 0, bs => by simp [seatM]
  | d + 1, bs => by
    have h := flat_le (f := fun (c : Nat) => seatM n k d (bs ++ [(c : Int)])) (K := 12 ^ d) (l := choM n k bs) (fun x _ => seat_len hn d _)
    show ((choM n k bs).flatMap _).length ≤ _
    refine Nat.le_trans h ?_
    rw [Nat.pow_succ, Nat.mul_comm]
    exact Nat.mul_le_mul_left _ (cho_le bs hn)
theorem part_len {n k d : Nat} (hn : n ≤ 12) (bs : List Int) {cs : List Nat} (hc : cs.length ≤ 12) : (partM n k d bs cs).length ≤ 12 ^ (d + 1) := by
  have h := flat_le (f := fun (c : Nat) => seatM n k d (bs ++ [(c : Int)])) (K := 12 ^ d) (l := cs) (fun x _ => seat_len hn d _)
  refine Nat.le_trans h ?_
  rw [Nat.pow_succ, Nat.mul_comm]
  exact Nat.mul_le_mul_left _ hc
/-- each is an entering -/
theorem seat_ent {n : Nat} : ∀ (d : Nat) (l0 : List Nat), l0.length + d = n → l0.Nodup → (∀ x ∈ l0, x < n) → ∀ x ∈ seatM n n d (ints l0), ∃ l : List Nat, x = ints l ∧ l.length = n ∧ l.Nodup ∧ ∀ y ∈ l, y < n
  | 0, l0, hl, hd, hb, x, hx => by
    simp only [seatM, List.mem_singleton] at hx
    exact ⟨l0, hx, by omega, hd, hb⟩
  | d + 1, l0, hl, hd, hb, x, hx => by
    simp only [seatM, List.mem_flatMap] at hx
    obtain ⟨c, hc, hx⟩ := hx
    rw [cho_few (by rw [ints_length]; omega), mem_tk] at hc
    obtain ⟨hcn, hcs⟩ := hc
    have hcl : c ∉ l0 := by
      intro h
      unfold choS at hcs
      have : (c : Int) ∈ ints l0 := by unfold ints; exact List.mem_map.2 ⟨c, h, rfl⟩
      simp [this] at hcs
    have e : ints l0 ++ [(c : Int)] = ints (l0 ++ [c]) := by unfold ints; simp
    rw [e] at hx
    refine seat_ent d (l0 ++ [c]) (by rw [List.length_append]; simp only [List.length_singleton]; omega) ?_ ?_ x hx
    · rw [List.nodup_append]
      refine ⟨hd, by simp, ?_⟩
      intro a ha b hb e2
      simp at hb
      subst hb
      exact hcl (e2 ▸ ha)
    · intro y hy
      rcases List.mem_append.1 hy with h | h
      · exact hb y h
      · simp at h; omega
/-- all enterings, in order -/
def entM (n : Nat) : List (List Int) := seatM n n n []
theorem ent_is {n : Nat} {x : List Int} (hx : x ∈ entM n) : ∃ l : List Nat, x = ints l ∧ l.length = n ∧ (∀ y ∈ l, y < n) ∧ (∀ r, r < n → r ∈ l) ∧ ∀ j k, j < n → k < n → j ≠ k → l[j]?.getD 0 ≠ l[k]?.getD 0 := by
  have h0 : (ints ([] : List Nat)) = [] := rfl
  unfold entM at hx
  rw [← h0] at hx
  obtain ⟨l, e, h1, h2, h3⟩ := seat_ent n [] (by simp) List.nodup_nil (fun x hx => by simp at hx) x hx
  refine ⟨l, e, h1, h3, fun r hr => nodup_all7 h2 h3 h1 r hr, fun j k hj hk hne => ?_⟩
  rw [List.getElem?_eq_getElem (by omega), List.getElem?_eq_getElem (by omega)]
  simp only [Option.getD_some]
  intro e2
  exact hne ((List.getElem_inj h2).1 e2)
theorem ent_len : ∀ n, n ≤ 6 → 1 ≤ n → (entM n).length ∣ 479001600 ∧ 0 < (entM n).length ∧ (entM n).length ≤ 720 := by
  intro n h6 h1
  rcases (by omega : n = 1 ∨ n = 2 ∨ n = 3 ∨ n = 4 ∨ n = 5 ∨ n = 6) with rfl | rfl | rfl | rfl | rfl | rfl <;> decide +kernel
end Go.Proofs.Ytkbpfjhikabbmaa
