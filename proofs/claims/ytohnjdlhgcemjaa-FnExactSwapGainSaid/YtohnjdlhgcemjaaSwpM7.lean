/- Chapter 7: two travelers exchanged: mathematics and memory. Plain lemmas. -/
import Derived.Test.YtohnjdlhgcemjaaBrdB7
import Derived.Test.YtohnjdlhgcemjaaOwnL
namespace Go.Proofs.Ytohnjdlhgcemjaa
open Go.RowKit

/-- the places i and i + 1 exchanged -/
def swapM (l : List Nat) (i : Nat) : List Nat := (l.set i (lrow l (i + 1))).set (i + 1) (lrow l i)
theorem swap_len (l : List Nat) (i : Nat) : (swapM l i).length = l.length := by unfold swapM; rw [List.length_set, List.length_set]
theorem swap_at {l : List Nat} {i j : Nat} (hi : i + 1 < l.length) (hj : j < l.length) : lrow (swapM l i) j = if j = i then lrow l (i + 1) else if j = i + 1 then lrow l i else lrow l j := by
  have key : lrow (swapM l i) j = ((l.set i (lrow l (i + 1))).set (i + 1) (lrow l i))[j]?.getD 0 := rfl
  rw [key, List.getElem?_set, List.length_set, List.getElem?_set]
  by_cases e1 : i + 1 = j
  · subst e1
    rw [if_pos rfl, if_pos hj, if_neg (by omega), if_pos rfl]; rfl
  · rw [if_neg e1]
    by_cases e2 : i = j
    · subst e2
      rw [if_pos rfl, if_pos hj, if_pos rfl]; rfl
    · rw [if_neg e2, if_neg (fun e => e2 e.symm), if_neg (fun e => e1 e.symm)]
theorem row_mem {l : List Nat} {x : Nat} : x ∈ l ↔ ∃ j, j < l.length ∧ lrow l j = x := by
  constructor
  · intro h
    obtain ⟨j, hj, e⟩ := List.getElem_of_mem h
    exact ⟨j, hj, by unfold lrow; rw [List.getElem?_eq_getElem hj, e]; rfl⟩
  · rintro ⟨j, hj, rfl⟩
    exact nat_mem hj
theorem swap_ok {n : Nat} {l : List Nat} {i : Nat} (hll : l.length = n) (hi : i + 1 < n) (hl : ∀ x ∈ l, x < n) (ha : ∀ r, r < n → r ∈ l) (hnd : ∀ j k, j < n → k < n → j ≠ k → lrow l j ≠ lrow l k) :
    (swapM l i).length = n ∧ (∀ x ∈ swapM l i, x < n) ∧ (∀ r, r < n → r ∈ swapM l i) ∧ ∀ j k, j < n → k < n → j ≠ k → lrow (swapM l i) j ≠ lrow (swapM l i) k := by
  have hlen := swap_len l i
  have hat : ∀ j, j < n → lrow (swapM l i) j = if j = i then lrow l (i + 1) else if j = i + 1 then lrow l i else lrow l j := fun j hj => swap_at (by omega) (by omega)
  refine ⟨by omega, fun x hx => ?_, fun r hr => ?_, fun j k hj hk hne => ?_⟩
  · obtain ⟨j, hj, rfl⟩ := row_mem.1 hx
    rw [hat j (by omega)]
    refine hl _ (row_mem.2 ?_)
    by_cases e1 : j = i
    · exact ⟨i + 1, by omega, by rw [if_pos e1]⟩
    · by_cases e2 : j = i + 1
      · exact ⟨i, by omega, by rw [if_neg e1, if_pos e2]⟩
      · exact ⟨j, by omega, by rw [if_neg e1, if_neg e2]⟩
  · obtain ⟨j, hj, rfl⟩ := row_mem.1 (ha r hr)
    by_cases e1 : j = i
    · exact row_mem.2 ⟨i + 1, by omega, by rw [hat _ (by omega), if_neg (by omega), if_pos rfl, e1]⟩
    · by_cases e2 : j = i + 1
      · exact row_mem.2 ⟨i, by omega, by rw [hat _ (by omega), if_pos rfl, e2]⟩
      · exact row_mem.2 ⟨j, by omega, by rw [hat _ (by omega), if_neg e1, if_neg e2]⟩
  · rw [hat j hj, hat k hk]
    by_cases e1 : j = i
    · rw [if_pos e1, if_neg (by omega)]
      by_cases e2 : k = i + 1
      · rw [if_pos e2]; exact hnd _ _ (by omega) (by omega) (by omega)
      · rw [if_neg e2]; exact hnd _ _ (by omega) (by omega) (by omega)
    · rw [if_neg e1]
      by_cases e2 : j = i + 1
      · rw [if_pos e2]
        by_cases e3 : k = i
        · rw [if_pos e3]; exact hnd _ _ (by omega) (by omega) (by omega)
        · rw [if_neg e3, if_neg (by omega)]; exact hnd _ _ (by omega) (by omega) (by omega)
      · rw [if_neg e2]
        by_cases e3 : k = i
        · rw [if_pos e3]; exact hnd _ _ (by omega) (by omega) (by omega)
        · rw [if_neg e3]
          by_cases e4 : k = i + 1
          · rw [if_pos e4]; exact hnd _ _ (by omega) (by omega) (by omega)
          · rw [if_neg e4]; exact hnd _ _ (by omega) (by omega) (by omega)

/-- a list of the call's own, to be written -/
def Wr (w : World) (g : Nat) (l : List Nat) : Prop := ∃ vs, OwnArr w g 3 vs ∧ vs.take l.length = iv (ints l) ∧ l.length ≤ vs.length
theorem Wr.of_out {B : Nat} {w : World} {g c : Nat} {l : List Nat} {m : Nat} (hm : l.length = m) (h : Out B w (.slice (some ⟨g, 0, none⟩) m c) (ints l)) (h0 : 0 < m) : Wr w g l := by
  obtain ⟨-, h2⟩ := h
  rcases h2 with ⟨e, -⟩ | ⟨k, cap, cur, e, -, hh, hn, -, -, ht⟩
  · cases e
  · simp only [Value.slice.injEq, Option.some.injEq, Addr.mk.injEq, and_true, true_and] at e
    obtain ⟨rfl, -, -⟩ := e
    rw [ints_length] at hn ht
    refine ⟨cur.toList, by unfold OwnArr; simpa using hh, by rw [Nat.mul_one] at ht; exact ht, ?_⟩
    have h1 : (cur.toList.take l.length).length = l.length := by rw [← Nat.mul_one l.length, ht, iv_length, ints_length, Nat.mul_one]
    rw [List.length_take] at h1
    omega
theorem Wr.lt {w : World} {g : Nat} {l : List Nat} (h : Wr w g l) : g < w.heap.size := by obtain ⟨_, h, -⟩ := h; exact h.lt
theorem Wr.cell {w : World} {g : Nat} {l : List Nat} (h : Wr w g l) {j : Nat} (hj : j < l.length) : w.cell? ⟨g, j, none⟩ = some (.int .i64 (lrow l j : Nat)) := by
  obtain ⟨vs, h, ht, -⟩ := h
  rw [h.cell]
  have e : (vs.take l.length)[j]? = vs[j]? := by rw [List.getElem?_take, if_pos hj]
  rw [← e, ht, iv_get (by rw [ints_length]; exact hj), ints_get hj]
theorem Wr.free {w : World} {g : Nat} {l : List Nat} (h : Wr w g l) (j : Nat) : w.frozen? ⟨g, j, none⟩ = false := by obtain ⟨_, h, -⟩ := h; exact h.free j
theorem Wr.below {w w' : World} {g : Nat} {l : List Nat} (h : Wr w g l) (hb : Below w.heap.size w w') : Wr w' g l := by
  obtain ⟨vs, h, r⟩ := h
  exact ⟨vs, h.below hb h.lt, r⟩
theorem Wr.drew {w : World} {g : Nat} {l : List Nat} (h : Wr w g l) : Wr w.drew g l := h
theorem Wr.set {w : World} {g : Nat} {l : List Nat} (h : Wr w g l) (i x : Nat) : Wr (w.setCell ⟨g, i, none⟩ (.int .i64 (x : Nat))) g (l.set i x) := by
  obtain ⟨vs, h, ht, hl⟩ := h
  refine ⟨_, h.set i _, ?_, by rw [List.length_set, List.length_set]; exact hl⟩
  rw [List.length_set, List.take_set, ht]
  unfold iv ints
  rw [List.map_set, List.map_set]
theorem Wr.rd {w : World} {g : Nat} {l : List Nat} (h : Wr w g l) : Ri 0 w.heap.size w (some ⟨g, 0, none⟩) (ints l) := by
  obtain ⟨vs, h, ht, -⟩ := h
  have := Rd.of_own h (Nat.zero_le g) h.lt (Nat.le_refl _) l.length
  rw [ht] at this
  exact this
theorem Wr.swap {w : World} {g : Nat} {l : List Nat} (h : Wr w g l) (i : Nat) : Wr ((w.setCell ⟨g, i, none⟩ (.int .i64 (lrow l (i + 1) : Nat))).setCell ⟨g, i + 1, none⟩ (.int .i64 (lrow l i : Nat))) g (swapM l i) :=
  (h.set i _).set (i + 1) _
end Go.Proofs.Ytohnjdlhgcemjaa
