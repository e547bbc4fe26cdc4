/- A row of numbers of the call's own that is written to: its cells. Plain lemmas. -/
import Derived.Test.YtoedcklgpmhnnaaNe
namespace Go.Proofs.Ytoedcklgpmhnnaa
open Go.RowKit

theorem out_arr9 {w : World} {g B : Nat} {xs : List Int} {n : Nat} (h : OwnArr w g 3 (iv xs)) (hB : B ≤ g) (hn : xs.length = n) (hl : n ≤ 1000) : Out B w (.slice (some ⟨g, 0, none⟩) n n) xs := by
  subst hn
  exact ⟨by rw [iv_length]; omega, .inr ⟨g, xs.length, _, rfl, hB, h, Nat.le_refl _, by unfold maxLen; omega, by simp [iv], by rw [Nat.mul_one]; exact List.take_of_length_le (by show (iv xs).length ≤ xs.length; rw [iv_length]; exact Nat.le_refl _)⟩⟩
/-- what is read of it, and that it may be written -/
theorem Out.at9 {B : Nat} {w : World} {g n c : Nat} {xs : List Int} (h : Out B w (.slice (some ⟨g, 0, none⟩) n c) xs) {i : Nat} (hi : i < xs.length) : w.cell? ⟨g, i, none⟩ = some (.int .i64 (xs[i]?.getD 0)) ∧ w.frozen? ⟨g, i, none⟩ = false := by
  obtain ⟨p, cap, e, -, -, hR, hW⟩ := h.rd
  simp only [Value.slice.injEq] at e
  obtain ⟨rfl, rfl, rfl⟩ := e
  refine ⟨?_, ?_⟩
  · obtain ⟨b, off, e, -, -, -, hc⟩ := hR.int (by omega)
    simp only [Option.some.injEq, Addr.mk.injEq, and_true] at e
    obtain ⟨rfl, rfl⟩ := e
    have := hc i hi
    rwa [Nat.zero_add] at this
  · obtain ⟨g', ys, e, -, -, ho, -⟩ := hW.arr (by omega)
    simp only [Option.some.injEq, Addr.mk.injEq, and_true] at e
    obtain ⟨rfl, -⟩ := e
    exact ho.free i
theorem Out.in9 {B : Nat} {w : World} {g n c : Nat} {xs : List Int} (h : Out B w (.slice (some ⟨g, 0, none⟩) n c) xs) : B ≤ g ∧ g < w.heap.size ∧ n ≤ c ∧ c ≤ maxLen ∧ n = xs.length := by
  rcases h.2 with ⟨e, -⟩ | ⟨g', cap, cur, e, hB, hh, hn, hc, -⟩
  · cases e
  · simp only [Value.slice.injEq, Option.some.injEq, Addr.mk.injEq, and_true] at e
    obtain ⟨rfl, e2, rfl⟩ := e
    exact ⟨hB, (Array.getElem?_eq_some_iff.1 hh).1, by omega, hc, e2⟩
/-- .. and it is written -/
theorem Out.set9 {B : Nat} {w : World} {g n c : Nat} {xs : List Int} (h : Out B w (.slice (some ⟨g, 0, none⟩) n c) xs) {k : Nat} (y : Int) : Out B (w.setCell ⟨g, k, none⟩ (.int .i64 y)) (.slice (some ⟨g, 0, none⟩) n c) (xs.set k y) := by
  obtain ⟨hl, h⟩ := h
  have e1 : iv (xs.set k y) = (iv xs).set k (.int .i64 y) := by
    unfold iv; rw [List.map_set]
  show World.ownsRow _ _ _ _ _ (xs.set k y).length (iv (xs.set k y))
  rw [List.length_set, e1]
  refine ⟨by rw [List.length_set]; exact hl, ?_⟩
  rcases h with ⟨e, -⟩ | ⟨g', cap, cur, e, hB, hh, hn, hc, hs, ht⟩
  · cases e
  · have e' := e
    simp only [Value.slice.injEq, Option.some.injEq, Addr.mk.injEq, and_true] at e'
    obtain ⟨rfl, e2, rfl⟩ := e'
    have ho : OwnArr w g 3 cur.toList := hh
    have hs2 := ho.set k (.int .i64 y)
    refine .inr ⟨g, c, (cur.toList.set k (.int .i64 y)).toArray, e, hB, hs2, hn, hc, by simpa using hs, ?_⟩
    rw [List.toList_toArray, List.take_set, ht]
end Go.Proofs.Ytoedcklgpmhnnaa
