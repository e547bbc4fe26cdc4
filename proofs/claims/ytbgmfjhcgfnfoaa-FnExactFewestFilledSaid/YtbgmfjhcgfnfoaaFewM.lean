/- How many seats can be added, as mathematics: sums over blocks. Plain lemmas. -/
import Derived.Test.YtbgmfjhcgfnfoaaRunsI
namespace Go.Proofs.Ytbgmfjhcgfnfoaa
open Go.RowKit

def lowR (R : List (Nat × Nat)) : Nat := (R.map fun x => (x.2 + 2) / 3).sum
def hiOne (s : Int) (ring : Bool) (d : Nat) : Nat := if ring && decide ((d : Int) = s) then d / 2 else (d + 1) / 2
def highR (s : Int) (ring : Bool) (R : List (Nat × Nat)) : Nat := (R.map fun x => hiOne s ring x.2).sum
theorem low_step {R : List (Nat × Nat)} {k : Nat} (h : k < R.length) : lowR (R.take (k + 1)) = lowR (R.take k) + ((R[k]?.getD (0, 0)).2 + 2) / 3 := by
  unfold lowR
  rw [List.take_succ_eq_append_getElem h, List.map_append, List.sum_append, List.getElem?_eq_getElem h]; simp
theorem high_step {s : Int} {ring : Bool} {R : List (Nat × Nat)} {k : Nat} (h : k < R.length) : highR s ring (R.take (k + 1)) = highR s ring (R.take k) + hiOne s ring (R[k]?.getD (0, 0)).2 := by
  unfold highR
  rw [List.take_succ_eq_append_getElem h, List.map_append, List.sum_append, List.getElem?_eq_getElem h]; simp
theorem sum_le {α : Type} (f : α → Nat) : ∀ (R : List α) (_ : ∀ x ∈ R, f x ≤ 12), (R.map f).sum ≤ R.length * 12 := by
  intro R
  induction R with
  | nil => intro _; simp
  | cons y t ih =>
    intro h
    have h1 := h y (by simp)
    have h2 := ih (fun x hx => h x (by simp [hx]))
    simp only [List.map_cons, List.sum_cons, List.length_cons]
    omega
theorem low_le {R : List (Nat × Nat)} (k : Nat) (hd : ∀ x ∈ R, x.2 ≤ 12) : lowR (R.take k) ≤ k * 12 := by
  have h := sum_le (fun x : Nat × Nat => (x.2 + 2) / 3) (R.take k) (fun x hx => by have := hd x (List.mem_of_mem_take hx); omega)
  have := List.length_take_le k R
  unfold lowR
  omega
theorem high_le {s : Int} {ring : Bool} {R : List (Nat × Nat)} (k : Nat) (hd : ∀ x ∈ R, x.2 ≤ 12) : highR s ring (R.take k) ≤ k * 12 := by
  have h := sum_le (fun x : Nat × Nat => hiOne s ring x.2) (R.take k) (fun x hx => by have := hd x (List.mem_of_mem_take hx); show hiOne s ring x.2 ≤ 12; unfold hiOne; split <;> omega)
  have := List.length_take_le k R
  unfold highR
  omega
theorem prs_length (R : List (Nat × Nat)) : (prs R).length = R.length := by unfold prs; rw [List.length_map]
theorem prs_get {R : List (Nat × Nat)} {k : Nat} (h : k < R.length) : (prs R)[k]?.getD (0, 0) = (((R[k]?.getD (0, 0)).1 : Int), ((R[k]?.getD (0, 0)).2 : Int)) := by
  unfold prs
  rw [List.getElem?_map, List.getElem?_eq_getElem h]; rfl
theorem pair_mem {R : List (Nat × Nat)} {k : Nat} (h : k < R.length) : R[k]?.getD (0, 0) ∈ R := by
  rw [List.getElem?_eq_getElem h]; exact List.getElem_mem h
/-- a slice of pairs that are natural numbers -/
theorem Rd.prs {lo hi : Nat} {w : World} {p : Option Addr} {R : List (Nat × Nat)} (h : Rd lo hi w p (pcs (prs R))) (h0 : 0 < R.length) :
    ∃ b off, p = some ⟨b, off, none⟩ ∧ lo ≤ b ∧ b < w.heap.size ∧ ∀ i, i < R.length → w.cell? ⟨b, off + i * 2, none⟩ = some (.int .i64 ((R[i]?.getD (0, 0)).1 : Nat)) ∧ w.cell? ⟨b, off + i * 2 + 1, none⟩ = some (.int .i64 ((R[i]?.getD (0, 0)).2 : Nat)) := by
  obtain ⟨b, off, e, h1, -, h2, hc⟩ := h.pair (by rw [prs_length]; exact h0)
  refine ⟨b, off, e, h1, h2, fun i hi => ?_⟩
  have := hc i (by rw [prs_length]; exact hi)
  rwa [prs_get hi] at this
theorem runs_le {n : Nat} {ring : Bool} {S : Nat → Bool} (hn : n ≤ 12) : ∀ x ∈ runsM n ring S, x.2 ≤ 12 := by
  intro x hx
  unfold runsM at hx
  obtain ⟨p, -, rfl⟩ := List.mem_map.1 hx
  have := runM_le n ring S p
  show runM n ring S p ≤ 12
  omega
theorem runs_len (n : Nat) (ring : Bool) (S : Nat → Bool) : (runsM n ring S).length ≤ n := by
  unfold runsM
  rw [List.length_map]; exact tk_length_le n _
/-- what a step of the sums needs of machine numbers -/
theorem few_nums {d lo hi : Nat} (hd : d ≤ 12) (hl : lo ≤ 300) (hh : hi ≤ 300) :
    IntKind.i64.wrap ((d : Int) + 2) = (d : Int) + 2 ∧ Int.tdiv ((d : Int) + 2) 3 = (((d + 2) / 3 : Nat) : Int) ∧ IntKind.i64.wrap (((d + 2) / 3 : Nat) : Int) = (((d + 2) / 3 : Nat) : Int) ∧ IntKind.i64.wrap ((lo : Int) + (((d + 2) / 3 : Nat) : Int)) = ((lo + (d + 2) / 3 : Nat) : Int) ∧
    Int.tdiv (d : Int) 2 = ((d / 2 : Nat) : Int) ∧ IntKind.i64.wrap ((d / 2 : Nat) : Int) = ((d / 2 : Nat) : Int) ∧ IntKind.i64.wrap ((hi : Int) + ((d / 2 : Nat) : Int)) = ((hi + d / 2 : Nat) : Int) ∧
    IntKind.i64.wrap ((d : Int) + 1) = (d : Int) + 1 ∧ Int.tdiv ((d : Int) + 1) 2 = (((d + 1) / 2 : Nat) : Int) ∧ IntKind.i64.wrap (((d + 1) / 2 : Nat) : Int) = (((d + 1) / 2 : Nat) : Int) ∧ IntKind.i64.wrap ((hi : Int) + (((d + 1) / 2 : Nat) : Int)) = ((hi + (d + 1) / 2 : Nat) : Int) := by
  have a1 : (d + 2) / 3 ≤ 12 := by omega
  have a2 : d / 2 ≤ 12 := by omega
  have a3 : (d + 1) / 2 ≤ 12 := by omega
  refine ⟨IntWalk.i64_in _ (by omega), ?_, IntWalk.i64_in _ (by omega), ?_, ?_, IntWalk.i64_in _ (by omega), ?_, IntWalk.i64_in _ (by omega), ?_, IntWalk.i64_in _ (by omega), ?_⟩
  · rw [Int.tdiv_eq_ediv_of_nonneg (by omega)]; omega
  · rw [IntWalk.i64_in _ (by omega)]; omega
  · rw [Int.tdiv_eq_ediv_of_nonneg (by omega)]; omega
  · rw [IntWalk.i64_in _ (by omega)]; omega
  · rw [Int.tdiv_eq_ediv_of_nonneg (by omega)]; omega
  · rw [IntWalk.i64_in _ (by omega)]; omega
end Go.Proofs.Ytbgmfjhcgfnfoaa
