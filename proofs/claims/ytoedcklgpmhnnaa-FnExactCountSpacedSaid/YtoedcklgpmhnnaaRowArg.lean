/- A Row among a law's arguments, opened: its fields and the numbers that its slice shows. No condition. -/
import Derived.Test.YtoedcklgpmhnnaaRowHelp
import Derived.Lib.SmallJoins
namespace Go.Proofs.Ytoedcklgpmhnnaa
open Go.Joins Go.ChangeShapes Go.WideShapes Go.RowKit Go.Deep

theorem cellsRow : Try.prog.cellsOf 24 = 3 := by kernel_rfl
theorem cellsInt : Try.prog.cellsOf 3 = 1 := by kernel_rfl

theorem lit_i64 {z : Int} (h : (Lit.int .i64 z).wf = true) : -9223372036854775808 ≤ z ∧ z ≤ 9223372036854775807 := by
  have e1 : IntKind.i64.min = -9223372036854775808 := by decide
  have e2 : IntKind.i64.max = 9223372036854775807 := by decide
  simp only [Lit.wf, Bool.and_eq_true, decide_eq_true_eq, e1, e2] at h
  exact h

set_option maxRecDepth 10000 in
theorem open_row {H : Type} {enc : TypeId × Value → H} {W : World} {r : Reach} {b0 : Nat} {v : Value} {d : DataW H} {ps : List MemPlace}
    (hval : Value.okWide Try.prog W r b0 24 v) (h : DataW.Trod enc Try.prog W 0 (fun _ => true) true 24 v d ps) (hlt : ∀ x ∈ ps, x.block < W.heap.size) :
    ∃ (s : Int) (ring : Bool) (p : Option Addr) (cap : Nat) (xs : List Int), v = rowV s ring p xs.length cap ∧ Ri 0 W.heap.size W p xs ∧ xs.length ≤ 9223372036854775807 ∧ (-9223372036854775808 ≤ s ∧ s ≤ 9223372036854775807) ∧ (∀ x ∈ xs, -9223372036854775808 ≤ x ∧ x ≤ 9223372036854775807) := by
  obtain ⟨v0, v1, v2, y0, y1, y2, n, rfl, _, rfl, h0, h1, h2⟩ := open_agg3 Try.underlying24 (by kernel_rfl) cellsRow hval h
  obtain ⟨s, hs, _, ws⟩ := DataW.trod_int Try.underlying3 h0
  obtain ⟨ring, hr, _⟩ := DataW.trod_bool Try.underlying4 h1
  simp only [List.cons.injEq, and_true] at hs hr
  subst hs; subst hr
  rcases open_ints Try.underlying22 Try.underlying3 cellsInt h2 with ⟨hcs, hx⟩ | ⟨ad, len, cap, zs, hcs, _, hl, hm, hz, hx, hcell, hwf⟩
  · simp only [List.cons.injEq, and_true] at hcs
    subst hcs
    exact ⟨s, ring, none, 0, [], rfl, Rd.nil _ _ _ _ (Nat.le_refl _), by simp, lit_i64 ws, fun x hx => by cases hx⟩
  · simp only [List.cons.injEq, and_true] at hcs
    subst hcs
    simp only [if_true] at hz
    unfold maxLen at hm
    have hlen : (zs.take len).length = len := by rw [List.length_take]; omega
    refine ⟨s, ring, some ad, cap, zs.take len, by rw [hlen], ?_, by rw [hlen]; omega, lit_i64 ws, fun x hx => lit_i64 (hwf x (List.mem_of_mem_take hx))⟩
    refine ⟨Nat.le_refl _, fun h0 => ?_⟩
    rw [iv_length, hlen] at h0
    obtain ⟨b, off, spot⟩ := ad
    have hspot : spot = none := by simpa [Addr.add] using World.cell?_spot (hcell 0 (by omega))
    subst hspot
    refine ⟨b, off, rfl, Nat.zero_le _, hlt (.cell b off) ?_, fun i hi => ?_⟩
    · rw [hx]
      simp only [List.mem_append]
      exact Or.inr (Or.inr (MemPlace.mem_row.2 ⟨0, by omega, by simp⟩))
    · rw [iv_length, hlen] at hi
      have := hcell i (by omega)
      rw [add_plain] at this
      rw [this, iv_get (by rw [hlen]; exact hi), List.getElem?_take, if_pos hi]
      simp
end Go.Proofs.Ytoedcklgpmhnnaa
