/- A list of numbers among a law's arguments, opened. No condition. -/
import Derived.Test.YtogdiahojbonaaaRowArg
namespace Go.Proofs.Ytogdiahojbonaaa
open Go.Joins Go.ChangeShapes Go.WideShapes Go.RowKit Go.Deep

set_option maxRecDepth 10000 in
theorem open_list {H : Type} {enc : TypeId × Value → H} {W : World} {r : Reach} {b0 : Nat} {v : Value} {d : DataW H} {ps : List MemPlace} (hval : Value.okWide Try.prog W r b0 22 v)
    (h : DataW.Trod enc Try.prog W 0 (fun _ => true) true 22 v d ps) (hlt : ∀ x ∈ ps, x.block < W.heap.size) :
    ∃ (p : Option Addr) (cap : Nat) (xs : List Int), v = .slice p xs.length cap ∧ Ri 0 W.heap.size W p xs ∧ xs.length ≤ 9223372036854775807 := by
  obtain ⟨a1, len1, cap1, rfl⟩ := okWide_slice Try.underlying22 hval
  obtain ⟨fuel, h⟩ := h
  have hc0 : (Value.slice a1 len1 cap1).cells.toList = [.slice a1 len1 cap1] := rfl
  rw [hc0] at h
  rcases open_ints Try.underlying22 Try.underlying3 cellsInt h with ⟨hcs, hx⟩ | ⟨ad, len, cap, zs, hcs, _, hl, hm, hz, hx, hcell, hwf⟩
  · simp only [List.cons.injEq, and_true] at hcs
    rw [hcs]
    exact ⟨none, 0, [], rfl, Rd.nil _ _ _ _ (Nat.le_refl _), by simp⟩
  · simp only [List.cons.injEq, and_true] at hcs
    rw [hcs]
    simp only [if_true] at hz
    unfold maxLen at hm
    have hlen : (zs.take len).length = len := by rw [List.length_take]; omega
    refine ⟨some ad, cap, zs.take len, by rw [hlen], ?_, by rw [hlen]; omega⟩
    refine ⟨Nat.le_refl _, fun h0 => ?_⟩
    rw [iv_length, hlen] at h0
    obtain ⟨b, off, spot⟩ := ad
    have hspot : spot = none := by simpa [Addr.add] using World.cell?_spot (hcell 0 (by omega))
    subst hspot
    have hps : ps = MemPlace.row ⟨b, off, none⟩ zs.length := (Prod.mk.inj hx).2
    refine ⟨b, off, rfl, Nat.zero_le _, hlt (.cell b off) ?_, fun i hi => ?_⟩
    · rw [hps]
      exact MemPlace.mem_row.2 ⟨0, by omega, by simp⟩
    · rw [iv_length, hlen] at hi
      have := hcell i (by omega)
      rw [add_plain] at this
      rw [this, iv_get (by rw [hlen]; exact hi), List.getElem?_take, if_pos hi]
      simp
end Go.Proofs.Ytogdiahojbonaaa
