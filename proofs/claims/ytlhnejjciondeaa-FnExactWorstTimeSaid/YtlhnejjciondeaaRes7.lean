/- Chapter 7, spec side: spec.BoardTime, SitTimes, EnterTimes, WaitTimes, AisleAt, given spec.l7Start. -/
import Derived.Test.YtlhnejjciondeaaTim7
namespace Go.Proofs.Ytlhnejjciondeaa
open Go.RowKit

abbrev Start7 : Prop := ∀ (n : Nat) (w' : World), 1 ≤ n → n ≤ 10 → Calls Try.prog 59 #[.int .i64 (n : Nat)] w' (MadeCab w' n start7)
theorem IA.out {w : World} {g n B : Nat} {K : Nat → Nat} {F : Nat → Int} (h : IA w g n K F) (hB : B ≤ g) (hK : K g ≤ maxLen) : Out B w (.slice (some ⟨g, 0, none⟩) n (K g)) (frM F n) := by
  obtain ⟨vs, h, hl, hc⟩ := h
  have e : vs.take n = iv (frM F n) := by
    apply List.ext_getElem?
    intro i
    by_cases hi : i < n
    · rw [List.getElem?_take, if_pos hi, hc i hi, iv_get (by rw [frM_len]; exact hi)]
      unfold frM
      simp [hi]
    · rw [List.getElem?_eq_none (by rw [List.length_take]; omega), List.getElem?_eq_none (by rw [iv_length, frM_len]; omega)]
  refine ⟨by rw [iv_length, Nat.mul_one], .inr ⟨g, K g, vs.toArray, by rw [frM_len], hB, h, by rw [frM_len]; omega, hK, by rw [Nat.mul_one]; simp [hl.2], ?_⟩⟩
  rw [Nat.mul_one, frM_len]
  exact e

end Go.Proofs.Ytlhnejjciondeaa
