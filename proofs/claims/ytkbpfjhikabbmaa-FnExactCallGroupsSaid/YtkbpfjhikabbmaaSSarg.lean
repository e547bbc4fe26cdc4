/- A list of lists among a law's arguments, opened. No condition. -/
import Derived.Test.YtkbpfjhikabbmaaRowArg
import Derived.Test.YtkbpfjhikabbmaaSSto
import Derived.Deep.Matrix
namespace Go.Proofs.Ytkbpfjhikabbmaa
open Go.Joins Go.ChangeShapes Go.WideShapes Go.RowKit Go.Deep

theorem cellsInts : Try.prog.cellsOf 33 = 1 := by kernel_rfl

set_option maxRecDepth 10000 in
theorem open_lists {H : Type} {enc : TypeId × Value → H} {W : World} {r : Reach} {b0 : Nat} {v : Value} {d : DataW H} {ps : List MemPlace} (hval : Value.okWide Try.prog W r b0 22 v)
    (h : DataW.Trod enc Try.prog W 0 (fun _ => true) true 22 v d ps) (hlt : ∀ x ∈ ps, x.block < W.heap.size) :
    ∃ (p : Option Addr) (cap : Nat) (Ls : List (List Int)), v = .slice p Ls.length cap ∧ RdS 0 W.heap.size W p Ls ∧ Ls.length ≤ 9223372036854775807 ∧ ∀ x ∈ Ls, x.length ≤ 9223372036854775807 := by
  obtain ⟨a1, len1, cap1, rfl⟩ := okWide_slice Try.underlying22 hval
  obtain ⟨fuel, h⟩ := h
  have hc0 : (Value.slice a1 len1 cap1).cells.toList = [.slice a1 len1 cap1] := rfl
  rw [hc0] at h
  rcases open_int_rows Try.underlying22 Try.underlying33 Try.underlying3 cellsInts cellsInt h with ⟨hcs, hx⟩ | ⟨ad, len, cap, A, L, C, Z, hcs, _, hl, hm, hx, hrows⟩
  · simp only [List.cons.injEq, and_true] at hcs
    rw [hcs]
    exact ⟨none, 0, [], rfl, ⟨[], Rd.nil _ _ _ _ (Nat.le_refl _), rfl, fun i x hx => by simp at hx⟩, by simp, fun x hx => by cases hx⟩
  · simp only [List.cons.injEq, and_true] at hcs
    rw [hcs]
    unfold maxLen at hm
    have hps : ps = MemPlace.row ad cap ++ (List.range cap).flatMap fun r => intRowPlaces (A r) (Z r) := (Prod.mk.inj hx).2
    have hLs : ((List.range len).map fun r => (Z r).take (L r)).length = len := by rw [List.length_map, List.length_range]
    have hzl : ∀ r, r < len → ((Z r).take (L r)).length = L r := by
      intro r hr
      obtain ⟨-, h1, -, h2, -⟩ := hrows r (by omega)
      rw [List.length_take]; omega
    refine ⟨some ad, cap, (List.range len).map fun r => (Z r).take (L r), by rw [hLs], ⟨(List.range len).map fun r => .slice (A r) (L r) (C r), ⟨Nat.le_refl _, fun h0 => ?_⟩, by rw [List.length_map, List.length_range, hLs], fun i x hi => ?_⟩, by rw [hLs]; omega, fun x hx' => ?_⟩
    · rw [List.length_map, List.length_range] at h0
      obtain ⟨b, off, spot⟩ := ad
      have hspot : spot = none := by simpa [Addr.add] using World.cell?_spot (hrows 0 (by omega)).1
      subst hspot
      refine ⟨b, off, rfl, Nat.zero_le _, hlt (.cell b off) ?_, fun i hi => ?_⟩
      · rw [hps]
        exact List.mem_append.2 (.inl (MemPlace.mem_row.2 ⟨0, by omega, by simp⟩))
      · rw [List.length_map, List.length_range] at hi
        have := (hrows i (by omega)).1
        rw [add_plain] at this
        rw [this, List.getElem?_map, List.getElem?_range hi]; rfl
    · have hil : i < len := by have := (List.getElem?_eq_some_iff.1 hi).1; rw [hLs] at this; exact this
      rw [List.getElem?_map, List.getElem?_range hil] at hi
      simp only [Option.map_some, Option.some.injEq] at hi
      subst hi
      refine ⟨A i, C i, ?_, ?_⟩
      · rw [List.getElem?_map, List.getElem?_range hil, hzl i hil]; rfl
      · obtain ⟨h1, h2, h3, h4, h5, h6, h7⟩ := hrows i (by omega)
        refine ⟨Nat.le_refl _, fun h0 => ?_⟩
        rw [iv_length, hzl i hil] at h0
        cases hA : A i with
        | none => have := h6 hA; omega
        | some a' =>
          obtain ⟨b', off', spot'⟩ := a'
          have hcell := (h7 _ hA).2
          have hspot : spot' = none := by simpa [Addr.add] using World.cell?_spot (hcell 0 (by omega))
          subst hspot
          refine ⟨b', off', rfl, Nat.zero_le _, hlt (.cell b' off') ?_, fun c hc => ?_⟩
          · rw [hps]
            refine List.mem_append.2 (.inr (List.mem_flatMap.2 ⟨i, List.mem_range.2 (by omega), ?_⟩))
            rw [hA]
            exact MemPlace.mem_row.2 ⟨0, by omega, by simp⟩
          · rw [iv_length, hzl i hil] at hc
            have := hcell c (by omega)
            rw [add_plain] at this
            rw [this, iv_get (by rw [hzl i hil]; exact hc), List.getElem?_take, if_pos hc]
            simp
    · obtain ⟨r, hr, rfl⟩ := List.mem_map.1 hx'
      have hr' := List.mem_range.1 hr
      rw [hzl r hr']
      obtain ⟨-, h1, h2, -⟩ := hrows r (by omega)
      unfold maxLen at h2
      omega
end Go.Proofs.Ytkbpfjhikabbmaa
