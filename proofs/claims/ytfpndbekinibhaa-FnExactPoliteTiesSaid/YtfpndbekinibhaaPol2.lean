/- When newcomers stop settling: polite seats of farness at least 2, as the specification asks for them. Plain lemmas. -/
import Derived.Test.YtfpndbekinibhaaOrdM
namespace Go.Proofs.Ytfpndbekinibhaa

theorem mostM_max (f : Nat → Nat) (l : List Nat) (b : Nat) : mostM f l b = max b (mostM f l 0) := by
  obtain ⟨h1, h2⟩ := mostM_ge f l b
  obtain ⟨-, h3⟩ := mostM_ge f l 0
  apply Nat.le_antisymm
  · exact mostM_le f l b _ (Nat.le_max_left _ _) fun p hp => Nat.le_trans (h3 p hp) (Nat.le_max_right _ _)
  · exact Nat.max_le.2 ⟨h1, mostM_le f l 0 _ (Nat.zero_le _) h2⟩
theorem polM_max (n : Nat) (ring : Bool) (S : Nat → Bool) (b : Nat) : polM n ring S b = atM (farM n ring (tk n S)) (tk n fun q => !S q) (max b (mostM (farM n ring (tk n S)) (tk n fun q => !S q) 0)) := by
  unfold polM
  rw [mostM_max]
/-- the farness of a polite seat is the greatest one -/
theorem polS_far {n : Nat} {ring : Bool} {S : Nat → Bool} {x : Nat} (h : x ∈ polS n ring S) : farM n ring (tk n S) x = mostM (farM n ring (tk n S)) (tk n fun q => !S q) 0 := by
  rw [← pol_same] at h
  unfold polM atM at h
  simpa using (List.mem_filter.1 h).2
theorem pol2_far {n : Nat} {ring : Bool} {S : Nat → Bool} {x : Nat} (h : x ∈ polS n ring S) (h2 : 2 ≤ farM n ring (tk n S) x) : polM n ring S 2 = polS n ring S := by
  rw [← pol_same, polM_max, polM_max, ← polS_far h]
  congr 1
  omega
theorem pol2_near {n : Nat} {ring : Bool} {S : Nat → Bool} {x : Nat} (h : x ∈ polS n ring S) (h2 : farM n ring (tk n S) x < 2) : polM n ring S 2 = [] := by
  rw [polM_max, ← polS_far h]
  unfold atM
  rw [List.filter_eq_nil_iff]
  intro p hp
  have h3 := (mostM_ge (farM n ring (tk n S)) (tk n fun q => !S q) 0).2 p hp
  rw [← polS_far h] at h3
  simp; omega
theorem pol2_none {n : Nat} {ring : Bool} {S : Nat → Bool} (h : polS n ring S = []) : polM n ring S 2 = [] := by
  rw [← pol_same] at h
  unfold polM at *
  obtain ⟨F, hF⟩ : ∃ F, (tk n fun q => !S q) = F := ⟨_, rfl⟩
  rw [hF] at h ⊢
  have hpos : ∀ p ∈ F, 1 ≤ farM n ring (tk n S) p := fun p hp => by
    rw [← hF] at hp
    obtain ⟨h1, h2⟩ := mem_tk.1 hp
    exact far_free h1 (by simpa using h2)
  cases F with
  | nil => rfl
  | cons y t =>
    exfalso
    have h1 := (mostM_ge (farM n ring (tk n S)) (y :: t) 0).2 y (by simp)
    have h2 := hpos y (by simp)
    rcases mostM_is (farM n ring (tk n S)) (y :: t) 0 with e | ⟨p, hp, e⟩
    · omega
    · have : p ∈ atM (farM n ring (tk n S)) (y :: t) (mostM (farM n ring (tk n S)) (y :: t) 0) := by
        rw [e]
        unfold atM
        exact List.mem_filter.2 ⟨hp, by simp⟩
      rw [h] at this
      cases this
/-- newcomers who settle: the specification's stop and step, by the head of the polite seats -/
theorem settle_stop {n : Nat} {ring : Bool} {S : Nat → Bool} (h : (polS n ring S).length = 0 ∨ farM n ring (tk n S) ((polS n ring S)[0]?.getD 0) < 2) : (polM n ring S 2).length = 0 := by
  by_cases h0 : (polS n ring S).length = 0
  · rw [pol2_none (List.length_eq_zero_iff.1 h0)]; rfl
  · have hm : (polS n ring S)[0]?.getD 0 ∈ polS n ring S := by
      rw [List.getElem?_eq_getElem (by omega)]; exact List.getElem_mem (by omega)
    rw [pol2_near hm (by rcases h with h | h <;> omega)]; rfl
theorem settle_step {n : Nat} {ring : Bool} {S : Nat → Bool} (h0 : ¬ (polS n ring S).length = 0) (h : ¬ farM n ring (tk n S) ((polS n ring S)[0]?.getD 0) < 2) : polM n ring S 2 = polS n ring S ∧ headM n ring 2 S = (polS n ring S)[0]?.getD 0 := by
  have hm : (polS n ring S)[0]?.getD 0 ∈ polS n ring S := by
    rw [List.getElem?_eq_getElem (by omega)]; exact List.getElem_mem (by omega)
  have e := pol2_far hm (by omega)
  exact ⟨e, by unfold headM; rw [e]⟩
end Go.Proofs.Ytfpndbekinibhaa
