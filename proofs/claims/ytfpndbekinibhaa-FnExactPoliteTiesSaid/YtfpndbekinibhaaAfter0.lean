/- Free seats and polite ones. Plain lemmas, and what newcomers need. -/
import Derived.Test.YtfpndbekinibhaaWel
import Derived.Test.YtfpndbekinibhaaWith
import Derived.Test.YtfpndbekinibhaaPolS
namespace Go.Proofs.Ytfpndbekinibhaa
open Go.RowKit

theorem full_iff (n : Nat) (S : Nat → Bool) : (tk n S).length = n ↔ (tk n fun q => !S q) = [] := by
  unfold tk
  rw [List.filter_eq_nil_iff]
  have h := List.length_filter_eq_length_iff (p := S) (l := List.range n)
  rw [List.length_range] at h
  rw [h]
  simp
theorem polS_free {n : Nat} {ring : Bool} {S : Nat → Bool} (h : ¬ (tk n S).length = n) : 0 < (polS n ring S).length := by
  rw [← pol_same]
  unfold polM
  obtain ⟨F, hF⟩ : ∃ F, (tk n fun q => !S q) = F := ⟨_, rfl⟩
  have hne : ¬ F = [] := fun e => h ((full_iff n S).2 (by rw [hF]; exact e))
  have hpos : ∀ p ∈ F, 1 ≤ farM n ring (tk n S) p := fun p hp => by
    rw [← hF] at hp
    obtain ⟨h1, h2⟩ := mem_tk.1 hp
    exact far_free h1 (by simpa using h2)
  rw [hF]
  obtain ⟨x, hx⟩ := List.exists_mem_of_ne_nil F hne
  have h1 := (mostM_ge (farM n ring (tk n S)) F 0).2 x hx
  have h2 := hpos x hx
  rcases mostM_is (farM n ring (tk n S)) F 0 with e | ⟨p, hp, e⟩
  · omega
  · rw [e]
    exact List.length_pos_of_mem (a := p) (by unfold atM; simp [hp])

end Go.Proofs.Ytfpndbekinibhaa
