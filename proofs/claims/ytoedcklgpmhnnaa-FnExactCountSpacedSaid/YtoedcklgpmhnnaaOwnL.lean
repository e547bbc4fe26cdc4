/- spec.l1Own and spec.l1Put. -/
import Derived.Test.YtoedcklgpmhnnaaApp
import Derived.Deep.AppendLies
import Derived.BigQuiet
import Derived.Deep.QuietTactic
namespace Go.Proofs.Ytoedcklgpmhnnaa
open Go.RowKit

theorem Out.some' {B : Nat} {w : World} {v : Value} {xs : List Int} (h : Out B w v xs) (hv : ¬ v = .slice none 0 0) : ∃ g cap, v = .slice (some ⟨g, 0, none⟩) xs.length cap ∧ B ≤ g ∧ g < w.heap.size ∧ xs.length ≤ cap ∧ cap ≤ maxLen := by
  rcases h.2 with ⟨h1, _⟩ | ⟨g, cap, cur, h1, h2, h3, h4, h5, _⟩
  · exact absurd h1 hv
  · refine ⟨g, cap, h1, h2, ?_, h4, h5⟩
    rcases Nat.lt_or_ge g w.heap.size with h' | h'
    · exact h'
    · rw [Array.getElem?_eq_none h'] at h3; cases h3

set_option maxHeartbeats 400000 in
theorem l1Own_any (p : Option Addr) (cap : Nat) (xs : List Int) (w : World) (lo hi : Nat) (hin : Ri lo hi w p xs) (hlen : xs.length ≤ 1000) :
    Calls Try.prog 80 #[.slice p xs.length cap] w fun e w' => ∃ g c, e = .returned (.slice (some ⟨g, 0, none⟩) xs.length c) ∧ w.heap.size ≤ g ∧ xs.length ≤ c ∧ c ≤ maxLen ∧ Out w.heap.size w' (.slice (some ⟨g, 0, none⟩) xs.length c) xs ∧ Below w.heap.size w w' := by
  have hO := Out.nilLit w
  have hb : Below w.heap.size w (w.alloc (.cells #[] 3)) := (Below.refl _ w).alloc (Nat.le_refl _) _
  have hI := hin.bel hb
  obtain ⟨w1, hw1⟩ : ∃ w1, w1 = w.alloc (.cells #[] 3) := ⟨_, rfl⟩
  rw [← hw1] at hO hb hI
  have hs1 : w.heap.size ≤ w1.heap.size := by rw [hw1]; simp
  replace hO := Lib.hid hO
  replace hb := Lib.hid hb
  replace hI := Lib.hid hI
  clear hin
  subst hw1
  go_enter Try.func80, Try.ntmps80
  go_wp2_with (at_builtin; refine wpList_app rfl _ _ rfl w.heap.size (.slice (some ⟨w.heap.size, 0, none⟩) 0 0) [] rfl hO.out _ _ _ _ _ _ rfl hI.out rfl (by simp; omega) hs1 ?_; intro v' w3 hO3 hg3 hn3)
  rw [List.nil_append] at hO3
  obtain ⟨g, c, rfl, h1, h2, h3, h4⟩ := hO3.some' (by intro h; have := hn3.1 h; simp at this)
  go_wp2_with fail
  go_ret
  refine ⟨g, c, rfl, h1, h3, h4, hO3, ?_⟩
  exact hb.out.grown hg3 hs1 (fun k hk => by simp [Value.ownBlock] at hk; omega)
end Go.Proofs.Ytoedcklgpmhnnaa
