/- Chapter 7, spec side: how a cabin begins in memory. Plain lemmas. -/
import Derived.Test.YtlhnejjciondeaaRnn7
import Derived.Test.YtlhnejjciondeaaApp
namespace Go.Proofs.Ytlhnejjciondeaa
open Go.RowKit

/-- the box of a cabin that begins -/
def Box7 (r0 n : Nat) (Z : List Value) (w : World) (gv : Value) (wx : World) : Prop := ∃ g c d e f, gv = .pointer (some ⟨g, 0, none⟩) ∧ OwnArr wx g 65 [.slice none 0 0, .slice none 0 0, .slice (some ⟨c, 0, none⟩) n n, .slice (some ⟨d, 0, none⟩) n n, .slice (some ⟨e, 0, none⟩) n n, .slice (some ⟨f, 0, none⟩) n n] ∧ (OwnArr wx c 3 Z ∧ OwnArr wx d 3 Z ∧ OwnArr wx e 3 Z ∧ OwnArr wx f 3 Z) ∧ (r0 < g ∧ r0 < c ∧ r0 < d ∧ r0 < e ∧ r0 < f) ∧ (c ≠ d ∧ c ≠ e ∧ c ≠ f ∧ d ≠ e ∧ d ≠ f ∧ e ≠ f) ∧ (g ≠ c ∧ g ≠ d ∧ g ≠ e ∧ g ≠ f) ∧ Below (r0 + 1) w wx
abbrev boxO (n c d e f : Nat) : Obj := .cells #[.slice none 0 0, .slice none 0 0, .slice (some ⟨c, 0, none⟩) n n, .slice (some ⟨d, 0, none⟩) n n, .slice (some ⟨e, 0, none⟩) n n, .slice (some ⟨f, 0, none⟩) n n] 65
abbrev five (w : World) (o0 o1 o2 o3 o4 : Obj) : World := (((((w.alloc o0).alloc o1).alloc o2).alloc o3).alloc o4).drew
theorem heap_last (w : World) (o : Obj) : (w.alloc o).heap[w.heap.size]? = some o := by
  show (w.heap.push o)[w.heap.size]? = _
  rw [Array.getElem?_push_size]
theorem heap_five (w : World) (o0 o1 o2 o3 o4 : Obj) :
    (five w o0 o1 o2 o3 o4).heap[w.heap.size]? = some o0 ∧ (five w o0 o1 o2 o3 o4).heap[w.heap.size + 1]? = some o1 ∧ (five w o0 o1 o2 o3 o4).heap[w.heap.size + 2]? = some o2 ∧ (five w o0 o1 o2 o3 o4).heap[w.heap.size + 3]? = some o3 ∧ (five w o0 o1 o2 o3 o4).heap[w.heap.size + 4]? = some o4 := by
  have e1 : (w.alloc o0).heap.size = w.heap.size + 1 := by simp
  have e2 : ((w.alloc o0).alloc o1).heap.size = w.heap.size + 2 := by simp
  have e3 : (((w.alloc o0).alloc o1).alloc o2).heap.size = w.heap.size + 3 := by simp
  have e4 : ((((w.alloc o0).alloc o1).alloc o2).alloc o3).heap.size = w.heap.size + 4 := by simp
  have h4 := heap_last ((((w.alloc o0).alloc o1).alloc o2).alloc o3) o4
  have h3 := heap_last (((w.alloc o0).alloc o1).alloc o2) o3
  have h2 := heap_last ((w.alloc o0).alloc o1) o2
  have h1 := heap_last (w.alloc o0) o1
  have h0 := heap_last w o0
  rw [e4] at h4
  rw [e3] at h3
  rw [e2] at h2
  rw [e1] at h1
  have p4 : ∀ g, g < w.heap.size + 4 → (five w o0 o1 o2 o3 o4).heap[g]? = ((((w.alloc o0).alloc o1).alloc o2).alloc o3).heap[g]? := fun g hg => Below.heap_alloc _ o4 g (by rw [e4]; exact hg)
  have p3 : ∀ g, g < w.heap.size + 3 → ((((w.alloc o0).alloc o1).alloc o2).alloc o3).heap[g]? = (((w.alloc o0).alloc o1).alloc o2).heap[g]? := fun g hg => Below.heap_alloc _ o3 g (by rw [e3]; exact hg)
  have p2 : ∀ g, g < w.heap.size + 2 → (((w.alloc o0).alloc o1).alloc o2).heap[g]? = ((w.alloc o0).alloc o1).heap[g]? := fun g hg => Below.heap_alloc _ o2 g (by rw [e2]; exact hg)
  have p1 : ∀ g, g < w.heap.size + 1 → ((w.alloc o0).alloc o1).heap[g]? = (w.alloc o0).heap[g]? := fun g hg => Below.heap_alloc _ o1 g (by rw [e1]; exact hg)
  refine ⟨?_, ?_, ?_, ?_, h4⟩
  · rw [p4 _ (by omega), p3 _ (by omega), p2 _ (by omega), p1 _ (by omega)]; exact h0
  · rw [p4 _ (by omega), p3 _ (by omega), p2 _ (by omega)]; exact h1
  · rw [p4 _ (by omega), p3 _ (by omega)]; exact h2
  · rw [p4 _ (by omega)]; exact h3
theorem below_five {w : World} {r0 : Nat} (hs : r0 + 1 ≤ w.heap.size) (o0 o1 o2 o3 o4 : Obj) : Below (r0 + 1) w (five w o0 o1 o2 o3 o4) :=
  ((((((Below.refl _ _).alloc hs _).alloc (by simp; omega) _).alloc (by simp; omega) _).alloc (by simp; omega) _).alloc (by simp; omega) _).drew
theorem close_five {w W : World} {r0 n g c d e f : Nat} {Z : List Value} (hs : r0 + 1 ≤ w.heap.size) (hb : Below (r0 + 1) w W)
    (hbox : W.heap[g]? = some (boxO n c d e f)) (hz : ∀ x, w.heap.size ≤ x → x < w.heap.size + 5 → x ≠ g → W.heap[x]? = some (.cells Z.toArray 3))
    (hr : (w.heap.size ≤ g ∧ g < w.heap.size + 5) ∧ (w.heap.size ≤ c ∧ c < w.heap.size + 5) ∧ (w.heap.size ≤ d ∧ d < w.heap.size + 5) ∧ (w.heap.size ≤ e ∧ e < w.heap.size + 5) ∧ (w.heap.size ≤ f ∧ f < w.heap.size + 5))
    (hd : (c ≠ d ∧ c ≠ e ∧ c ≠ f ∧ d ≠ e ∧ d ≠ f ∧ e ≠ f) ∧ (g ≠ c ∧ g ≠ d ∧ g ≠ e ∧ g ≠ f)) : Box7 r0 n Z w (.pointer (some ⟨g, 0, none⟩)) W := by
  refine ⟨g, c, d, e, f, rfl, hbox, ⟨hz c (by omega) (by omega) (by omega), hz d (by omega) (by omega) (by omega), hz e (by omega) (by omega) (by omega), hz f (by omega) (by omega) (by omega)⟩, by omega, hd.1, hd.2, hb⟩
section
variable {w : World} {r0 n c d e f : Nat} {Z : List Value}
def far5 (s g c d e f : Nat) : Prop := ((s ≤ g ∧ g < s + 5) ∧ (s ≤ c ∧ c < s + 5) ∧ (s ≤ d ∧ d < s + 5) ∧ (s ≤ e ∧ e < s + 5) ∧ (s ≤ f ∧ f < s + 5)) ∧ (c ≠ d ∧ c ≠ e ∧ c ≠ f ∧ d ≠ e ∧ d ≠ f ∧ e ≠ f) ∧ (g ≠ c ∧ g ≠ d ∧ g ≠ e ∧ g ≠ f)
theorem cases5 {P : Nat → Prop} {s g : Nat} (h0 : s ≠ g → P s) (h1 : s + 1 ≠ g → P (s + 1)) (h2 : s + 2 ≠ g → P (s + 2)) (h3 : s + 3 ≠ g → P (s + 3)) (h4 : s + 4 ≠ g → P (s + 4)) : ∀ x, s ≤ x → x < s + 5 → x ≠ g → P x := by
  intro x h h' hg
  rcases (by omega : x = s ∨ x = s + 1 ∨ x = s + 2 ∨ x = s + 3 ∨ x = s + 4) with rfl | rfl | rfl | rfl | rfl
  · exact h0 hg
  · exact h1 hg
  · exact h2 hg
  · exact h3 hg
  · exact h4 hg
theorem close_0 (hs : r0 + 1 ≤ w.heap.size) (h : far5 w.heap.size w.heap.size c d e f) : Box7 r0 n Z w (.pointer (some ⟨w.heap.size, 0, none⟩)) (five w (boxO n c d e f) (.cells Z.toArray 3) (.cells Z.toArray 3) (.cells Z.toArray 3) (.cells Z.toArray 3)) := by
  obtain ⟨h0, h1, h2, h3, h4⟩ := heap_five w (boxO n c d e f) (.cells Z.toArray 3) (.cells Z.toArray 3) (.cells Z.toArray 3) (.cells Z.toArray 3)
  exact close_five hs (below_five hs _ _ _ _ _) h0 (cases5 (fun e => absurd rfl e) (fun _ => h1) (fun _ => h2) (fun _ => h3) (fun _ => h4)) h.1 h.2
theorem close_1 (hs : r0 + 1 ≤ w.heap.size) (h : far5 w.heap.size (w.heap.size + 1) c d e f) : Box7 r0 n Z w (.pointer (some ⟨w.heap.size + 1, 0, none⟩)) (five w (.cells Z.toArray 3) (boxO n c d e f) (.cells Z.toArray 3) (.cells Z.toArray 3) (.cells Z.toArray 3)) := by
  obtain ⟨h0, h1, h2, h3, h4⟩ := heap_five w (.cells Z.toArray 3) (boxO n c d e f) (.cells Z.toArray 3) (.cells Z.toArray 3) (.cells Z.toArray 3)
  exact close_five hs (below_five hs _ _ _ _ _) h1 (cases5 (fun _ => h0) (fun e => absurd rfl e) (fun _ => h2) (fun _ => h3) (fun _ => h4)) h.1 h.2
theorem close_2 (hs : r0 + 1 ≤ w.heap.size) (h : far5 w.heap.size (w.heap.size + 1 + 1) c d e f) : Box7 r0 n Z w (.pointer (some ⟨w.heap.size + 1 + 1, 0, none⟩)) (five w (.cells Z.toArray 3) (.cells Z.toArray 3) (boxO n c d e f) (.cells Z.toArray 3) (.cells Z.toArray 3)) := by
  obtain ⟨h0, h1, h2, h3, h4⟩ := heap_five w (.cells Z.toArray 3) (.cells Z.toArray 3) (boxO n c d e f) (.cells Z.toArray 3) (.cells Z.toArray 3)
  exact close_five hs (below_five hs _ _ _ _ _) h2 (cases5 (fun _ => h0) (fun _ => h1) (fun e => absurd rfl e) (fun _ => h3) (fun _ => h4)) h.1 h.2
theorem close_3 (hs : r0 + 1 ≤ w.heap.size) (h : far5 w.heap.size (w.heap.size + 1 + 1 + 1) c d e f) : Box7 r0 n Z w (.pointer (some ⟨w.heap.size + 1 + 1 + 1, 0, none⟩)) (five w (.cells Z.toArray 3) (.cells Z.toArray 3) (.cells Z.toArray 3) (boxO n c d e f) (.cells Z.toArray 3)) := by
  obtain ⟨h0, h1, h2, h3, h4⟩ := heap_five w (.cells Z.toArray 3) (.cells Z.toArray 3) (.cells Z.toArray 3) (boxO n c d e f) (.cells Z.toArray 3)
  exact close_five hs (below_five hs _ _ _ _ _) h3 (cases5 (fun _ => h0) (fun _ => h1) (fun _ => h2) (fun e => absurd rfl e) (fun _ => h4)) h.1 h.2
theorem close_4 (hs : r0 + 1 ≤ w.heap.size) (h : far5 w.heap.size (w.heap.size + 1 + 1 + 1 + 1) c d e f) : Box7 r0 n Z w (.pointer (some ⟨w.heap.size + 1 + 1 + 1 + 1, 0, none⟩)) (five w (.cells Z.toArray 3) (.cells Z.toArray 3) (.cells Z.toArray 3) (.cells Z.toArray 3) (boxO n c d e f)) := by
  obtain ⟨h0, h1, h2, h3, h4⟩ := heap_five w (.cells Z.toArray 3) (.cells Z.toArray 3) (.cells Z.toArray 3) (.cells Z.toArray 3) (boxO n c d e f)
  exact close_five hs (below_five hs _ _ _ _ _) h4 (cases5 (fun _ => h0) (fun _ => h1) (fun _ => h2) (fun _ => h3) (fun e => absurd rfl e)) h.1 h.2
end
end Go.Proofs.Ytlhnejjciondeaa
