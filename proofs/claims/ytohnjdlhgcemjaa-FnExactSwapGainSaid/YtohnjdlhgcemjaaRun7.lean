/- Chapter 7, spec side: spec.l7Run, given spec.l7Start. -/
import Derived.Test.YtohnjdlhgcemjaaAct7
import Derived.Test.YtohnjdlhgcemjaaHasS
import Derived.StillTailTactics
namespace Go.Proofs.Ytohnjdlhgcemjaa
open Go.RowKit

theorem act_wa (s t : Int) (row : Nat) (c : Cab) (r : Nat) : c.wa r ≤ (act7 s t row c).wa r ∧ (act7 s t row c).wa r ≤ c.wa r + 1 := by
  unfold act7
  repeat' split
  all_goals first
    | (refine ⟨Int.le_refl _, ?_⟩; show c.wa r ≤ _; omega)
    | (show c.wa r ≤ updI c.wa row (c.wa row + 1) r ∧ updI c.wa row (c.wa row + 1) r ≤ c.wa r + 1
       by_cases e : r = row
       · rw [e, upd_at]; omega
       · rw [upd_ne e]; omega)
theorem unit_wa (s t : Int) (r : Nat) : ∀ (l : List Nat) (c : Cab), c.wa r ≤ (unit7 s t l c).wa r ∧ (unit7 s t l c).wa r ≤ c.wa r + (l.length : Int)
  | [], c => by show c.wa r ≤ c.wa r ∧ c.wa r ≤ c.wa r + ((0 : Nat) : Int); omega
  | x :: l, c => by
    have h1 := act_wa s t x c r
    have h2 := unit_wa s t r l (act7 s t x c)
    show c.wa r ≤ (unit7 s t l (act7 s t x c)).wa r ∧ (unit7 s t l (act7 s t x c)).wa r ≤ c.wa r + ((l.length + 1 : Nat) : Int)
    push_cast
    omega
theorem cab_wa (s : Int) (l : List Nat) (r : Nat) : ∀ u, 0 ≤ (cabU s l u).wa r ∧ (cabU s l u).wa r ≤ (u : Int) * (l.length : Int)
  | 0 => by show (0 : Int) ≤ 0 ∧ (0 : Int) ≤ _; simp
  | u + 1 => by
    have h1 := cab_wa s l r u
    have h2 := unit_wa s ((u + 1 : Nat) : Int) r l (cabU s l u)
    show 0 ≤ (unit7 s ((u + 1 : Nat) : Int) l (cabU s l u)).wa r ∧ (unit7 s ((u + 1 : Nat) : Int) l (cabU s l u)).wa r ≤ ((u + 1 : Nat) : Int) * (l.length : Int)
    have e : ((u + 1 : Nat) : Int) * (l.length : Int) = (u : Int) * (l.length : Int) + (l.length : Int) := by push_cast; rw [Int.add_mul, Int.one_mul]
    rw [e]
    omega
theorem part_wa {s : Int} {l : List Nat} {u i : Nat} {r : Nat} (hu : u ≤ 151) (hl : l.length ≤ 10) : 0 ≤ (unit7 s ((u + 1 : Nat) : Int) (l.take i) (cabU s l u)).wa r ∧ (unit7 s ((u + 1 : Nat) : Int) (l.take i) (cabU s l u)).wa r ≤ 100000 := by
  have h1 := cab_wa s l r u
  have h2 := unit_wa s ((u + 1 : Nat) : Int) r (l.take i) (cabU s l u)
  rw [List.length_take] at h2
  have h3 : (u : Int) * (l.length : Int) ≤ 151 * 10 := Int.mul_le_mul (by omega) (by omega) (by omega) (by omega)
  omega
/-- a row of numbers in memory, as it is read -/
theorem IA.ri {w : World} {g n : Nat} {K : Nat → Nat} {F : Nat → Int} (h : IA w g n K F) : Ri 0 w.heap.size w (some ⟨g, 0, none⟩) ((List.range n).map F) := by
  have hg := h.lt
  obtain ⟨vs, h, hl, hc⟩ := h
  have := Rd.of_own h (Nat.zero_le g) hg (Nat.le_refl _) n
  have e : vs.take n = iv ((List.range n).map F) := by
    apply List.ext_getElem?
    intro i
    by_cases hi : i < n
    · rw [List.getElem?_take, if_pos hi, hc i hi, iv_get (by simpa using hi)]
      simp [hi]
    · rw [List.getElem?_eq_none (by rw [List.length_take]; omega), List.getElem?_eq_none (by rw [iv_length]; simp; omega)]
  rw [e] at this
  exact this
theorem sat_mem (n : Nat) (c : Cab) : decide ((0 : Int) ∈ (List.range n).map c.sa) = !allSat n c := by
  cases h : allSat n c with
  | true =>
    unfold allSat at h
    rw [List.all_eq_true] at h
    simp only [Bool.not_true, decide_eq_false_iff_not, List.mem_map, List.mem_range]
    rintro ⟨r, hr, e⟩
    have := h r (List.mem_range.2 hr)
    simp [e] at this
  | false =>
    obtain ⟨r, hr, e⟩ := all_not h
    simp only [Bool.not_false, decide_eq_true_eq, List.mem_map, List.mem_range]
    exact ⟨r, hr, e⟩
theorem has7 {w : World} {n : Nat} {K : Nat → Nat} {a b c d e f : Nat} {C : Cab} (h : Cabs w n K a b c d e f C) (hn : n ≤ 10) :
    Calls Try.prog 46 #[.slice (some ⟨e, 0, none⟩) n (K e), .int .i64 0] w fun E w' => E = .returned (.bool (!allSat n C)) ∧ w = w' := by
  have := l1Has_any (some ⟨e, 0, none⟩) (K e) ((List.range n).map C.sa) 0 w 0 w.heap.size h.sa.ri (by simp; omega)
  rw [sat_mem, show ((List.range n).map C.sa).length = n by simp] at this
  exact this
abbrev cabZ : List Value := [.slice none 0 0, .slice none 0 0, .slice none 0 0, .slice none 0 0, .slice none 0 0, .slice none 0 0]
/-- a cabin, stored in a box -/
abbrev box7 (w : World) (g : Nat) (v0 v1 v2 v3 v4 v5 : Value) : World := (((((w.setCell ⟨g, 0, none⟩ v0).setCell ⟨g, 1, none⟩ v1).setCell ⟨g, 2, none⟩ v2).setCell ⟨g, 3, none⟩ v3).setCell ⟨g, 4, none⟩ v4).setCell ⟨g, 5, none⟩ v5
theorem Cabs.box {w : World} {n : Nat} {K : Nat → Nat} {a b c d e f g : Nat} {C : Cab} (h : Cabs w n K a b c d e f C) (hg : a ≠ g ∧ b ≠ g ∧ c ≠ g ∧ d ≠ g ∧ e ≠ g ∧ f ≠ g) (v0 v1 v2 v3 v4 v5 : Value) : Cabs (box7 w g v0 v1 v2 v3 v4 v5) n K a b c d e f C :=
  (((((h.other hg _).other hg _).other hg _).other hg _).other hg _).other hg _
theorem OwnArr.box7 {w : World} {g : Nat} {e : TypeId} (h : OwnArr w g e cabZ) (v0 v1 v2 v3 v4 v5 : Value) : OwnArr (box7 w g v0 v1 v2 v3 v4 v5) g e [v0, v1, v2, v3, v4, v5] :=
  (((((h.set 0 v0).set 1 v1).set 2 v2).set 3 v3).set 4 v4).set 5 v5
theorem Below.box7 {w0 w : World} {B g : Nat} (h : Below B w0 w) (hg : B ≤ g) (v0 v1 v2 v3 v4 v5 : Value) : Below B w0 (box7 w g v0 v1 v2 v3 v4 v5) :=
  (((((h.setCell (p := ⟨g, 0, none⟩) hg v0).setCell (p := ⟨g, 1, none⟩) hg v1).setCell (p := ⟨g, 2, none⟩) hg v2).setCell (p := ⟨g, 3, none⟩) hg v3).setCell (p := ⟨g, 4, none⟩) hg v4).setCell (p := ⟨g, 5, none⟩) hg v5
theorem load_cab {w : World} {b : Nat} {v0 v1 v2 v3 v4 v5 : Value} (h : OwnArr w b 37 [v0, v1, v2, v3, v4, v5]) :
    (loadVar 37 ⟨b, 0, none⟩).run Try.prog w = .ok (.agg #[v0, v1, v2, v3, v4, v5]) w := by
  have c0 : w.cell? ⟨b, 0, none⟩ = some v0 := h.cell 0
  have c1 : w.cell? ⟨b, 1, none⟩ = some v1 := h.cell 1
  have c2 : w.cell? ⟨b, 2, none⟩ = some v2 := h.cell 2
  have c3 : w.cell? ⟨b, 3, none⟩ = some v3 := h.cell 3
  have c4 : w.cell? ⟨b, 4, none⟩ = some v4 := h.cell 4
  have c5 : w.cell? ⟨b, 5, none⟩ = some v5 := h.cell 5
  simp [go_sem, c0, c1, c2, c3, c4, c5]
theorem ret_cab {fn : Func} {R : Ending → World → Prop} {a : Act} {w : World} {p : Tmp} {b : Nat} {v0 v1 v2 v3 v4 v5 : Value} (h : fn.results = #[.cell p 37]) (hp : a.tmps.getD p undef = .pointer (some ⟨b, 0, none⟩))
    (ho : OwnArr w b 37 [v0, v1, v2, v3, v4, v5]) (hd : a.defers = []) (hR : R (.returned (.agg #[v0, v1, v2, v3, v4, v5])) w) : bodyPost Try.prog fn R .ret a w := by
  refine bodyPost_ret (v := .agg #[v0, v1, v2, v3, v4, v5]) ?_ hd hR
  rw [results_cell h, hp]
  simp only [asAddr, Sem.run_pure, Result.andThen]
  exact load_cab ho
end Go.Proofs.Ytohnjdlhgcemjaa
