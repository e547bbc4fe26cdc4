/- Slices of pairs of numbers: their cells; results of pairs in memory of a call's own. Plain lemmas. -/
import Derived.Test.YtkbpfjhikabbmaaOut
namespace Go.Proofs.Ytkbpfjhikabbmaa
open Go.RowKit

/-- pairs as cells -/
def pcs (ps : List (Int × Int)) : List Value := ps.flatMap fun x => [.int .i64 x.1, .int .i64 x.2]
theorem pcs_length (ps : List (Int × Int)) : (pcs ps).length = ps.length * 2 := by
  induction ps with
  | nil => rfl
  | cons y t ih =>
    have : pcs (y :: t) = [.int .i64 y.1, .int .i64 y.2] ++ pcs t := rfl
    rw [this, List.length_append, ih, List.length_cons]; simp; omega
theorem pcs_append (a b : List (Int × Int)) : pcs (a ++ b) = pcs a ++ pcs b := by simp [pcs]
theorem pcs_get (ps : List (Int × Int)) : ∀ i, i < ps.length → (pcs ps)[i * 2]? = some (.int .i64 (ps[i]?.getD (0, 0)).1) ∧ (pcs ps)[i * 2 + 1]? = some (.int .i64 (ps[i]?.getD (0, 0)).2) := by
  induction ps with
  | nil => intro i h; exact absurd h (by simp)
  | cons y t ih =>
    intro i h
    have e : pcs (y :: t) = .int .i64 y.1 :: .int .i64 y.2 :: pcs t := rfl
    rw [e]
    cases i with
    | zero => exact ⟨rfl, rfl⟩
    | succ i =>
      have h1 : (i + 1) * 2 = i * 2 + 1 + 1 := by omega
      have h2 := ih i (by simpa using h)
      rw [h1]
      simpa using h2
/-- a result of pairs in memory of the call's own, behind block B -/
abbrev OutP (B : Nat) (w : World) (v : Value) (ps : List (Int × Int)) : Prop := w.ownsRow B 48 2 v ps.length (pcs ps)
theorem OutP.mono {B B' : Nat} {w : World} {v : Value} {ps : List (Int × Int)} (h : OutP B w v ps) (hb : B' ≤ B) : OutP B' w v ps :=
  ⟨h.1, h.2.elim .inl (fun ⟨g, cap, cur, hv, hg, r⟩ => .inr ⟨g, cap, cur, hv, Nat.le_trans hb hg, r⟩)⟩
theorem OutP.below {B : Nat} {w w' : World} {v : Value} {ps : List (Int × Int)} (h : OutP B w v ps) (hb : Below w.heap.size w w') : OutP B w' v ps := by
  refine ⟨h.1, h.2.elim .inl (fun ⟨g, cap, cur, hv, hg, hh, r⟩ => .inr ⟨g, cap, cur, hv, hg, ?_, r⟩)⟩
  have hlt : g < w.heap.size := by
    rcases Nat.lt_or_ge g w.heap.size with h' | h'
    · exact h'
    · rw [Array.getElem?_eq_none h'] at hh; cases hh
  rw [hb.block g hlt]; exact hh
theorem OutP.nilLit (w : World) : OutP w.heap.size (w.alloc (.cells #[] 48)) (.slice (some ⟨w.heap.size, 0, none⟩) 0 0) [] :=
  own_lit [] 2 0 rfl (by unfold maxLen; omega)
theorem OutP.oneLit (w : World) (x y : Int) : OutP w.heap.size (w.alloc (.cells #[.int .i64 x, .int .i64 y] 48)) (.slice (some ⟨w.heap.size, 0, none⟩) 1 1) [(x, y)] :=
  own_lit [.int .i64 x, .int .i64 y] 2 1 rfl (by unfold maxLen; omega)
theorem OutP.rd {B : Nat} {w : World} {v : Value} {ps : List (Int × Int)} (h : OutP B w v ps) :
    ∃ p cap, v = .slice p ps.length cap ∧ ps.length ≤ cap ∧ cap ≤ maxLen ∧ Rd B w.heap.size w p (pcs ps) ∧ Own B w.heap.size w 48 p (ps.length * 2) := rd_ownsRow h
theorem infoPair : (Try.prog.info? 48).map (fun i => (i.zero, i.size, i.bytes)) = some (some (.agg #[.int .i64 0, .int .i64 0]), 2, 16) := by kernel_rfl
theorem cell_two_new (w : World) (x y : Value) (e : TypeId) : ∀ j u, [x, y][j]? = some u → (w.alloc (.cells #[x, y] e)).cell? ((⟨w.heap.size, 0, none⟩ : Addr).add j) = some u := by
  intro j u hu
  have h := (OwnArr.made w e [x, y]).cell j
  rw [Addr.add_lit, Nat.zero_add]
  rw [show (w.alloc (.cells #[x, y] e)) = w.alloc (.cells [x, y].toArray e) from rfl, h, hu]
theorem two_one (x y : Int) : ∀ u ∈ [Value.int .i64 x, Value.int .i64 y], u.oneCell' = true := by
  intro u hu
  simp at hu
  rcases hu with rfl | rfl <;> rfl
/-- a slice of pairs that shows ps -/
theorem Rd.pair {lo hi : Nat} {w : World} {p : Option Addr} {ps : List (Int × Int)} (h : Rd lo hi w p (pcs ps)) (h0 : 0 < ps.length) :
    ∃ b off, p = some ⟨b, off, none⟩ ∧ lo ≤ b ∧ b < hi ∧ b < w.heap.size ∧ ∀ i, i < ps.length → w.cell? ⟨b, off + i * 2, none⟩ = some (.int .i64 (ps[i]?.getD (0, 0)).1) ∧ w.cell? ⟨b, off + i * 2 + 1, none⟩ = some (.int .i64 (ps[i]?.getD (0, 0)).2) := by
  obtain ⟨b, off, e, h1, h2, hc⟩ := h.cells (by rw [pcs_length]; omega)
  refine ⟨b, off, e, h1, h2, Nat.lt_of_lt_of_le h2 h.top, fun i hi => ?_⟩
  obtain ⟨g0, g1⟩ := pcs_get ps i hi
  exact ⟨by rw [hc (i * 2) (by rw [pcs_length]; omega), g0], by rw [show off + i * 2 + 1 = off + (i * 2 + 1) from by omega, hc (i * 2 + 1) (by rw [pcs_length]; omega), g1]⟩
theorem OutP.open' {B : Nat} {w : World} {v : Value} {ps : List (Int × Int)} (h : OutP B w v ps) : ∃ l vs, ps.length = l ∧ pcs ps = vs ∧ w.ownsRow B 48 2 v l vs := ⟨_, _, rfl, rfl, h⟩
theorem OutP.close {B : Nat} {w : World} {v : Value} {ps : List (Int × Int)} {l : Nat} {vs : List Value} {x y : Int} (hl : ps.length = l) (hvs : pcs ps = vs) (h : w.ownsRow B 48 2 v (l + 1) (vs ++ [.int .i64 x, .int .i64 y])) : OutP B w v (ps ++ [(x, y)]) := by
  subst hl; subst hvs
  show w.ownsRow B _ 2 v (ps ++ [(x, y)]).length (pcs (ps ++ [(x, y)]))
  rw [pcs_append, List.length_append]
  exact h
end Go.Proofs.Ytkbpfjhikabbmaa
