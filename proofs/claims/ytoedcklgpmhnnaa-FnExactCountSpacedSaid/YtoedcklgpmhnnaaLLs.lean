/- Lists of lists of numbers in memory of a call's own. Plain lemmas. -/
import Derived.Test.YtoedcklgpmhnnaaApp
import Derived.Test.YtoedcklgpmhnnaaOwnL
import Derived.Maps.AppendAt
namespace Go.Proofs.Ytoedcklgpmhnnaa
open Go.RowKit

theorem infoSl7 : (Try.prog.info? 22).map (fun i => (i.zero, i.size, i.bytes)) = some (some (.slice none 0 0), 1, 24) := by kernel_rfl
/-- a list in memory of its own, within a list g of lists -/
def InL (B g : Nat) (w : World) (u : Value) (x : List Int) : Prop := (∃ b c, u = .slice (some ⟨b, 0, none⟩) x.length c ∧ b ≠ g ∧ b < w.heap.size) ∧ Out B w u x
/-- a list of lists, in memory of its own from B2 on, the lists from B1 on -/
def LL (B1 B2 : Nat) (w : World) (v : Value) (Ls : List (List Int)) : Prop := ∃ (g c : Nat) (vs : List Value), v = .slice (some ⟨g, 0, none⟩) Ls.length c ∧ w.ownsRow B2 22 1 v Ls.length vs ∧ g < w.heap.size ∧ ∀ (i : Nat) (x : List Int), Ls[i]? = some x → ∃ u, vs[i]? = some u ∧ InL B1 g w u x
theorem InL.mono {B B' g : Nat} {w : World} {u : Value} {x : List Int} (h : InL B g w u x) (hB : B' ≤ B) : InL B' g w u x := ⟨h.1, Out.mono h.2 hB⟩
theorem InL.below {B g : Nat} {w w' : World} {u : Value} {x : List Int} (h : InL B g w u x) (hb : Below w.heap.size w w') : InL B g w' u x := by
  obtain ⟨⟨b, c, e, h1, h2⟩, h3⟩ := h
  exact ⟨⟨b, c, e, h1, by have := hb.size; omega⟩, Out.below h3 hb⟩
theorem LL.below {B1 B2 : Nat} {w w' : World} {v : Value} {Ls : List (List Int)} (h : LL B1 B2 w v Ls) (hb : Below w.heap.size w w') : LL B1 B2 w' v Ls := by
  obtain ⟨g, c, vs, e, h1, hg, h2⟩ := h
  refine ⟨g, c, vs, e, ⟨h1.1, h1.2.elim .inl ?_⟩, by have := hb.size; omega, fun i x hx => ?_⟩
  · rintro ⟨g', cap, cur, e', hB, hh, r⟩
    have hlt : g' < w.heap.size := (Array.getElem?_eq_some_iff.1 hh).1
    exact .inr ⟨g', cap, cur, e', hB, by rw [hb.block g' hlt]; exact hh, r⟩
  · obtain ⟨u, hu, hl⟩ := h2 i x hx
    exact ⟨u, hu, hl.below hb⟩
theorem LL.mono {B1 B2 B1' B2' : Nat} {w : World} {v : Value} {Ls : List (List Int)} (h : LL B1 B2 w v Ls) (h1 : B1' ≤ B1) (h2 : B2' ≤ B2) : LL B1' B2' w v Ls := by
  obtain ⟨g, c, vs, e, q1, hg, q2⟩ := h
  refine ⟨g, c, vs, e, ⟨q1.1, q1.2.elim .inl ?_⟩, hg, fun i x hx => ?_⟩
  · rintro ⟨g', cap, cur, e', hB, r⟩
    exact .inr ⟨g', cap, cur, e', Nat.le_trans h2 hB, r⟩
  · obtain ⟨u, hu, hl⟩ := q2 i x hx
    exact ⟨u, hu, hl.mono h1⟩
theorem LL.nil (w : World) (B : Nat) : LL B w.heap.size (w.alloc (.cells #[] 22)) (.slice (some ⟨w.heap.size, 0, none⟩) 0 0) [] := by
  refine ⟨w.heap.size, 0, [], rfl, ⟨rfl, .inr ⟨w.heap.size, 0, #[], rfl, Nat.le_refl _, ?_, Nat.le_refl _, by unfold maxLen; omega, rfl, rfl⟩⟩, by simp, fun i x hx => by simp at hx⟩
  show (w.heap.push _)[w.heap.size]? = _
  rw [Array.getElem?_push_size]
theorem LL.one {w : World} {B : Nat} {u : Value} {x : List Int} (hu : ∃ b c, u = .slice (some ⟨b, 0, none⟩) x.length c ∧ b < w.heap.size) (h : Out B w u x) : LL B w.heap.size (w.alloc (.cells #[u] 22)) (.slice (some ⟨w.heap.size, 0, none⟩) 1 1) [x] := by
  obtain ⟨b, c, e, hb⟩ := hu
  refine ⟨w.heap.size, 1, [u], rfl, ⟨rfl, .inr ⟨w.heap.size, 1, #[u], rfl, Nat.le_refl _, ?_, Nat.le_refl _, by unfold maxLen; omega, rfl, rfl⟩⟩, by simp, fun i y hy => ?_⟩
  · show (w.heap.push _)[w.heap.size]? = _
    rw [Array.getElem?_push_size]
  · cases i with
    | zero =>
      simp at hy
      subst hy
      exact ⟨u, rfl, ⟨b, c, e, by omega, by simp; omega⟩, Out.below h ((Below.refl _ _).alloc (Nat.le_refl _) _)⟩
    | succ i => simp at hy
/-- what is read of one of the lists -/
theorem LL.cell {B1 B2 : Nat} {w : World} {v : Value} {Ls : List (List Int)} (h : LL B1 B2 w v Ls) {i : Nat} {x : List Int} (hx : Ls[i]? = some x) : ∃ g c u, v = .slice (some ⟨g, 0, none⟩) Ls.length c ∧ w.cell? ⟨g, i, none⟩ = some u ∧ (∃ b c', u = .slice (some ⟨b, 0, none⟩) x.length c' ∧ x.length ≤ c' ∧ c' ≤ maxLen) ∧ Out B1 w u x := by
  obtain ⟨g, c, vs, e, h1, hg, h2⟩ := h
  obtain ⟨u, hu, ⟨b, c', e', -, -⟩, ho⟩ := h2 i x hx
  have hil : i < Ls.length := (List.getElem?_eq_some_iff.1 hx).1
  obtain ⟨p3, c3, e3, q1, q2, -, -⟩ := ho.rd
  rw [e'] at e3
  simp only [Value.slice.injEq] at e3
  refine ⟨g, c, u, e, ?_, ⟨b, c', e', by omega, by omega⟩, ho⟩
  obtain ⟨hl, hr⟩ := h1
  rcases hr with ⟨e4, -⟩ | ⟨g', cap, cur, e4, -, hh, -, -, -, ht⟩
  · rw [e] at e4; cases e4
  · rw [e] at e4
    simp only [Value.slice.injEq, Option.some.injEq, Addr.mk.injEq, and_true, true_and] at e4
    obtain ⟨rfl, -⟩ := e4
    have hc : w.cell? ⟨g, i, none⟩ = cur[i]? := by simp [World.cell?, hh]
    rw [hc, ← Array.getElem?_toList]
    rw [Nat.mul_one] at ht
    have : (cur.toList.take Ls.length)[i]? = cur.toList[i]? := by rw [List.getElem?_take, if_pos hil]
    rw [← this, ht]; exact hu
/-- how a list of lists is appended to, and appended -/
theorem LL.parts {B1 B2 : Nat} {w : World} {v : Value} {Ls : List (List Int)} (h : LL B1 B2 w v Ls) : ∃ (g c : Nat) (vs : List Value), v = .slice (some ⟨g, 0, none⟩) Ls.length c ∧ w.ownsRow B2 22 1 v Ls.length vs ∧ vs.length = Ls.length ∧ (∀ j u, vs[j]? = some u → w.cell? ((⟨g, 0, none⟩ : Addr).add j) = some u) ∧ (∀ u ∈ vs, u.oneCell' = true) ∧ g < w.heap.size := by
  obtain ⟨g, c, vs, e, h1, hg, h2⟩ := h
  have hvl : vs.length = Ls.length := by have := h1.1; omega
  refine ⟨g, c, vs, e, h1, hvl, fun j u hu => ?_, fun u hu => ?_, hg⟩
  · rw [Addr.add_lit, Nat.zero_add]
    have hj : j < Ls.length := by have := (List.getElem?_eq_some_iff.1 hu).1; omega
    obtain ⟨hl, hr⟩ := h1
    rcases hr with ⟨e4, -⟩ | ⟨g', cap, cur, e4, -, hh, -, -, -, ht⟩
    · rw [e] at e4; cases e4
    · rw [e] at e4
      simp only [Value.slice.injEq, Option.some.injEq, Addr.mk.injEq, and_true, true_and] at e4
      obtain ⟨rfl, -⟩ := e4
      have hc : w.cell? ⟨g, j, none⟩ = cur[j]? := by simp [World.cell?, hh]
      rw [hc, ← Array.getElem?_toList]
      rw [Nat.mul_one] at ht
      have : (cur.toList.take Ls.length)[j]? = cur.toList[j]? := by rw [List.getElem?_take, if_pos hj]
      rw [← this, ht]; exact hu
  · obtain ⟨j, hj, rfl⟩ := List.getElem_of_mem hu
    obtain ⟨u, hu', ⟨b, c', e', -⟩, -⟩ := h2 j (Ls[j]'(by omega)) (List.getElem?_eq_getElem _)
    rw [List.getElem?_eq_getElem hj] at hu'
    simp only [Option.some.injEq] at hu'
    rw [hu', e']; rfl
/-- lists put behind others -/
theorem LL.join {B1 B2 B3 B4 : Nat} {w w' : World} {v v' r : Value} {Ls Rs : List (List Int)} (hL : LL B1 B2 w v Ls) (hR : LL B3 B4 w r Rs) (h3 : B1 ≤ B3) (hsep : ∀ g, v.ownBlock = some g → g < B3) {vs rs : List Value} (hg : w.grownBy w' v.ownBlock)
    (hv : w.ownsRow B2 22 1 v Ls.length vs) (hr : w.ownsRow B4 22 1 r Rs.length rs)
    (ho : w'.ownsRow B2 22 1 v' (Ls.length + Rs.length) (vs ++ rs)) (hnil : ¬ v' = .slice none 0 0) (hat : v'.ownBlock = v.ownBlock ∨ v'.ownBlock = some w.heap.size) : LL B1 B2 w' v' (Ls ++ Rs) := by
  have uniq : ∀ (B : Nat) (z : Value) (m : Nat) (xs ys : List Value), w.ownsRow B 22 1 z m xs → w.ownsRow B 22 1 z m ys → xs = ys := by
    rintro B z m xs ys ⟨hl, h⟩ ⟨hl', h'⟩
    rcases h with ⟨e, h0⟩ | ⟨g, cap, cur, e, -, hh, -, -, -, ht⟩
    · rw [h0] at hl hl'
      rw [List.length_eq_zero_iff.1 hl, List.length_eq_zero_iff.1 hl']
    · rcases h' with ⟨e', -⟩ | ⟨g', cap', cur', e', -, hh', -, -, -, ht'⟩
      · rw [e] at e'; cases e'
      · rw [e] at e'
        simp only [Value.slice.injEq, Option.some.injEq, Addr.mk.injEq, and_true, true_and] at e'
        obtain ⟨rfl, rfl⟩ := e'
        rw [hh] at hh'
        simp only [Option.some.injEq, Obj.cells.injEq, and_true] at hh'
        rw [← ht, ← ht', hh']
  obtain ⟨gL, cL, vs', eL, oL, hgL, iL⟩ := hL
  obtain ⟨gR, cR, rs', eR, oR, hgR, iR⟩ := hR
  have e1 := uniq B2 v _ _ _ oL hv
  have e2 := uniq B4 r _ _ _ oR hr
  subst e1; subst e2
  have ho' := ho
  obtain ⟨hlo, ho2⟩ := ho
  rcases ho2 with ⟨e, -⟩ | ⟨g', cap, cur, e, hB, hh, hn, hcm, hcs, ht⟩
  · exact absurd e hnil
  have hvl : vs'.length = Ls.length := by have := oL.1; omega
  have hg'n : ∀ b, b < w.heap.size → (v.ownBlock ≠ some b) → b ≠ g' := by
    intro b hb hne e5
    rw [e] at hat
    rcases hat with h | h
    · exact hne (by rw [← h, e5]; rfl)
    · simp [Value.ownBlock] at h; omega
  have hkept : ∀ (u : Value) (x : List Int) (B gg : Nat), InL B gg w u x → (∀ b, u.ownBlock = some b → v.ownBlock ≠ some b) → B1 ≤ B → InL B1 g' w' u x := by
    rintro u x B gg ⟨⟨b, c, rfl, hb1, hb2⟩, ho⟩ hne hBB
    have hn1 := hne b rfl
    refine ⟨⟨b, c, rfl, hg'n b hb2 hn1, by have := hg.size; omega⟩, Out.mono (World.ownsRow.kept ho hg (.inr fun e5 => hn1 e5.symm)) hBB⟩
  refine ⟨g', cap, vs' ++ rs', by rw [e, List.length_append], by rw [List.length_append]; exact ho', (Array.getElem?_eq_some_iff.1 hh).1, fun i x hx => ?_⟩
  by_cases hi : i < Ls.length
  · rw [List.getElem?_append_left hi] at hx
    obtain ⟨u, hu, hl⟩ := iL i x hx
    refine ⟨u, by rw [List.getElem?_append_left (by omega)]; exact hu, hkept u x B1 gL hl (fun b hb => ?_) (Nat.le_refl _)⟩
    obtain ⟨⟨b', c', rfl, hb1, -⟩, -⟩ := hl
    simp [Value.ownBlock] at hb
    subst hb
    rw [eL]
    simp [Value.ownBlock]
    exact fun e5 => hb1 e5.symm
  · rw [List.getElem?_append_right (by omega)] at hx
    obtain ⟨u, hu, hl⟩ := iR _ x hx
    refine ⟨u, by rw [List.getElem?_append_right (by omega), hvl]; exact hu, hkept u x B3 gR hl (fun b hb hvb => ?_) h3⟩
    have h5 := hsep b hvb
    have h6 := (World.ownsRow.lt hl.2 b hb).1
    omega
end Go.Proofs.Ytoedcklgpmhnnaa
