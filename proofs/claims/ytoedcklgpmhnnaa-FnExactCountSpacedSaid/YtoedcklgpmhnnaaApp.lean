/- append of numbers onto a row of the call's own: in a plain region, and at a step of a region that draws its order. Plain lemmas. -/
import Derived.Test.YtoedcklgpmhnnaaNe
import Derived.Deep.RegionLaw
namespace Go.Proofs.Ytoedcklgpmhnnaa
open Go.RowKit

theorem rd_news {lo hi : Nat} {w : World} {p : Option Addr} {ys : List Int} (h : Ri lo hi w p ys) (h0 : 0 < ys.length) : ∃ ad, p = some ad ∧ ∀ j u, (iv ys)[j]? = some u → w.cell? (ad.add j) = some u := by
  obtain ⟨b, off, e, -, -, -, hc⟩ := h.int h0
  refine ⟨⟨b, off, none⟩, e, fun j u hu => ?_⟩
  have hj : j < ys.length := by
    rcases Nat.lt_or_ge j ys.length with h' | h'
    · exact h'
    · rw [List.getElem?_eq_none (by rw [iv_length]; exact h')] at hu; cases hu
  rw [iv_get hj] at hu
  rw [Addr.add_lit, hc j hj]; exact hu
theorem iv_one (ys : List Int) : ∀ u ∈ iv ys, u.oneCell' = true := by
  intro u hu
  unfold iv at hu
  obtain ⟨x, _, rfl⟩ := List.mem_map.1 hu
  rfl

/-- the law: whatever is appended -/
theorem run_app (w : World) (ty : TypeId) (B : Nat) (v : Value) (xs : List Int) (hown : Out B w v xs) (p : Option Addr) (m c lo hi : Nat) (ys : List Int) (hy : Ri lo hi w p ys) (hm : ys.length = m) (h63 : xs.length + m ≤ 100000) (hbase : B ≤ w.heap.size) :
    ∃ v' w', (Builtin.append_ #[22, 22] ty #[v, .slice p m c]).run Try.prog w = .ok v' w' ∧ Out B w' v' (xs ++ ys) ∧ w.grownBy w' v.ownBlock ∧ (v' = .slice none 0 0 ↔ v = .slice none 0 0 ∧ m = 0) := by
  obtain ⟨i0, hi, hz0, hz1, hz2⟩ := info_parts infoInt
  have key : ∀ ad, p = some ad → (∀ j u, (iv ys)[j]? = some u → w.cell? (ad.add j) = some u) → ∃ v' w', (Builtin.append_ #[22, 22] ty #[v, .slice p m c]).run Try.prog w = .ok v' w' ∧ Out B w' v' (xs ++ ys) ∧ w.grownBy w' v.ownBlock ∧ (v' = .slice none 0 0 ↔ v = .slice none 0 0 ∧ m = 0) := by
    intro ad e hc
    subst e
    obtain ⟨v', w', hr, h2, h3, h4⟩ := run_append_own (P := Try.prog) w B 22 ty 3 i0 (.int .i64 0) 1 8 Try.underlying22 hi hz0 hz1 hz2 rfl (by decide) v xs.length (iv xs) hown ad m c (iv ys) (by rw [iv_length]; omega) hc (iv_one ys) (by unfold maxLen; omega) (by omega) hbase
    refine ⟨v', w', hr, ?_, h3, h4⟩
    show w'.ownsRow B _ 1 v' (xs ++ ys).length (iv (xs ++ ys))
    rw [iv_append, List.length_append, hm]; exact h2
  by_cases h0 : 0 < ys.length
  · obtain ⟨ad, e, hc⟩ := rd_news hy h0
    exact key ad e hc
  · have hn : ys = [] := List.length_eq_zero_iff.1 (by omega)
    subst hn
    have hm0 : m = 0 := by simpa using hm.symm
    subst hm0
    cases p with
    | some ad => exact key ad rfl (fun j u hu => by simp [iv] at hu)
    | none =>
      refine ⟨v, w, ?_, by simpa using hown, ⟨rfl, rfl, rfl, Nat.le_refl _, fun _ _ _ => rfl⟩, by simp⟩
      rcases hown.2 with ⟨rfl, -⟩ | ⟨g, cap, cur, rfl, -, -, hn, -⟩
      · simp [Builtin.append_, run_underlying Try.underlying22, sizeOf, typeInfo, hi, Builtin.lenOf, Builtin.firstCells]
      · simp [Builtin.append_, run_underlying Try.underlying22, sizeOf, typeInfo, hi, Builtin.lenOf, Builtin.firstCells, hn, storeCells]

theorem wp_app {o : Oper} {a : Act} {w : World} {K : Act → World → Prop} {Q : Exit → Act → World → Prop} (s x : Operand)
    (ho : o.op = .call { callee := .builtin .append, args := #[s, x], argTypes := #[22, 22] })
    (B : Nat) (v : Value) (xs : List Int) (hs : a.eval s = v) (hown : Out B w v xs) (p : Option Addr) (m c lo hi : Nat) (ys : List Int) (hx : a.eval x = .slice p m c) (hy : Ri lo hi w p ys) (hm : ys.length = m) (h63 : xs.length + m ≤ 100000) (hbase : B ≤ w.heap.size)
    (h : ∀ v' w', Out B w' v' (xs ++ ys) → w.grownBy w' v.ownBlock → (v' = .slice none 0 0 ↔ v = .slice none 0 0 ∧ m = 0) → K (a.put o.dst v') w') : o.wp Try.prog a w K Q := by
  obtain ⟨v', w', hr, h2, h3, h4⟩ := run_app w o.type B v xs hown p m c lo hi ys hy hm h63 hbase
  unfold Oper.wp execOp
  simp only [ho, resolve, invoke, builtin, Sem.run_bind, Sem.run_pure, Result.andThen_ok, List.map_toArray, List.map_cons, List.map_nil, hs, hx, hr]
  exact h v' w' h2 h3 h4
/-- in a plain region -/
theorem wpList_app {ops : Array Oper} {rest : List Oper} {o : Oper} {a : Act} {w : World} {Q : Exit → Act → World → Prop} (hgd : o.guard = none) (s x : Operand)
    (ho : o.op = .call { callee := .builtin .append, args := #[s, x], argTypes := #[22, 22] })
    (B : Nat) (v : Value) (xs : List Int) (hs : a.eval s = v) (hown : Out B w v xs) (p : Option Addr) (m c lo hi : Nat) (ys : List Int) (hx : a.eval x = .slice p m c) (hy : Ri lo hi w p ys) (hm : ys.length = m) (h63 : xs.length + m ≤ 100000) (hbase : B ≤ w.heap.size)
    (h : ∀ v' w', Out B w' v' (xs ++ ys) → w.grownBy w' v.ownBlock → (v' = .slice none 0 0 ↔ v = .slice none 0 0 ∧ m = 0) → wpList Try.prog ops Q rest (a.put o.dst v') w') : wpList Try.prog ops Q (o :: rest) a w :=
  wpList_plain hgd fun _ hK => wp_app s x ho B v xs hs hown p m c lo hi ys hx hy hm h63 hbase fun v' w' h2 h3 h4 => hK _ _ (h v' w' h2 h3 h4)
/-- at a step of a region that draws its order -/
theorem step_app {ops : Array Oper} {o : Oper} {a : Act} {w : World} {K : Act → World → Prop} {Q : Exit → Act → World → Prop} {E : Prop} (hgd : o.guard = none) (s x : Operand)
    (ho : o.op = .call { callee := .builtin .append, args := #[s, x], argTypes := #[22, 22] })
    (B : Nat) (v : Value) (xs : List Int) (hs : a.eval s = v) (hown : Out B w v xs) (p : Option Addr) (m c lo hi : Nat) (ys : List Int) (hx : a.eval x = .slice p m c) (hy : Ri lo hi w p ys) (hm : ys.length = m) (h63 : xs.length + m ≤ 100000) (hbase : B ≤ w.heap.size)
    (h : ∀ v' w', Out B w' v' (xs ++ ys) → w.grownBy w' v.ownBlock → (v' = .slice none 0 0 ↔ v = .slice none 0 0 ∧ m = 0) → K (a.put o.dst v') w') :
    if Region.wanted o (yielded ops a.tmps) = true then Oper.wp Try.prog o a w K Q else E := by
  have hw : Region.wanted o (yielded ops a.tmps) = true := by simp [Region.wanted, hgd]
  rw [if_pos hw]
  exact wp_app s x ho B v xs hs hown p m c lo hi ys hx hy hm h63 hbase h
/-- a literal of one number, whatever came before it -/
theorem lit_one {w : World} {g : Nat} {x : Int} (h : OwnArr w g 3 [.int .i64 x]) (hi : Nat) (h1 : g < hi) (h2 : hi ≤ w.heap.size) : Ri 0 hi w (some ⟨g, 0, none⟩) [x] := by
  have := Rd.of_own h (Nat.zero_le g) h1 h2 1
  exact this
/-- what lies behind the first k places, as a slice expression spells it -/
theorem Rd.behind {lo hi : Nat} {w : World} {b off cap k : Nat} {xs : List Int} (h : Ri lo hi w (some ⟨b, off, none⟩) xs) (hcap : xs.length ≤ cap) :
    Ri lo hi w (if cap = k then some ⟨b, off, none⟩ else some ⟨b, off + k, none⟩) (xs.drop k) := by
  refine ⟨h.top, fun h0 => ?_⟩
  rw [iv_length, List.length_drop] at h0
  have hne : ¬ cap = k := by omega
  rw [if_neg hne]
  obtain ⟨b', off', e, h1, h2, hc⟩ := h.cells (by rw [iv_length]; omega)
  simp only [Option.some.injEq, Addr.mk.injEq, and_true] at e
  obtain ⟨rfl, rfl⟩ := e
  refine ⟨_, _, rfl, h1, h2, fun i hi => ?_⟩
  rw [iv_length, List.length_drop] at hi
  have := hc (k + i) (by rw [iv_length]; omega)
  rw [Nat.add_assoc]
  rw [this, iv_get (by omega), iv_get (by rw [List.length_drop]; omega), List.getElem?_drop]
end Go.Proofs.Ytoedcklgpmhnnaa
