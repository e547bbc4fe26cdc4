/- append of one number to a slice of the call's own that is still read: the elder slice holds what it held. Plain lemmas. -/
import Derived.Test.YteabodhkgkffiaaApp
import Derived.Maps.AppendAt
namespace Go.Proofs.Yteabodhkgkffiaa
open Go.RowKit

/-- a world that is grown but for a row, and a slice that stays -/
theorem Out.kept8 {B : Nat} {w w' : World} {v : Value} {xs : List Int} {row : Option Nat} (h : Out B w v xs) (hg : w.grownBy w' row) (hr : v.ownBlock ≠ row ∨ row = none) : Out B w' v xs := by
  refine ⟨h.1, h.2.elim .inl (fun ⟨g, cap, cur, hv, hb, hh, r⟩ => .inr ⟨g, cap, cur, hv, hb, ?_, r⟩)⟩
  have hlt : g < w.heap.size := by
    rcases Nat.lt_or_ge g w.heap.size with h' | h'
    · exact h'
    · rw [Array.getElem?_eq_none h'] at hh; cases hh
  rw [hg.block g hlt (by
    intro e
    rcases hr with hr | hr
    · exact hr (by rw [hv, ← e]; rfl)
    · rw [hr] at e; cases e)]
  exact hh
theorem grown_of_below {w w' : World} (h : Below w.heap.size w w') (row : Option Nat) : w.grownBy w' row := ⟨h.os, h.tape, h.output, h.size, fun k hk _ => h.block k hk⟩
theorem below_of_grown {w w' : World} (h : w.grownBy w' none) : Below w.heap.size w w' := ⟨h.os, h.tape, h.output, h.size, fun k hk => h.block k hk (by simp)⟩
theorem Out.own_lt {B : Nat} {w : World} {v : Value} {xs : List Int} (h : Out B w v xs) {g : Nat} (e : v.ownBlock = some g) : B ≤ g ∧ g < w.heap.size := by
  rcases h.2 with ⟨rfl, -⟩ | ⟨g', cap, cur, rfl, hb, hh, r⟩
  · cases e
  · have e2 : g' = g := by simpa [Value.ownBlock] using e
    subst e2
    refine ⟨hb, ?_⟩
    rcases Nat.lt_or_ge g' w.heap.size with h' | h'
    · exact h'
    · rw [Array.getElem?_eq_none h'] at hh; cases hh

/-- the new slice lies in the elder one's row behind it, or in a block that was just made -/
def Near8 (w w' : World) (v v' : Value) (n : Nat) : Prop :=
  (∃ g cap, v = .slice (some ⟨g, 0, none⟩) n cap ∧ v' = .slice (some ⟨g, 0, none⟩) (n + 1) cap ∧ w.grownBy w' (some g)) ∨ (v'.ownBlock = some w.heap.size ∧ w.grownBy w' none)

/-- what is behind the new one may turn, the elder one stays -/
theorem Near8.stays {B : Nat} {w w1 w2 : World} {v v1 : Value} {xs : List Int} {x : Int} (hN : Near8 w w1 v v1 xs.length) (h0 : Out B w v xs) (h1 : Out B w2 v1 (xs ++ [x])) (hg : w1.grownBy w2 v1.ownBlock) : Out B w2 v xs ∧ w.grownBy w2 v.ownBlock := by
  rcases hN with ⟨g, cap, rfl, rfl, hg1⟩ | ⟨hob, hg1⟩
  · refine ⟨?_, World.grownBy.trans hg1 hg⟩
    rcases h1.2 with ⟨h, -⟩ | ⟨g', cap', cur, hv, hb, hh, hn, hcm, hcs, ht⟩
    · cases h
    · simp only [Value.slice.injEq, Option.some.injEq, Addr.mk.injEq, and_true] at hv
      obtain ⟨rfl, hl, rfl⟩ := hv
      refine ⟨by rw [iv_length, Nat.mul_one], .inr ⟨g, cap, cur, rfl, hb, hh, by omega, hcm, hcs, ?_⟩⟩
      have e : cur.toList.take (xs.length * 1) = (cur.toList.take ((xs ++ [x]).length * 1)).take (xs.length * 1) := by
        rw [List.take_take, Nat.min_eq_left (by rw [List.length_append]; omega)]
      rw [e, ht, iv_append, Nat.mul_one]
      conv => lhs; rw [← iv_length xs]
      exact List.take_left
  · rw [hob] at hg
    have hs := hg1.size
    have k1 : Out B w1 v xs := h0.kept8 hg1 (.inr rfl)
    have hne : v.ownBlock ≠ some w.heap.size := by
      intro e
      have := (h0.own_lt e).2
      omega
    exact ⟨k1.kept8 hg (.inl hne), ⟨hg.os.trans hg1.os, hg.tape.trans hg1.tape, hg.output.trans hg1.output, Nat.le_trans hs hg.size, fun k hk _ => by
      rw [hg.block k (by omega) (by intro e; simp only [Option.some.injEq] at e; omega)]
      exact hg1.block k hk (by simp)⟩⟩

theorem run_app8 (w : World) (ty : TypeId) (B : Nat) (v : Value) (xs : List Int) (hown : Out B w v xs) (p : Option Addr) (m c lo hi : Nat) (x : Int) (hy : Ri lo hi w p [x]) (hm : m = 1) (h63 : xs.length ≤ 100000) (hbase : B ≤ w.heap.size) :
    ∃ v' w', (Builtin.append_ #[22, 22] ty #[v, .slice p m c]).run Try.prog w = .ok v' w' ∧ Out B w' v' (xs ++ [x]) ∧ Near8 w w' v v' xs.length := by
  subst hm
  obtain ⟨i0, hi, hz0, hz1, hz2⟩ := info_parts infoInt
  obtain ⟨ad, rfl, hc⟩ := rd_news hy (by simp)
  obtain ⟨v', w', hr, h2, h3, h4, h5⟩ := run_append_own_at (P := Try.prog) w B 22 ty 3 i0 (.int .i64 0) 1 8 Try.underlying22 hi hz0 hz1 hz2 rfl (by decide) v xs.length (iv xs) hown ad 1 c (iv [x]) (by rw [iv_length]; rfl) hc (iv_one [x]) (by unfold maxLen; omega) (by omega) hbase
  refine ⟨v', w', hr, ?_, ?_⟩
  · show w'.ownsRow B _ 1 v' (xs ++ [x]).length (iv (xs ++ [x]))
    rw [iv_append, List.length_append]; exact h2
  · rcases hown.2 with ⟨rfl, hn⟩ | ⟨g, cap, cur, rfl, hbg, hg, hnc, hcm, hcs, htake⟩
    · refine .inr ⟨?_, h3⟩
      rcases h5 with h | h
      · exfalso
        have hv : v' = .slice none 0 0 := by
          rcases h2.2 with ⟨e, -⟩ | ⟨g', cap', cur', rfl, -⟩
          · exact e
          · simp [Value.ownBlock] at h
        have := (h4.1 hv).2
        omega
      · exact h
    · have hsz1 : i0.size = 1 := hz1
      have hb8 : i0.bytes = 8 := hz2
      by_cases hroom : xs.length + 1 ≤ cap
      · have hrr := run_append_room (P := Try.prog) w 22 ty 3 i0 Try.underlying22 hi g xs.length cap cur hg ad 1 c (iv [x]) (by rw [iv_length, hsz1]; rfl) hc (iv_one [x]) hroom (by rw [hsz1, iv_length]; simp; omega)
        rw [hrr] at hr
        cases hr
        exact .inl ⟨g, cap, rfl, rfl, h3⟩
      · have hold : ∀ j u, (iv xs)[j]? = some u → w.cell? ((⟨g, 0, none⟩ : Addr).add j) = some u := hown.cells (g := g) rfl
        have hrr := run_append_grow (P := Try.prog) w 22 ty 3 i0 (.int .i64 0) Try.underlying22 hi hz0 ⟨g, 0, none⟩ xs.length cap (iv xs) (by rw [iv_length, hsz1]; omega) hold ad 1 c (iv [x]) (by rw [iv_length, hsz1]; rfl) hc (by omega) (by omega) (growslice_fits (by omega) (by rw [hb8]; omega))
        rw [hrr] at hr
        cases hr
        exact .inr ⟨rfl, ⟨rfl, rfl, rfl, by simp, fun k hk _ => heap_alloc_old w.drew _ hk⟩⟩

theorem wp_app8 {o : Oper} {a : Act} {w : World} {K : Act → World → Prop} {Q : Exit → Act → World → Prop} (s y : Operand)
    (ho : o.op = .call { callee := .builtin .append, args := #[s, y], argTypes := #[22, 22] })
    (B : Nat) (v : Value) (xs : List Int) (hs : a.eval s = v) (hown : Out B w v xs) (p : Option Addr) (m c lo hi : Nat) (x : Int) (hx : a.eval y = .slice p m c) (hy : Ri lo hi w p [x]) (hm : m = 1) (h63 : xs.length ≤ 100000) (hbase : B ≤ w.heap.size)
    (h : ∀ v' w', Out B w' v' (xs ++ [x]) → Near8 w w' v v' xs.length → K (a.put o.dst v') w') : o.wp Try.prog a w K Q := by
  obtain ⟨v', w', hr, h2, h3⟩ := run_app8 w o.type B v xs hown p m c lo hi x hy hm h63 hbase
  unfold Oper.wp execOp
  simp only [ho, resolve, invoke, builtin, Sem.run_bind, Sem.run_pure, Result.andThen_ok, List.map_toArray, List.map_cons, List.map_nil, hs, hx, hr]
  exact h v' w' h2 h3
theorem wpList_app8 {ops : Array Oper} {rest : List Oper} {o : Oper} {a : Act} {w : World} {Q : Exit → Act → World → Prop} (hgd : o.guard = none) (s y : Operand)
    (ho : o.op = .call { callee := .builtin .append, args := #[s, y], argTypes := #[22, 22] })
    (B : Nat) (v : Value) (xs : List Int) (hs : a.eval s = v) (hown : Out B w v xs) (p : Option Addr) (m c lo hi : Nat) (x : Int) (hx : a.eval y = .slice p m c) (hy : Ri lo hi w p [x]) (hm : m = 1) (h63 : xs.length ≤ 100000) (hbase : B ≤ w.heap.size)
    (h : ∀ v' w', Out B w' v' (xs ++ [x]) → Near8 w w' v v' xs.length → wpList Try.prog ops Q rest (a.put o.dst v') w') : wpList Try.prog ops Q (o :: rest) a w :=
  wpList_plain hgd fun _ hK => wp_app8 s y ho B v xs hs hown p m c lo hi x hx hy hm h63 hbase fun v' w' h2 h3 => hK _ _ (h v' w' h2 h3)
theorem step_app8 {ops : Array Oper} {o : Oper} {a : Act} {w : World} {K : Act → World → Prop} {Q : Exit → Act → World → Prop} {E : Prop} (hgd : o.guard = none) (s y : Operand)
    (ho : o.op = .call { callee := .builtin .append, args := #[s, y], argTypes := #[22, 22] })
    (B : Nat) (v : Value) (xs : List Int) (hs : a.eval s = v) (hown : Out B w v xs) (p : Option Addr) (m c lo hi : Nat) (x : Int) (hx : a.eval y = .slice p m c) (hy : Ri lo hi w p [x]) (hm : m = 1) (h63 : xs.length ≤ 100000) (hbase : B ≤ w.heap.size)
    (h : ∀ v' w', Out B w' v' (xs ++ [x]) → Near8 w w' v v' xs.length → K (a.put o.dst v') w') :
    if Region.wanted o (yielded ops a.tmps) = true then Oper.wp Try.prog o a w K Q else E := by
  have hw : Region.wanted o (yielded ops a.tmps) = true := by simp [Region.wanted, hgd]
  rw [if_pos hw]
  exact wp_app8 s y ho B v xs hs hown p m c lo hi x hx hy hm h63 hbase h
end Go.Proofs.Yteabodhkgkffiaa
