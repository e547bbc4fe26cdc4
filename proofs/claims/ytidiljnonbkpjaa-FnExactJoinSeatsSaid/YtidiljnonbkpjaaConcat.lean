/- slices.Concat of two slices of marks: in memory of the call's own. -/
import Derived.Test.YtidiljnonbkpjaaMarks
import Derived.Test.YtidiljnonbkpjaaNe
import Derived.Lib.AppendZeros
import Derived.Deep.RegionWith
namespace Go.Proofs.Ytidiljnonbkpjaa
open Go.RowKit

/-- a result of marks in memory of the call's own, behind block B -/
abbrev OutB (B : Nat) (w : World) (v : Value) (xs : List Bool) : Prop := w.ownsRow B 4 1 v xs.length (bv xs)
theorem bv_append (a b : List Bool) : bv (a ++ b) = bv a ++ bv b := by simp [bv]
theorem OutB.below {B : Nat} {w w' : World} {v : Value} {xs : List Bool} (h : OutB B w v xs) (hb : Below w.heap.size w w') : OutB B w' v xs := by
  refine ⟨h.1, h.2.elim .inl (fun ⟨g, cap, cur, hv, hg, hh, r⟩ => .inr ⟨g, cap, cur, hv, hg, ?_, r⟩)⟩
  have hlt : g < w.heap.size := by
    rcases Nat.lt_or_ge g w.heap.size with h' | h'
    · exact h'
    · rw [Array.getElem?_eq_none h'] at hh; cases hh
  rw [hb.block g hlt]; exact hh
theorem OutB.mono {B B' : Nat} {w : World} {v : Value} {xs : List Bool} (h : OutB B w v xs) (hb : B' ≤ B) : OutB B' w v xs :=
  ⟨h.1, h.2.elim .inl (fun ⟨g, cap, cur, hv, hg, r⟩ => .inr ⟨g, cap, cur, hv, Nat.le_trans hb hg, r⟩)⟩
theorem OutB.some' {B : Nat} {w : World} {v : Value} {xs : List Bool} (h : OutB B w v xs) (hv : ¬ v = .slice none 0 0) :
    ∃ g cap ys, v = .slice (some ⟨g, 0, none⟩) xs.length cap ∧ B ≤ g ∧ OwnArr w g 4 ys ∧ ys.take xs.length = bv xs ∧ xs.length ≤ cap ∧ cap ≤ maxLen ∧ ys.length = cap := by
  rcases h.2 with ⟨h1, _⟩ | ⟨g, cap, cur, h1, h2, h3, h4, h5, h6, h7⟩
  · exact absurd h1 hv
  · refine ⟨g, cap, cur.toList, h1, h2, ?_, by simpa using h7, h4, h5, by simpa using h6⟩
    show w.heap[g]? = _
    rw [h3]

theorem bv_one (ys : List Bool) : ∀ u ∈ bv ys, u.oneCell' = true := by
  intro u hu
  unfold bv at hu
  obtain ⟨x, _, rfl⟩ := List.mem_map.1 hu
  rfl
/-- in a plain region -/
theorem wpList_appB {ops : Array Oper} {rest : List Oper} {o : Oper} {a : Act} {w : World} {Q : Exit → Act → World → Prop} (hgd : o.guard = none) (s x : Operand)
    (ho : o.op = .call { callee := .builtin .append, args := #[s, x], argTypes := #[58, 58] })
    (B : Nat) (v : Value) (xs : List Bool) (hs : a.eval s = v) (hown : OutB B w v xs) (b off m c lo hi : Nat) (ys : List Bool) (hx : a.eval x = .slice (some ⟨b, off, none⟩) m c) (hy : Rd lo hi w (some ⟨b, off, none⟩) (bv ys)) (hm : ys.length = m) (h63 : xs.length + m ≤ 100000) (hbase : B ≤ w.heap.size)
    (h : ∀ v' w', OutB B w' v' (xs ++ ys) → w.grownBy w' v.ownBlock → (v' = .slice none 0 0 ↔ v = .slice none 0 0 ∧ m = 0) → wpList Try.prog ops Q rest (a.put o.dst v') w') : wpList Try.prog ops Q (o :: rest) a w := by
  obtain ⟨i0, hi', hz0, hz1, hz2⟩ := info_parts infoBool
  refine wpList_append_own w hgd s x 58 ho B 4 i0 (.bool false) 1 1 Try.underlying58 hi' hz0 hz1 hz2 rfl (by decide) v xs.length (bv xs) hs hown ⟨b, off, none⟩ m c (bv ys) hx (by rw [bv_length]; omega) ?_ (bv_one ys) (by unfold maxLen; omega) (by omega) hbase ?_
  · intro j u hu
    have hj : j < ys.length := by
      rcases Nat.lt_or_ge j ys.length with h' | h'
      · exact h'
      · rw [List.getElem?_eq_none (by rw [bv_length]; exact h')] at hu; cases hu
    obtain ⟨b', off', e, -, -, hc⟩ := hy.cells (by rw [bv_length]; omega)
    simp only [Option.some.injEq, Addr.mk.injEq, and_true] at e
    obtain ⟨rfl, rfl⟩ := e
    rw [Addr.add_lit, hc j (by rw [bv_length]; exact hj)]; exact hu
  · intro v' w' h2 h3 h4
    refine h v' w' ?_ h3 h4
    show w'.ownsRow B _ 1 v' (xs ++ ys).length (bv (xs ++ ys))
    rw [bv_append, List.length_append, hm]; exact h2

set_option maxRecDepth 4000 in
set_option maxHeartbeats 1000000 in
theorem grow_nil (n : Nat) (w : World) (h1 : 1 ≤ n) (hn : n ≤ 100000) :
    Calls Try.prog 72 #[.slice none 0 0, .int .i64 n] w fun e w' => ∃ g c, e = .returned (.slice (some ⟨g, 0, none⟩) 0 c) ∧ OutB w.heap.size w' (.slice (some ⟨g, 0, none⟩) 0 c) [] ∧ w.heap.size ≤ g ∧ c ≤ maxLen ∧ Below w.heap.size w w' := by
  obtain ⟨i0, hi, hz0, hz1, hz2⟩ := info_parts infoBool
  have hr := fun ty => Lib.run_append_nil_zeros (P := Try.prog) w 58 3 ty 4 i0 (.bool false) .i64 .i64 Try.underlying58 Try.underlying3 hi hz0 n (by omega) (by rw [hz1]; omega) (by omega) (by rw [hz2]; omega)
  have hge := grownCap_ge w n 0 4
  have hle := grownCap_le_maxLen w n 0 4 (by unfold maxLen; omega)
  obtain ⟨C, hC⟩ : ∃ C, grownCap w n 0 4 = C := ⟨_, rfl⟩
  rw [hC] at hge hle
  have HR : Hid (∀ ty, (Builtin.append_ #[58, 3] ty #[.slice none 0 0, .int .i64 n]).run Try.prog w = .ok (.slice (some ⟨w.heap.size, 0, none⟩) n C) (w.drew.alloc (.cells (Builtin.zeroCells (Value.bool false).cells n ++ Builtin.zeroCells (Value.bool false).cells (C - n)) 4))) := by
    show ∀ _, _
    intro ty
    rw [← hC]; exact hr ty
  have hO : OutB w.heap.size (w.drew.alloc (.cells (Builtin.zeroCells (Value.bool false).cells n ++ Builtin.zeroCells (Value.bool false).cells (C - n)) 4)) (.slice (some ⟨w.heap.size, 0, none⟩) 0 C) [] := by
    refine ⟨rfl, .inr ⟨w.heap.size, C, _, rfl, Nat.le_refl _, heap_alloc_new w.drew _, Nat.zero_le _, hle, ?_, ?_⟩⟩
    · rw [Array.size_append, size_zeroCells, size_zeroCells]
      show n * 1 + (C - n) * 1 = C * 1
      omega
    · simp [bv]
  have hB : Below w.heap.size w (w.drew.alloc (.cells (Builtin.zeroCells (Value.bool false).cells n ++ Builtin.zeroCells (Value.bool false).cells (C - n)) 4)) := ((Below.refl _ w).drew).alloc (Nat.le_refl _) _
  obtain ⟨W, hW⟩ : ∃ W, w.drew.alloc (.cells (Builtin.zeroCells (Value.bool false).cells n ++ Builtin.zeroCells (Value.bool false).cells (C - n)) 4) = W := ⟨_, rfl⟩
  rw [hW] at HR hO hB
  replace hO := Lib.hid hO
  replace hB := Lib.hid hB
  have hi1 : (0 : Int) < (n : Int) := by omega
  have hi2 : ¬ (n : Int) < 0 := by omega
  clear hr hC hi hz0 hz1 hz2 hW
  go_enter Try.func72, Try.ntmps72
  go_wp2_with (at_builtin; refine Lib.wpList_append_run _ rfl _ _ _ _ rfl _ _ rfl rfl _ _ (HR.out _) ?_)
  go_ret
  exact ⟨_, _, rfl, hO.out, Nat.le_refl _, hle, hB.out⟩

set_option maxRecDepth 4000 in
set_option maxHeartbeats 2000000 in
theorem concat_any (h ba oa na ca bb ob nb cb : Nat) (La Lb : List Bool) (w : World) (lo hi lo2 hi2 hc : Nat) (c0 : w.cell? ⟨h, 0, none⟩ = some (.slice (some ⟨ba, oa, none⟩) na ca)) (c1 : w.cell? ⟨h, 1, none⟩ = some (.slice (some ⟨bb, ob, none⟩) nb cb)) (hh : h < w.heap.size)
    (ra : Rd lo hi w (some ⟨ba, oa, none⟩) (bv La)) (rb : Rd lo2 hi2 w (some ⟨bb, ob, none⟩) (bv Lb)) (hna : La.length = na) (hnb : Lb.length = nb) (h1 : 1 ≤ na + nb) (h2 : na + nb ≤ 1000) :
    Calls Try.prog 42 #[.slice (some ⟨h, 0, none⟩) 2 hc] w fun e w' => ∃ g c, e = .returned (.slice (some ⟨g, 0, none⟩) (na + nb) c) ∧ OutB w.heap.size w' (.slice (some ⟨g, 0, none⟩) (na + nb) c) (La ++ Lb) ∧ Below w.heap.size w w' := by
  have gr := grow_nil (na + nb) w h1 (by omega)
  rw [Int.natCast_add] at gr
  have GR := Lib.hid gr
  have C1 := Lib.hid (fun (w' : World) (hb : Below w.heap.size w w') => (hb.cell (p := ⟨h, 0, none⟩) hh).trans c0)
  have C2 := Lib.hid (fun (w' : World) (hb : Below w.heap.size w w') => (hb.cell (p := ⟨h, 1, none⟩) hh).trans c1)
  have RA := Lib.hid (fun (w' : World) (hb : Below w.heap.size w w') => ra.below hb ra.top)
  have RB := Lib.hid (fun (w' : World) (hb : Below w.heap.size w w') => rb.below hb rb.top)
  have HNA := Lib.hid hna
  have HNB := Lib.hid hnb
  clear gr ra rb hna hnb
  have k1 : ¬ ((na : Int) + (nb : Int)) < 0 := by omega
  have k2 : ¬ (na : Int) < 0 := by omega
  go_enter Try.func42, Try.ntmps42
  go_wp2_with fail
  refine wp_loop_rounds 3 ?_
  rw [rounds_succ]
  go_wp2_with fail
  rw [rounds_succ]
  go_wp2_with fail
  rw [rounds_succ]
  go_wp2_with fail
  refine GR.out.mono ?_
  rintro e w1 ⟨g1, k1', rfl, hO1, hg1, -, hb1⟩
  have HB1 := Lib.hid hb1
  have HO1 := Lib.hid hO1
  have HRA := Lib.hid (RA.out _ hb1)
  have d0 := C1.out _ hb1
  clear hO1 hb1 c0 c1 hg1 GR
  go_wp2_with fail
  refine wp_loop_rounds 3 ?_
  rw [rounds_succ]
  go_wp2_with (at_builtin; refine wpList_appB rfl _ _ rfl w.heap.size (.slice (some ⟨g1, 0, none⟩) 0 k1') [] rfl HO1.out ba oa na ca lo hi La rfl HRA.out HNA.out (by simp; omega) HB1.out.size ?_; intro v2 w2 hO2 hg2 hn2)
  have HB2 := Lib.hid (HB1.out.grown hg2 HB1.out.size (fun k hk => (HO1.out.lt k hk).1))
  have hv2 : ¬ v2 = .slice none 0 0 := fun e => by have := (hn2.1 e).1; simp at this
  have HO2 := Lib.hid hO2
  have HRB := Lib.hid (RB.out _ HB2.out)
  have d1 := C2.out _ HB2.out
  clear hO2 hg2 hn2 HO1 HB1 HRA d0
  go_wp2_with fail
  rw [rounds_succ]
  go_wp2_with (at_builtin; refine wpList_appB rfl _ _ rfl w.heap.size v2 _ rfl HO2.out bb ob nb cb lo2 hi2 Lb rfl HRB.out HNB.out (by have := HNA.out; simp; omega) HB2.out.size ?_; intro v3 w3 hO3 hg3 hn3)
  have HB3 := Lib.hid (HB2.out.grown hg3 HB2.out.size (fun k hk => (HO2.out.lt k hk).1))
  have hv3 : ¬ v3 = .slice none 0 0 := fun e => hv2 (hn3.1 e).1
  rw [List.nil_append] at hO3
  have hl : (La ++ Lb).length = na + nb := by rw [List.length_append, HNA.out, HNB.out]
  obtain ⟨g, c, ys, e, -⟩ := hO3.some' hv3
  rw [hl] at e
  subst e
  have HO3 := Lib.hid hO3
  clear hO3 hg3 hn3 HO2 HB2 HRB d1 hv3 hl
  go_wp2_with fail
  rw [rounds_succ]
  go_wp2_with fail
  go_ret
  exact ⟨g, c, rfl, HO3.out, HB3.out⟩
end Go.Proofs.Ytidiljnonbkpjaa
