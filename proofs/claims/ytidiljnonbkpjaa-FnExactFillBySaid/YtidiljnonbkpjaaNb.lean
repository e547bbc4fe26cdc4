/- impl's neighbors: nearM, for seats of valid Rows, in memory of the call's own. -/
import Derived.Test.YtidiljnonbkpjaaSort2
import Derived.Test.YtidiljnonbkpjaaApp
import Derived.Test.YtidiljnonbkpjaaRowHelp
namespace Go.Proofs.Ytidiljnonbkpjaa
open Go.RowKit

theorem near_ring2 {n p : Nat} (hp : p < n) (hn : 3 ≤ n) : ints (nearM n true p) = [min (((p + n - 1) % n : Nat) : Int) (((p + 1) % n : Nat) : Int), max (((p + n - 1) % n : Nat) : Int) (((p + 1) % n : Nat) : Int)] := by
  rw [near_ring n p hp hn]
  by_cases h1 : p = 0
  · subst h1
    have e1 : (0 + n - 1) % n = n - 1 := by rw [Nat.mod_eq_of_lt (by omega)]; omega
    have e2 : (0 + 1) % n = 1 := Nat.mod_eq_of_lt (by omega)
    rw [if_pos rfl, e1, e2]
    simp only [ints, List.map_cons, List.map_nil]
    rw [Int.min_eq_right (by omega), Int.max_eq_left (by omega)]
  · have e1 : (p + n - 1) % n = p - 1 := by rw [show p + n - 1 = (p - 1) + n by omega, Nat.add_mod_right, Nat.mod_eq_of_lt (by omega)]
    by_cases h2 : p + 1 = n
    · have e2 : (p + 1) % n = 0 := by rw [h2, Nat.mod_self]
      rw [if_neg h1, if_pos h2, e1, e2]
      simp only [ints, List.map_cons, List.map_nil]
      rw [Int.min_eq_right (by omega), Int.max_eq_left (by omega)]
      congr 2
      omega
    · have e2 : (p + 1) % n = p + 1 := Nat.mod_eq_of_lt (by omega)
      rw [if_neg h1, if_neg h2, e1, e2]
      simp only [ints, List.map_cons, List.map_nil]
      rw [Int.min_eq_left (by omega), Int.max_eq_right (by omega)]

/-- two numbers in memory of the call's own: what is kept while they are sorted -/
theorem Out.open2 {B : Nat} {w : World} {v : Value} {x y : Int} (h : Out B w v [x, y]) :
    ∃ g cap ys, v = .slice (some ⟨g, 0, none⟩) 2 cap ∧ B ≤ g ∧ OwnArr w g 3 (.int .i64 x :: .int .i64 y :: ys) ∧ (∀ (w' : World) (x' y' : Int), OwnArr w' g 3 (.int .i64 x' :: .int .i64 y' :: ys) → Out B w' v [x', y']) := by
  rcases h.2 with ⟨_, h1⟩ | ⟨g, cap, cur, hv, hB, hh, h3, h4, h5, h6⟩
  · simp at h1
  · have ho : OwnArr w g 3 cur.toList := hh
    have h6' : cur.toList.take 2 = [.int .i64 x, .int .i64 y] := h6
    obtain ⟨ys, hys⟩ : ∃ ys, cur.toList = .int .i64 x :: .int .i64 y :: ys := by
      refine ⟨cur.toList.drop 2, ?_⟩
      have := List.take_append_drop 2 cur.toList
      rw [h6'] at this
      exact this.symm
    have hs : ys.length + 2 = cap := by
      have : cur.toList.length = cap * 1 := by rw [Array.length_toList]; exact h5
      rw [hys] at this
      simp at this; omega
    rw [hys] at ho
    refine ⟨g, cap, ys, hv, hB, ho, fun w' x' y' h' => ⟨rfl, .inr ⟨g, cap, _, hv, hB, h', h3, h4, ?_, ?_⟩⟩⟩
    · simp; omega
    · rfl

set_option maxRecDepth 4000 in
set_option maxHeartbeats 2000000 in
theorem neighbors_ring (n : Nat) (p : Option Addr) (m cap : Nat) (a : Nat) (w : World) (hn : n ≤ 24) (h3 : 3 ≤ n) (ha : a < n) :
    Calls Try.prog 102 #[rowV n true p m cap, .int .i64 a] w fun e w' => ∃ v, e = .returned v ∧ Out w.heap.size w' v (ints (nearM n true a)) ∧ Below w.heap.size w w' := by
  rw [near_ring2 ha h3]
  obtain ⟨z1, hz1⟩ : ∃ z, (a + n - 1) % n = z := ⟨_, rfl⟩
  obtain ⟨z2, hz2⟩ : ∃ z, (a + 1) % n = z := ⟨_, rfl⟩
  rw [hz1, hz2]
  have t1 : ((a : Int) - 1 + (n : Int)).tmod (n : Int) = (z1 : Int) := by
    rw [Int.tmod_eq_emod_of_nonneg (by omega), ← hz1, show (a : Int) - 1 + (n : Int) = ((a + n - 1 : Nat) : Int) by omega]; rfl
  have t2 : ((a : Int) + 1 + (n : Int)).tmod (n : Int) = (z2 : Int) := by
    rw [Int.tmod_eq_emod_of_nonneg (by omega), ← hz2, ← Nat.add_mod_right (a + 1) n, show (a : Int) + 1 + (n : Int) = ((a + 1 + n : Nat) : Int) by omega]; rfl
  have e1 : IntKind.i64.wrap ((a : Int) - 1) = (a : Int) - 1 := IntWalk.i64_in _ (by omega)
  have e2 : IntKind.i64.wrap ((a : Int) + 1) = (a : Int) + 1 := IntWalk.i64_in _ (by omega)
  have e3 : IntKind.i64.wrap ((a : Int) - 1 + (n : Int)) = (a : Int) - 1 + (n : Int) := IntWalk.i64_in _ (by omega)
  have e4 : IntKind.i64.wrap ((a : Int) + 1 + (n : Int)) = (a : Int) + 1 + (n : Int) := IntWalk.i64_in _ (by omega)
  have hn0 : ¬ n = 0 := by omega
  clear hz1 hz2 ha
  obtain ⟨w0, hw0⟩ : ∃ w0, w0 = ((w.alloc (.cells #[Value.int .i64 n, Value.bool true, Value.slice p m cap] 26)).alloc (.cells #[] 3)).alloc (.cells #[Value.int .i64 ((a : Int) - 1), Value.int .i64 ((a : Int) + 1)] 3) := ⟨_, rfl⟩
  have HX : Hid (OwnArr w0 w.heap.size 26 [.int .i64 n, .bool true, .slice p m cap]) := by show OwnArr _ _ _ _; rw [hw0]; exact ((OwnArr.made w _ [_, _, _]).alloc _).alloc _
  have HL : Hid (OwnArr w0 (w.heap.size + 1 + 1) 3 [.int .i64 ((a : Int) - 1), .int .i64 ((a : Int) + 1)]) := by show OwnArr _ _ _ _; rw [hw0]; exact OwnArr.mk' rfl (by simp)
  have HB : Hid (Below w.heap.size w w0) := by show Below _ _ _; rw [hw0]; exact (((Below.refl _ _).alloc (Nat.le_refl _) _).alloc (by simp) _).alloc (by simp; omega) _
  have HO : Hid (Out (w.heap.size + 1) w0 (.slice (some ⟨w.heap.size + 1, 0, none⟩) 0 0) []) := by
    show Out _ _ _ _
    have h := Out.nilLit (w.alloc (.cells #[Value.int .i64 n, Value.bool true, Value.slice p m cap] 26))
    have hs : (w.alloc (.cells #[Value.int .i64 n, Value.bool true, Value.slice p m cap] 26)).heap.size = w.heap.size + 1 := by simp
    rw [hs] at h
    rw [hw0]; exact World.ownsRow.alloc h _
  have hs0 : Hid (w0.heap.size = w.heap.size + 3) := by show _ = _; rw [hw0]; simp
  go_enter Try.func102, Try.ntmps102
  go_wp2_with fail
  rw [← hw0]
  clear hw0
  obtain ⟨x0, x1, x2, -⟩ := HX.out.three
  have l0 := HL.out.cell 0
  have l1 := HL.out.cell 1
  simp only [List.getElem?_cons_zero, List.getElem?_cons_succ] at l0 l1
  refine wp_loop_rounds 3 ?_
  rw [rounds_succ]
  go_wp2_with (at_builtin; refine wpList_app rfl _ _ rfl (w.heap.size + 1) (.slice (some ⟨w.heap.size + 1, 0, none⟩) 0 0) [] rfl (World.ownsRow.alloc HO.out (.cells #[.int .i64 (z1 : Int)] 3)) _ 1 1 0 (w0.heap.size + 1) [(z1 : Int)] rfl (lit_one (OwnArr.made w0 _ [_]) _ (Nat.lt_succ_self _) (by simp)) rfl (by simp) (by have := hs0.out; simp; omega) ?_; intro v1 w1 hO1 hg1 hn1)
  rw [List.nil_append] at hO1
  have HX1 := Lib.hid (OwnArr.grown (HX.out.alloc _) hg1 (by simp [Value.ownBlock]))
  have HL1 := Lib.hid (OwnArr.grown (HL.out.alloc _) hg1 (by simp [Value.ownBlock]))
  have HB1 := Lib.hid ((HB.out.alloc HB.out.size _).grown hg1 (by have := hs0.out; simp; omega) (fun k hk => by simp [Value.ownBlock] at hk; omega))
  have hs1 : w.heap.size + 3 ≤ w1.heap.size := by have := hg1.size; have := hs0.out; simp at *; omega
  have hne1 := Lib.hid (own_ne hO1 HX1.out)
  have HO1 := Lib.hid hO1
  clear hO1 hg1 hn1 HX HL HB HO x0 x1 x2 l0 l1
  obtain ⟨x0, x1, x2, -⟩ := HX1.out.three
  have l1 := HL1.out.cell 1
  simp only [List.getElem?_cons_zero, List.getElem?_cons_succ] at l1
  go_wp2_with fail
  rw [rounds_succ]
  go_wp2_with (at_builtin; refine wpList_app rfl _ _ rfl (w.heap.size + 1) v1 [(z1 : Int)] rfl (World.ownsRow.alloc HO1.out (.cells #[.int .i64 (z2 : Int)] 3)) _ 1 1 0 (w1.heap.size + 1) [(z2 : Int)] rfl (lit_one (OwnArr.made w1 _ [_]) _ (Nat.lt_succ_self _) (by simp)) rfl (by simp) (by simp; omega) ?_; intro v2 w2 hO2 hg2 hn2)
  have HB2 := Lib.hid ((HB1.out.alloc HB1.out.size _).grown hg2 (by simp; omega) (fun k hk => by have := (HO1.out.lt k hk).1; omega))
  have hs2 : w.heap.size + 3 ≤ w2.heap.size := by have := hg2.size; simp at this; omega
  obtain ⟨g, c, ys, rfl, hg, ho, hback⟩ := Out.open2 hO2
  have hglt := ho.lt
  have SO := Lib.hid (sort_two g c (z1 : Int) (z2 : Int) ys w2 ho)
  have HK := Lib.hid hback
  clear hO2 hg2 hn2 hback ho HO1 HB1 HX1 HL1 x0 x1 x2 l1 hne1
  go_wp2_with fail
  rw [rounds_succ]
  go_wp2_with fail
  refine SO.out.mono ?_
  rintro e w3 ⟨rfl, ho3, hk3⟩
  go_wp2_with fail
  go_ret
  refine ⟨_, rfl, (HK.out w3 _ _ ho3).mono (Nat.le_succ _), ?_⟩
  exact HB2.out.trans ((hk3.below (Nat.le_of_lt hglt)).mono (by omega))

set_option maxRecDepth 4000 in
set_option maxHeartbeats 2000000 in
theorem neighbors_line (n : Nat) (p : Option Addr) (m cap : Nat) (a : Nat) (w : World) (hn : n ≤ 24) (h2 : 2 ≤ n) (ha : a < n) :
    Calls Try.prog 102 #[rowV n false p m cap, .int .i64 a] w fun e w' => ∃ v, e = .returned v ∧ Out w.heap.size w' v (ints (nearM n false a)) ∧ Below w.heap.size w w' := by
  rw [near_line n a ha]
  have e1 : IntKind.i64.wrap ((a : Int) - 1) = (a : Int) - 1 := IntWalk.i64_in _ (by omega)
  have e2 : IntKind.i64.wrap ((a : Int) + 1) = (a : Int) + 1 := IntWalk.i64_in _ (by omega)
  obtain ⟨w0, hw0⟩ : ∃ w0, w0 = ((w.alloc (.cells #[Value.int .i64 n, Value.bool false, Value.slice p m cap] 26)).alloc (.cells #[] 3)).alloc (.cells #[Value.int .i64 ((a : Int) - 1), Value.int .i64 ((a : Int) + 1)] 3) := ⟨_, rfl⟩
  have HX : Hid (OwnArr w0 w.heap.size 26 [.int .i64 n, .bool false, .slice p m cap]) := by show OwnArr _ _ _ _; rw [hw0]; exact ((OwnArr.made w _ [_, _, _]).alloc _).alloc _
  have HL : Hid (OwnArr w0 (w.heap.size + 1 + 1) 3 [.int .i64 ((a : Int) - 1), .int .i64 ((a : Int) + 1)]) := by show OwnArr _ _ _ _; rw [hw0]; exact OwnArr.mk' rfl (by simp)
  have HB : Hid (Below w.heap.size w w0) := by show Below _ _ _; rw [hw0]; exact (((Below.refl _ _).alloc (Nat.le_refl _) _).alloc (by simp) _).alloc (by simp; omega) _
  have HO : Hid (Out (w.heap.size + 1) w0 (.slice (some ⟨w.heap.size + 1, 0, none⟩) 0 0) []) := by
    show Out _ _ _ _
    have h := Out.nilLit (w.alloc (.cells #[Value.int .i64 n, Value.bool false, Value.slice p m cap] 26))
    have hs : (w.alloc (.cells #[Value.int .i64 n, Value.bool false, Value.slice p m cap] 26)).heap.size = w.heap.size + 1 := by simp
    rw [hs] at h
    rw [hw0]; exact World.ownsRow.alloc h _
  have hs0 : Hid (w0.heap.size = w.heap.size + 3) := by show _ = _; rw [hw0]; simp
  by_cases h0 : a = 0
  · have g0 : ¬ (0 : Int) ≤ (a : Int) - 1 := by omega
    have g1 : ¬ (1 : Int) ≤ (a : Int) := by omega
    have g2 : ¬ (0 : Int) < (a : Int) := by omega
    have g4 : (a : Int) + 1 < (n : Int) := by omega
    have g5 : (0 : Int) ≤ (a : Int) + 1 := by omega
    have el : ints ((if 0 < a then [a - 1] else []) ++ (if a + 1 < n then [a + 1] else [])) = [(a : Int) + 1] := by
      rw [if_neg (by omega), if_pos (by omega)]
      rfl
    rw [el]
    clear h0
    go_enter Try.func102, Try.ntmps102
    go_wp2_with fail
    rw [← hw0]
    clear hw0
    obtain ⟨x0, x1, x2, -⟩ := HX.out.three
    have l0 := HL.out.cell 0
    have l1 := HL.out.cell 1
    simp only [List.getElem?_cons_zero, List.getElem?_cons_succ] at l0 l1
    refine wp_loop_rounds 3 ?_
    rw [rounds_succ]
    go_wp2_with fail
    rw [rounds_succ]
    go_wp2_with (at_builtin; refine wpList_app rfl _ _ rfl (w.heap.size + 1) (.slice (some ⟨w.heap.size + 1, 0, none⟩) 0 0) [] rfl (World.ownsRow.alloc HO.out (.cells #[.int .i64 ((a : Int) + 1)] 3)) _ 1 1 0 (w0.heap.size + 1) [(a : Int) + 1] rfl (lit_one (OwnArr.made w0 _ [_]) _ (Nat.lt_succ_self _) (by simp)) rfl (by simp) (by have := hs0.out; simp; omega) ?_; intro v1 w1 hO1 hg1 hn1)
    rw [List.nil_append] at hO1
    have HX1 := Lib.hid (OwnArr.grown (HX.out.alloc _) hg1 (by simp [Value.ownBlock]))
    have HL1 := Lib.hid (OwnArr.grown (HL.out.alloc _) hg1 (by simp [Value.ownBlock]))
    have HB1 := Lib.hid ((HB.out.alloc HB.out.size _).grown hg1 (by have := hs0.out; simp; omega) (fun k hk => by simp [Value.ownBlock] at hk; omega))
    have hs1 : w.heap.size + 3 ≤ w1.heap.size := by have := hg1.size; have := hs0.out; simp at *; omega
    obtain ⟨p1, c1', rfl, -⟩ := hO1.rd
    have HO1 := Lib.hid hO1
    clear hO1 hg1 hn1 HX HL HB HO x0 x1 x2 l0 l1
    obtain ⟨x0, x1, x2, -⟩ := HX1.out.three
    have l1 := HL1.out.cell 1
    simp only [List.getElem?_cons_zero, List.getElem?_cons_succ] at l1
    go_wp2_with fail
    rw [rounds_succ]
    go_wp2_with fail
    refine (sort_one _ _ _).mono ?_
    rintro e w3 ⟨rfl, rfl⟩
    go_wp2_with fail
    go_ret
    exact ⟨_, rfl, HO1.out.mono (Nat.le_succ _), HB1.out⟩
  · have g0 : (0 : Int) < (a : Int) := by omega
    have g1 : (1 : Int) ≤ (a : Int) := by omega
    have g2 : (a : Int) - 1 < (n : Int) := by omega
    have g3 : (0 : Int) ≤ (a : Int) - 1 := by omega
    have c1 : ((a - 1 : Nat) : Int) = (a : Int) - 1 := by omega
    rw [if_pos (by omega)]
    by_cases h1 : a + 1 < n
    · have g4 : (a : Int) + 1 < (n : Int) := by omega
      have g5 : (0 : Int) ≤ (a : Int) + 1 := by omega
      rw [if_pos h1]
      have el : ints ([a - 1] ++ [a + 1]) = [min ((a : Int) - 1) ((a : Int) + 1), max ((a : Int) - 1) ((a : Int) + 1)] := by
        rw [Int.min_eq_left (by omega), Int.max_eq_right (by omega)]
        simp only [ints, List.cons_append, List.nil_append, List.map_cons, List.map_nil, c1]
        rfl
      rw [el]
      go_enter Try.func102, Try.ntmps102
      go_wp2_with fail
      rw [← hw0]
      clear hw0
      obtain ⟨x0, x1, x2, -⟩ := HX.out.three
      have l0 := HL.out.cell 0
      have l1 := HL.out.cell 1
      simp only [List.getElem?_cons_zero, List.getElem?_cons_succ] at l0 l1
      refine wp_loop_rounds 3 ?_
      rw [rounds_succ]
      go_wp2_with (at_builtin; refine wpList_app rfl _ _ rfl (w.heap.size + 1) (.slice (some ⟨w.heap.size + 1, 0, none⟩) 0 0) [] rfl (World.ownsRow.alloc HO.out (.cells #[.int .i64 ((a : Int) - 1)] 3)) _ 1 1 0 (w0.heap.size + 1) [(a : Int) - 1] rfl (lit_one (OwnArr.made w0 _ [_]) _ (Nat.lt_succ_self _) (by simp)) rfl (by simp) (by have := hs0.out; simp; omega) ?_; intro v1 w1 hO1 hg1 hn1)
      rw [List.nil_append] at hO1
      have HX1 := Lib.hid (OwnArr.grown (HX.out.alloc _) hg1 (by simp [Value.ownBlock]))
      have HL1 := Lib.hid (OwnArr.grown (HL.out.alloc _) hg1 (by simp [Value.ownBlock]))
      have HB1 := Lib.hid ((HB.out.alloc HB.out.size _).grown hg1 (by have := hs0.out; simp; omega) (fun k hk => by simp [Value.ownBlock] at hk; omega))
      have hs1 : w.heap.size + 3 ≤ w1.heap.size := by have := hg1.size; have := hs0.out; simp at *; omega
      have hne1 := Lib.hid (own_ne hO1 HX1.out)
      have HO1 := Lib.hid hO1
      clear hO1 hg1 hn1 HX HL HB HO x0 x1 x2 l0 l1
      obtain ⟨x0, x1, x2, -⟩ := HX1.out.three
      have l1 := HL1.out.cell 1
      simp only [List.getElem?_cons_zero, List.getElem?_cons_succ] at l1
      go_wp2_with fail
      rw [rounds_succ]
      go_wp2_with (at_builtin; refine wpList_app rfl _ _ rfl (w.heap.size + 1) v1 [((a : Int) - 1)] rfl (World.ownsRow.alloc HO1.out (.cells #[.int .i64 ((a : Int) + 1)] 3)) _ 1 1 0 (w1.heap.size + 1) [((a : Int) + 1)] rfl (lit_one (OwnArr.made w1 _ [_]) _ (Nat.lt_succ_self _) (by simp)) rfl (by simp) (by simp; omega) ?_; intro v2 w2 hO2 hg2 hn2)
      have HB2 := Lib.hid ((HB1.out.alloc HB1.out.size _).grown hg2 (by simp; omega) (fun k hk => by have := (HO1.out.lt k hk).1; omega))
      have hs2 : w.heap.size + 3 ≤ w2.heap.size := by have := hg2.size; simp at this; omega
      obtain ⟨g, c, ys, rfl, hg, ho, hback⟩ := Out.open2 hO2
      have hglt := ho.lt
      have SO := Lib.hid (sort_two g c ((a : Int) - 1) ((a : Int) + 1) ys w2 ho)
      have HK := Lib.hid hback
      clear hO2 hg2 hn2 hback ho HO1 HB1 HX1 HL1 x0 x1 x2 l1 hne1
      go_wp2_with fail
      rw [rounds_succ]
      go_wp2_with fail
      refine SO.out.mono ?_
      rintro e w3 ⟨rfl, ho3, hk3⟩
      go_wp2_with fail
      go_ret
      refine ⟨_, rfl, (HK.out w3 _ _ ho3).mono (Nat.le_succ _), ?_⟩
      exact HB2.out.trans ((hk3.below (Nat.le_of_lt hglt)).mono (by omega))
    · have g4 : ¬ (a : Int) + 1 < (n : Int) := by omega
      have g5 : (0 : Int) ≤ (a : Int) + 1 := by omega
      rw [if_neg h1]
      have el : ints ([a - 1] ++ []) = [(a : Int) - 1] := by
        simp only [ints, List.append_nil, List.map_cons, List.map_nil, c1]
      rw [el]
      go_enter Try.func102, Try.ntmps102
      go_wp2_with fail
      rw [← hw0]
      clear hw0
      obtain ⟨x0, x1, x2, -⟩ := HX.out.three
      have l0 := HL.out.cell 0
      have l1 := HL.out.cell 1
      simp only [List.getElem?_cons_zero, List.getElem?_cons_succ] at l0 l1
      refine wp_loop_rounds 3 ?_
      rw [rounds_succ]
      go_wp2_with (at_builtin; refine wpList_app rfl _ _ rfl (w.heap.size + 1) (.slice (some ⟨w.heap.size + 1, 0, none⟩) 0 0) [] rfl (World.ownsRow.alloc HO.out (.cells #[.int .i64 ((a : Int) - 1)] 3)) _ 1 1 0 (w0.heap.size + 1) [(a : Int) - 1] rfl (lit_one (OwnArr.made w0 _ [_]) _ (Nat.lt_succ_self _) (by simp)) rfl (by simp) (by have := hs0.out; simp; omega) ?_; intro v1 w1 hO1 hg1 hn1)
      rw [List.nil_append] at hO1
      have HX1 := Lib.hid (OwnArr.grown (HX.out.alloc _) hg1 (by simp [Value.ownBlock]))
      have HL1 := Lib.hid (OwnArr.grown (HL.out.alloc _) hg1 (by simp [Value.ownBlock]))
      have HB1 := Lib.hid ((HB.out.alloc HB.out.size _).grown hg1 (by have := hs0.out; simp; omega) (fun k hk => by simp [Value.ownBlock] at hk; omega))
      have hs1 : w.heap.size + 3 ≤ w1.heap.size := by have := hg1.size; have := hs0.out; simp at *; omega
      obtain ⟨p1, c1', rfl, -⟩ := hO1.rd
      have HO1 := Lib.hid hO1
      clear hO1 hg1 hn1 HX HL HB HO x0 x1 x2 l0 l1
      obtain ⟨x0, x1, x2, -⟩ := HX1.out.three
      have l1 := HL1.out.cell 1
      simp only [List.getElem?_cons_zero, List.getElem?_cons_succ] at l1
      go_wp2_with fail
      rw [rounds_succ]
      go_wp2_with fail
      rw [rounds_succ]
      go_wp2_with fail
      refine (sort_one _ _ _).mono ?_
      rintro e w3 ⟨rfl, rfl⟩
      go_wp2_with fail
      go_ret
      exact ⟨_, rfl, HO1.out.mono (Nat.le_succ _), HB1.out⟩
end Go.Proofs.Ytidiljnonbkpjaa
