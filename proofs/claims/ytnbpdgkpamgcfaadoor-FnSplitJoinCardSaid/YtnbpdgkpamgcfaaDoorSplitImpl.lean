/- impl.SplitString: the pieces of a text at one byte. -/
import Derived.ArgAppend
import Derived.RangeFuncNested
import Derived.RangeFuncBound
import Derived.RangeFuncCalls
import Derived.RangeFuncLeaves
import Derived.Shelf.Abstract
import Derived.Shelf.RegionOpen
import Derived.OwnWalkIn
import Derived.TacticsInMore
import Derived.LoopNIn
import Derived.LoopIn
import Derived.Test.YtnbpdgkpamgcfaaDoorSplitIter
import Derived.Test.YtnbpdgkpamgcfaaDoorRangeOwn
import Derived.Test.YtnbpdgkpamgcfaaDoorLibStr
namespace Go.Proofs.YtnbpdgkpamgcfaaDoor
open Go.RowKit Go.Shelf
attribute [local go_sem] Oper.semAt_some

theorem own_mono {w : World} {base base' : Nat} {e : TypeId} {size : Nat} {v : Value} {n : Nat} {xs : List Value} (h : w.ownsRow base e size v n xs) (hb : base' ≤ base) : w.ownsRow base' e size v n xs := by
  refine ⟨h.1, ?_⟩
  rcases h.2 with h | ⟨g, cap, cur, e, hB, rest⟩
  · exact .inl h
  · exact .inr ⟨g, cap, cur, e, Nat.le_trans hb hB, rest⟩

/-- an append onto an empty slice of no room, or onto one of the call's own, in a region that draws, in a round -/
theorem stepIn_append_new {F : Fence} {m' : Nat} {P : Program} {ops : Array Oper} {o : Oper} {a : Act} {w : World} {K : Act → World → Prop} {Q : Exit → Act → World → Prop} {E : Prop}
    (hg : o.guard = none) (s x : Operand) (t : TypeId) (hop : o.op = Op.call { callee := Callee.builtin Builtin.append, args := #[s, x], argTypes := #[t, t] })
    (base : Nat) (e : TypeId) (i : TypeInfo) (z : Value) (size bytes : Nat) (h1 : P.underlying t = some (.slice e)) (h2 : P.info? e = some i) (h3 : i.zero = some z) (h4 : i.size = size) (h5 : i.bytes = bytes) (h6 : z.cells.size = size) (h7 : 0 < size)
    (v : Value) (k : Nat) (xs : List Value) (hs : a.eval s = v) (hcase : (∃ g, v = .slice (some ⟨g, 0, none⟩) 0 0 ∧ k = 0 ∧ xs = []) ∨ w.ownsRow base e size v k xs)
    (ad : Addr) (m c : Nat) (news : List Value) (hx : a.eval x = .slice (some ad) m c) (hm : 0 < m) (hn : news.length = m * size) (hc : ∀ j u, news[j]? = some u → w.cell? (ad.add j) = some u) (h1c : ∀ u ∈ news, u.oneCell' = true)
    (b1 : k + m ≤ maxLen) (b2 : (k + m) * bytes ≤ 140737488355328) (b3 : base ≤ w.heap.size)
    (hK : ∀ v' w' row, w'.ownsRow base e size v' (k + m) (xs ++ news) → w.grownBy w' row → (∀ j, row = some j → base ≤ j) → K (a.put o.dst v') w') :
    if Region.wanted o (yielded ops a.tmps) = true then Oper.wpIn F m' P o a w K Q else E := by
  have hw : Region.wanted o (yielded ops a.tmps) = true := by simp [Region.wanted, hg]
  rw [if_pos hw]
  obtain ⟨v', w', row, hrun, r1, r2, r3⟩ : ∃ v' w' row, (Builtin.append_ #[t, t] o.type #[v, .slice (some ad) m c]).run P w = .ok v' w' ∧ w'.ownsRow base e size v' (k + m) (xs ++ news) ∧ w.grownBy w' row ∧ (∀ j, row = some j → base ≤ j) := by
    rcases hcase with ⟨g, rfl, rfl, rfl⟩ | hown
    · obtain ⟨v', w', hrun, r1, r2⟩ := run_append_arg_grows (P := P) (w := w) t o.type e i z size bytes h1 h2 h3 h4 h5 h6 h7 ⟨g, 0, none⟩ 0 0 [] (by simp) (by simp) ad m c news hn hc (by omega) b1 b2
      exact ⟨v', w', none, hrun, own_mono r1 b3, r2, fun j e => by cases e⟩
    · obtain ⟨v', w', hrun, r1, r2, _⟩ := run_append_own (P := P) w base t o.type e i z size bytes h1 h2 h3 h4 h5 h6 h7 v k xs hown ad m c news hn hc h1c b1 b2 b3
      exact ⟨v', w', _, hrun, r1, r2, fun j e => (hown.lt j e).1⟩
  unfold Oper.wpIn
  refine ⟨?_, ?_⟩
  · simp [Oper.about, hop, resolve, Target.leads, Sem.run_pure]
  · rw [Oper.semAt_plain F _ _ (by rw [hop]; intro c hc'; cases hc')]
    simp [execOp, hop, resolve, invoke, builtin, hs, hx, hrun, Result.andThen]
    exact hK v' w' row r1 r2 r3

set_option maxHeartbeats 400000 in
theorem splitSeq_any (s sep : ByteArray) (w : World) :
    Calls Tryd.prog 51 #[.string s, .string sep] w fun e w' => e = .returned (.func (.func 67) #[] #[.pointer (some ⟨w.heap.size + 1, 0, none⟩), .pointer (some ⟨w.heap.size, 0, none⟩), .pointer (some ⟨w.heap.size + 2, 0, none⟩)]) ∧
      w' = ((w.alloc (.cells #[.string s] 9)).alloc (.cells #[.string sep] 9)).alloc (.cells #[.int .i64 0] 3) := by
  go_enter Tryd.func51, Tryd.ntmps51
  go_wp2
  go_ret
  exact ⟨rfl, rfl⟩

/-- what holds between two rounds of SplitString's loop, n blocks lying when the call began: n + 1 is the box of parts, which holds v, n + 3 and n + 4 the iterator's, n + 5 and n + 6 the loop's -/
def SpV (n : Nat) (w : World) (c : UInt8) (rec : Loop) (pre : List (List UInt8)) (v : Value) (W : World) : Prop :=
  Boxed W (n + 1) 34 v ∧ ((v = .slice (some ⟨n, 0, none⟩) 0 0 ∧ pre = []) ∨ W.ownsRow (n + 7) 9 1 v pre.length (strVals pre)) ∧
  Boxed W (n + 3) 9 (.string ⟨#[c]⟩) ∧ Boxed W (n + 4) 3 (.int .i64 0) ∧ W.heap[n + 6]? = some (.loop rec) ∧ W.heap[n + 5]? = some (.deferred (some [])) ∧
  Below n w W ∧ n + 7 ≤ W.heap.size

theorem SpV.turn {n : Nat} {w : World} {c : UInt8} {rec : Loop} {pre : List (List UInt8)} {v : Value} {W W' : World} (h : SpV n w c rec pre v W) {b : Nat} (hg : W.grownBy W' (some b)) (hb : b = n + 2) : SpV n w c rec pre v W' := by
  subst hb
  obtain ⟨hv, ho, h3, h4, h6, h5, hb, hs⟩ := h
  refine ⟨hv.kept hg (by simp), ho.imp id (fun ho => ho.kept hg (.inr fun e => by have := (ho.lt _ e).1; omega)), h3.kept hg (by simp), h4.kept hg (by simp), ?_, ?_, hb.grown hg (by omega) (fun k e => by cases e; omega), by have := hg.size; omega⟩
  · rw [hg.block _ (by omega) (by simp)]; exact h6
  · rw [hg.block _ (by omega) (by simp)]; exact h5

/-- a slice of strings of the call's own, which may be written -/
def WStrs (B : Nat) (w : World) (v : Value) (ss : List ByteArray) : Prop := ∃ g cap xs, v = .slice (some ⟨g, 0, none⟩) ss.length cap ∧ ss.length ≤ cap ∧ B ≤ g ∧ OwnArr w g 9 xs ∧ ss.length ≤ xs.length ∧ InStrs w (some ⟨g, 0, none⟩) ss
theorem w_strs {B : Nat} {w : World} {v : Value} {ps : List (List UInt8)} (h : w.ownsRow B 9 1 v ps.length (strVals ps)) (h0 : 0 < ps.length) (hl : ps.length ≤ 9223372036854775807) (he : ∀ p ∈ ps, p.length ≤ 9223372036854775807) :
    WStrs B w v (ps.map fun l => ⟨l.toArray⟩) := by
  obtain ⟨g, cap, e1, e2, e3, e4⟩ := own_strs h h0 hl he
  rcases h.2 with ⟨_, hz⟩ | ⟨g', cap', cur, hv, hB, hh, hn, hcap, hcur, htake⟩
  · omega
  · rw [hv] at e1
    simp only [Value.slice.injEq, Option.some.injEq, Addr.mk.injEq, and_true] at e1
    obtain ⟨rfl, _, rfl⟩ := e1
    exact ⟨g', cap', cur.toList, by rw [hv]; simp, e2, e3, hh, by simp; omega, e4⟩

theorem box_below {W W' : World} {B : Nat} {t : TypeId} {v : Value} (h : Boxed W B t v) (hg : Below W.heap.size W W') : Boxed W' B t v := by
  have := h.lt
  unfold Boxed at *; rw [hg.block _ this]; exact h

theorem own_below {W W' : World} {base : Nat} {e : TypeId} {size : Nat} {v : Value} {n : Nat} {xs : List Value} (h : W.ownsRow base e size v n xs) (hg : Below W.heap.size W W') : W'.ownsRow base e size v n xs := by
  refine ⟨h.1, ?_⟩
  rcases h.2 with h | ⟨g, cap, cur, e, hB, hh, rest⟩
  · exact .inl h
  · exact .inr ⟨g, cap, cur, e, hB, by
      rw [hg.block g (by
        rcases Nat.lt_or_ge g W.heap.size with h' | h'
        · exact h'
        · rw [Array.getElem?_eq_none h'] at hh; cases hh)]
      exact hh, rest⟩

theorem SpV.grow {n : Nat} {w : World} {c : UInt8} {rec : Loop} {pre : List (List UInt8)} {v : Value} {W W' : World} (h : SpV n w c rec pre v W) (hg : Below W.heap.size W W') : SpV n w c rec pre v W' := by
  obtain ⟨hv, ho, h3, h4, h6, h5, hb, hs⟩ := h
  refine ⟨box_below hv hg, ho.imp id (fun ho => own_below ho hg), box_below h3 hg, box_below h4 hg, ?_, ?_, hb.trans (hg.mono (by omega)), by have := hg.size; omega⟩
  · rw [hg.block _ (by omega)]; exact h6
  · rw [hg.block _ (by omega)]; exact h5

theorem SpV.rec {n : Nat} {w : World} {c : UInt8} {rec : Loop} {pre : List (List UInt8)} {v : Value} {W : World} (h : SpV n w c rec pre v W) (rec' : Loop) : SpV n w c rec' pre v (W.putObj (n + 6) (.loop rec')) := by
  obtain ⟨hv, ho, h3, h4, h6, h5, hb, hs⟩ := h
  have hg := grownBy_putObj' W (n + 6) (.loop rec')
  refine ⟨hv.kept hg (by simp), ho.imp id (fun ho => ho.kept hg (.inr fun e => by have := (ho.lt _ e).1; omega)), h3.kept hg (by simp), h4.kept hg (by simp), World.putObj_heap_same (by omega), ?_, hb.grown hg (by omega) (fun k e => by cases e; omega), by have := hg.size; omega⟩
  · rw [hg.block _ (by omega) (by simp)]; exact h5

/-- behind the append, behind the store -/
theorem SpV.app {n : Nat} {w : World} {c : UInt8} {rec : Loop} {pre : List (List UInt8)} {v v' : Value} {W W' : World} {row : Option Nat} {x : List UInt8} (h : SpV n w c rec pre v W) (hg : W.grownBy W' row) (hr : ∀ j, row = some j → n + 7 ≤ j)
    (ho : W'.ownsRow (n + 7) 9 1 v' (pre.length + 1) (strVals (pre ++ [x]))) : Boxed W' (n + 1) 34 v ∧ SpV n w c rec (pre ++ [x]) v' (W'.setCell ⟨n + 1, 0, none⟩ v') := by
  obtain ⟨hv, _, h3, h4, h6, h5, hb, hs⟩ := h
  have hne : ∀ k, k < n + 7 → some k ≠ row := fun k hk e => by have := hr k e.symm; omega
  have hv' := hv.kept hg (hne _ (by omega))
  have hs' : n + 7 ≤ W'.heap.size := by have := hg.size; omega
  have hg2 := grownBy_setCell' W' (n + 1) v'
  refine ⟨hv', hv'.set v', .inr ?_, (h3.kept hg (hne _ (by omega))).other (by omega) _, (h4.kept hg (hne _ (by omega))).other (by omega) _, ?_, ?_, (hb.grown hg (by omega) (fun j e => by have := hr j e; omega)).grown hg2 (by omega) (fun k e => by cases e; omega), by have := hg2.size; omega⟩
  · have hl : (pre ++ [x]).length = pre.length + 1 := by simp
    rw [hl]
    refine ho.kept hg2 (.inr fun e => ?_)
    have := (ho.lt _ e).1
    omega
  · rw [hg2.block _ (by omega) (by simp), hg.block _ (by omega) (hne _ (by omega))]; exact h6
  · rw [hg2.block _ (by omega) (by simp), hg.block _ (by omega) (hne _ (by omega))]; exact h5

set_option maxRecDepth 100000 in
set_option maxHeartbeats 4000000 in
theorem splitI_some (s : ByteArray) (c : UInt8) (w : World) (hs : s.size ≤ 4000) :
    Calls Tryd.prog 23 #[.string s, .string ⟨#[c]⟩] w fun e w' => ∃ v, e = .returned (.tuple #[v, .bool true]) ∧ WStrs w.heap.size w' v (spTexts c s) ∧ Below w.heap.size w w' := by
  obtain ⟨i0, hi, hz0, hz1, hz2⟩ := info_parts infoStr
  refine (callsIn_wide (n := 9)).1 ?_
  refine callsIn_of_wp_marks Tryd.func23 rfl trivial ?_ rfl
  simp only [Tryd.ntmps23, List.size_toArray, List.length_cons, List.length_nil, Nat.reduceAdd, Nat.reduceSub, Array.replicate_succ, Array.replicate_zero, List.push_toArray, List.append_toArray, List.nil_append, List.cons_append]
  gi_wp2_with (refine ⟨trivial, ?_⟩; gi_at_call 51; refine (callsIn_wide.2 (splitSeq_any _ _ _)).mono ?_; rintro e w' ⟨rfl, rfl⟩)
  obtain ⟨W0, hW0⟩ : ∃ W0, ((((w.alloc (.cells #[] 9)).alloc (.cells #[.slice (some ⟨w.heap.size, 0, none⟩) 0 0] 34)).alloc (.cells #[.string s] 9)).alloc (.cells #[.string ⟨#[c]⟩] 9)).alloc (.cells #[.int .i64 0] 3) = W0 := ⟨_, rfl⟩
  rw [hW0]
  have hz : W0.heap.size = w.heap.size + 5 := by rw [← hW0]; simp
  refine range_state rfl (by omega) (gf := 67) rfl trivial (enters_of Tryd.func67 (by kernel_rfl) rfl) ?_
  intro fn _ rec hrec
  rw [hz]
  have hJ0 : SpV w.heap.size w c rec [] (.slice (some ⟨w.heap.size, 0, none⟩) 0 0) ((W0.alloc (.deferred (some []))).alloc (.loop rec)) ∧ Boxed ((W0.alloc (.deferred (some []))).alloc (.loop rec)) (w.heap.size + 2) 9 (.string s) := by
    have b1 := Boxed.new (w.alloc (.cells #[] 9)) 34 (.slice (some ⟨w.heap.size, 0, none⟩) 0 0)
    have b2 := Boxed.new ((w.alloc (.cells #[] 9)).alloc (.cells #[.slice (some ⟨w.heap.size, 0, none⟩) 0 0] 34)) 9 (.string s)
    have b3 := Boxed.new (((w.alloc (.cells #[] 9)).alloc (.cells #[.slice (some ⟨w.heap.size, 0, none⟩) 0 0] 34)).alloc (.cells #[.string s] 9)) 9 (.string ⟨#[c]⟩)
    have b4 := Boxed.new ((((w.alloc (.cells #[] 9)).alloc (.cells #[.slice (some ⟨w.heap.size, 0, none⟩) 0 0] 34)).alloc (.cells #[.string s] 9)).alloc (.cells #[.string ⟨#[c]⟩] 9)) 3 (.int .i64 0)
    have hb : Below w.heap.size w W0 := by
      rw [← hW0]
      exact (((((Below.refl _ w).alloc (by simp) _).alloc (by simp) _).alloc (by simp; omega) _).alloc (by simp; omega) _).alloc (by simp; omega) _
    simp only [World.size_alloc] at b1 b2 b3 b4
    have b1' := ((b1.alloc (.cells #[.string s] 9)).alloc (.cells #[.string ⟨#[c]⟩] 9)).alloc (.cells #[.int .i64 0] 3)
    have b2' := (b2.alloc (.cells #[.string ⟨#[c]⟩] 9)).alloc (.cells #[.int .i64 0] 3)
    have b3' := b3.alloc (.cells #[.int .i64 0] 3)
    rw [hW0] at b1' b2' b3' b4
    have e5 : ((W0.alloc (.deferred (some []))).alloc (.loop rec)).heap[w.heap.size + 5]? = some (.deferred (some [])) := by
      rw [Below.heap_alloc _ _ _ (by simp; omega), ← hz, World.alloc_heap_new]
    have e6 : ((W0.alloc (.deferred (some []))).alloc (.loop rec)).heap[w.heap.size + 6]? = some (.loop rec) := by
      have := World.alloc_heap_new (W0.alloc (.deferred (some []))) (.loop rec)
      rw [World.size_alloc, hz] at this
      exact this
    exact ⟨⟨(b1'.alloc _).alloc _, .inl ⟨rfl, rfl⟩, (b3'.alloc _).alloc _, (b4.alloc _).alloc _, e6, e5, (hb.alloc (by omega) _).alloc (by simp; omega) _, by simp; omega⟩, (b2'.alloc _).alloc _⟩
  refine (split_iter 8 (w.heap.size + 5 + 1) c (w.heap.size + 2) (w.heap.size + 3) (w.heap.size + 4) (fun pre W => ∃ v, SpV w.heap.size w c rec pre v W) (fun pre W u h => h.elim fun v h => ⟨v, h.turn (grownBy_setCell' W _ u) rfl⟩) (fun pre W h => h.elim fun v h => ⟨h.2.2.1.cell, h.2.2.2.1.cell⟩) s hs ?round _ ⟨_, hJ0.1⟩ hJ0.2 (by omega)).mono ?done
  case round =>
    rintro pre x r W ⟨v, hJ⟩ hbr hx hpre
    refine yield_state trivial hJ.2.2.2.2.1 (by rw [hrec]) (by rw [hrec]) (by rw [hrec]; rfl) ?_
    obtain ⟨rb, hrb⟩ : ∃ rb, ({ rec with state := .busy } : Loop) = rb := ⟨_, rfl⟩
    rw [hrb, congrArg Loop.assign hrec, congrArg Loop.body hrec, congrArg Loop.params hrec, congrArg Loop.tmps hrec]
    dsimp only
    clear hrec hJ0 hW0
    gi_wp2
    refine ⟨hJ.2.2.2.2.1, ?_⟩
    obtain ⟨W1, hW1⟩ : ∃ W1, W.putObj (w.heap.size + 5 + 1) (.loop rb) = W1 := ⟨_, rfl⟩
    have hJ1 : SpV w.heap.size w c rb pre v W1 := by rw [← hW1]; exact hJ.rec rb
    have hb1 : Boxed W1 (w.heap.size + 2) 9 (.string r) := by rw [← hW1]; exact hbr.kept (grownBy_putObj' W _ _) (by simp)
    rw [hW1]
    clear hrb hW1 hJ hbr
    gi_wp2
    have hmx : Tryd.prog.follows .mixedOrders = true := by kernel_rfl
    refine wpIn_region_any hmx ?_
    change wpAnyIn _ _ _ _ _ _ _ _ _ (World.drew W1)
    obtain ⟨W2, hW2⟩ : ∃ W2, W1.drew = W2 := ⟨_, rfl⟩
    have hJ2 : SpV w.heap.size w c rb pre v W2 := by rw [← hW2]; exact hJ1.grow (Below.refl _ _).drew
    have hb2 : Boxed W2 (w.heap.size + 2) 9 (.string r) := by rw [← hW2]; exact box_below hb1 (Below.refl _ _).drew
    rw [hW2]
    clear hW2 hJ1 hb1
    have hc2 := hJ2.1.cell
    refine wpAnyIn_ready (rs := [0, 1]) (by kernel_rfl) (by simp) (AllReadyIn.cons rfl (fun K hK => ?_) (AllReadyIn.cons rfl (fun K hK => ?_) AllReadyIn.nil))
    · go_simp
      refine hK _ _ ?_
      clear hK K
      refine wpAnyIn_ready (rs := [1]) (by kernel_rfl) (by simp) (AllReadyIn.cons rfl (fun K hK => ?_) AllReadyIn.nil)
      go_simp
      refine hK _ _ ?_
      clear hK K
      refine wpAnyIn_ready (rs := [2]) (by kernel_rfl) (by simp) (AllReadyIn.cons rfl (fun K hK => ?_) AllReadyIn.nil)
      go_simp
      refine ⟨trivial, ?_⟩
      refine (CallsIn.inRound _ (callsIn_wide.2 (clone_any x _ (by omega)))).mono ?_
      rintro e W3 ⟨rfl, hb3⟩
      have hJ3 := hJ2.grow hb3
      have hbr3 := box_below hb2 hb3
      have hc3 := hJ3.1.cell
      clear hc2 hJ2 hb2 hb3
      refine hK _ _ ?_
      clear hK K
      refine wpAnyIn_ready (rs := [3]) (by kernel_rfl) (by simp) (AllReadyIn.cons rfl (fun K hK => ?_) AllReadyIn.nil)
      go_simp
      refine hK _ _ ?_
      clear hK K
      have hJ4 := hJ3.grow ((Below.refl W3.heap.size W3).alloc (Nat.le_refl _) (.cells #[.string x] 9))
      have hbr4 := hbr3.alloc (.cells #[.string x] 9)
      have hc4 := hJ4.1.cell
      clear hc3 hJ3 hbr3
      refine wpAnyIn_ready (rs := [4]) (by kernel_rfl) (by simp) (AllReadyIn.cons rfl (fun K hK => ?_) AllReadyIn.nil)
      refine stepIn_append_new rfl _ _ 34 rfl (w.heap.size + 7) 9 i0 (.string ⟨#[]⟩) 1 16 Tryd.underlying34 hi hz0 hz1 hz2 rfl (by decide) v pre.length (strVals pre) rfl (hJ4.2.1.imp (fun h => ⟨_, h.1, by rw [h.2]; rfl, by rw [h.2]; rfl⟩) id) ⟨W3.heap.size, 0, none⟩ 1 1 [.string x] rfl (by omega) rfl (cell_one_new _ _ _) (fun x hx => by simp at hx; subst hx; rfl) (by unfold maxLen; omega) (by omega) hJ4.2.2.2.2.2.2.2 ?_
      intro v' W5 row hown hgrow hrow
      have hown2 : W5.ownsRow (w.heap.size + 7) 9 1 v' (pre.length + 1) (strVals (pre ++ [x.data.toList])) := by rw [strVals_snoc]; exact hown
      obtain ⟨hv5, hJ6⟩ := hJ4.app hgrow hrow hown2
      have hbr5 : Boxed W5 (w.heap.size + 2) 9 (.string r) := hbr4.kept hgrow (fun e => by have := hrow _ e.symm; omega)
      obtain ⟨g, cap, rfl⟩ := ownsRow_succ hown
      have hc5 := hv5.cell
      have hf5 := hv5.frozen
      clear hc4 hJ4 hbr4 hown hown2 hgrow hrow hv5
      refine hK _ _ ?_
      clear hK K
      refine wpAnyIn_ready (rs := [5]) (by kernel_rfl) (by simp) (AllReadyIn.cons rfl (fun K hK => ?_) AllReadyIn.nil)
      go_simp
      refine hK _ _ ?_
      clear hK K
      refine wpAnyIn_done (by kernel_rfl) ?_ _
      exact ⟨rfl, hJ6.2.2.2.2.1, trivial, ⟨_, hJ6.rec rec⟩, (hbr5.other (by omega) _).kept (grownBy_putObj' _ _ _) (by simp)⟩
    · go_simp
      refine hK _ _ ?_
      clear hK K
      refine wpAnyIn_ready (rs := [0, 2]) (by kernel_rfl) (by simp) (AllReadyIn.cons rfl (fun K hK => ?_) (AllReadyIn.cons rfl (fun K hK => ?_) AllReadyIn.nil))
      · go_simp
        refine hK _ _ ?_
        clear hK K
        refine wpAnyIn_ready (rs := [2]) (by kernel_rfl) (by simp) (AllReadyIn.cons rfl (fun K hK => ?_) AllReadyIn.nil)
        go_simp
        refine ⟨trivial, ?_⟩
        refine (CallsIn.inRound _ (callsIn_wide.2 (clone_any x _ (by omega)))).mono ?_
        rintro e W3 ⟨rfl, hb3⟩
        have hJ3 := hJ2.grow hb3
        have hbr3 := box_below hb2 hb3
        have hc3 := hJ3.1.cell
        clear hc2 hJ2 hb2 hb3
        refine hK _ _ ?_
        clear hK K
        refine wpAnyIn_ready (rs := [3]) (by kernel_rfl) (by simp) (AllReadyIn.cons rfl (fun K hK => ?_) AllReadyIn.nil)
        go_simp
        refine hK _ _ ?_
        clear hK K
        have hJ4 := hJ3.grow ((Below.refl W3.heap.size W3).alloc (Nat.le_refl _) (.cells #[.string x] 9))
        have hbr4 := hbr3.alloc (.cells #[.string x] 9)
        have hc4 := hJ4.1.cell
        clear hc3 hJ3 hbr3
        refine wpAnyIn_ready (rs := [4]) (by kernel_rfl) (by simp) (AllReadyIn.cons rfl (fun K hK => ?_) AllReadyIn.nil)
        refine stepIn_append_new rfl _ _ 34 rfl (w.heap.size + 7) 9 i0 (.string ⟨#[]⟩) 1 16 Tryd.underlying34 hi hz0 hz1 hz2 rfl (by decide) v pre.length (strVals pre) rfl (hJ4.2.1.imp (fun h => ⟨_, h.1, by rw [h.2]; rfl, by rw [h.2]; rfl⟩) id) ⟨W3.heap.size, 0, none⟩ 1 1 [.string x] rfl (by omega) rfl (cell_one_new _ _ _) (fun x hx => by simp at hx; subst hx; rfl) (by unfold maxLen; omega) (by omega) hJ4.2.2.2.2.2.2.2 ?_
        intro v' W5 row hown hgrow hrow
        have hown2 : W5.ownsRow (w.heap.size + 7) 9 1 v' (pre.length + 1) (strVals (pre ++ [x.data.toList])) := by rw [strVals_snoc]; exact hown
        obtain ⟨hv5, hJ6⟩ := hJ4.app hgrow hrow hown2
        have hbr5 : Boxed W5 (w.heap.size + 2) 9 (.string r) := hbr4.kept hgrow (fun e => by have := hrow _ e.symm; omega)
        obtain ⟨g, cap, rfl⟩ := ownsRow_succ hown
        have hc5 := hv5.cell
        have hf5 := hv5.frozen
        clear hc4 hJ4 hbr4 hown hown2 hgrow hrow hv5
        refine hK _ _ ?_
        clear hK K
        refine wpAnyIn_ready (rs := [5]) (by kernel_rfl) (by simp) (AllReadyIn.cons rfl (fun K hK => ?_) AllReadyIn.nil)
        go_simp
        refine hK _ _ ?_
        clear hK K
        refine wpAnyIn_done (by kernel_rfl) ?_ _
        exact ⟨rfl, hJ6.2.2.2.2.1, trivial, ⟨_, hJ6.rec rec⟩, (hbr5.other (by omega) _).kept (grownBy_putObj' _ _ _) (by simp)⟩
      · go_simp
        refine ⟨trivial, ?_⟩
        refine (CallsIn.inRound _ (callsIn_wide.2 (clone_any x _ (by omega)))).mono ?_
        rintro e W3 ⟨rfl, hb3⟩
        have hJ3 := hJ2.grow hb3
        have hbr3 := box_below hb2 hb3
        have hc3 := hJ3.1.cell
        clear hc2 hJ2 hb2 hb3
        refine hK _ _ ?_
        clear hK K
        refine wpAnyIn_ready (rs := [0, 3]) (by kernel_rfl) (by simp) (AllReadyIn.cons rfl (fun K hK => ?_) (AllReadyIn.cons rfl (fun K hK => ?_) AllReadyIn.nil))
        · go_simp
          refine hK _ _ ?_
          clear hK K
          refine wpAnyIn_ready (rs := [3]) (by kernel_rfl) (by simp) (AllReadyIn.cons rfl (fun K hK => ?_) AllReadyIn.nil)
          go_simp
          refine hK _ _ ?_
          clear hK K
          have hJ4 := hJ3.grow ((Below.refl W3.heap.size W3).alloc (Nat.le_refl _) (.cells #[.string x] 9))
          have hbr4 := hbr3.alloc (.cells #[.string x] 9)
          have hc4 := hJ4.1.cell
          clear hc3 hJ3 hbr3
          refine wpAnyIn_ready (rs := [4]) (by kernel_rfl) (by simp) (AllReadyIn.cons rfl (fun K hK => ?_) AllReadyIn.nil)
          refine stepIn_append_new rfl _ _ 34 rfl (w.heap.size + 7) 9 i0 (.string ⟨#[]⟩) 1 16 Tryd.underlying34 hi hz0 hz1 hz2 rfl (by decide) v pre.length (strVals pre) rfl (hJ4.2.1.imp (fun h => ⟨_, h.1, by rw [h.2]; rfl, by rw [h.2]; rfl⟩) id) ⟨W3.heap.size, 0, none⟩ 1 1 [.string x] rfl (by omega) rfl (cell_one_new _ _ _) (fun x hx => by simp at hx; subst hx; rfl) (by unfold maxLen; omega) (by omega) hJ4.2.2.2.2.2.2.2 ?_
          intro v' W5 row hown hgrow hrow
          have hown2 : W5.ownsRow (w.heap.size + 7) 9 1 v' (pre.length + 1) (strVals (pre ++ [x.data.toList])) := by rw [strVals_snoc]; exact hown
          obtain ⟨hv5, hJ6⟩ := hJ4.app hgrow hrow hown2
          have hbr5 : Boxed W5 (w.heap.size + 2) 9 (.string r) := hbr4.kept hgrow (fun e => by have := hrow _ e.symm; omega)
          obtain ⟨g, cap, rfl⟩ := ownsRow_succ hown
          have hc5 := hv5.cell
          have hf5 := hv5.frozen
          clear hc4 hJ4 hbr4 hown hown2 hgrow hrow hv5
          refine hK _ _ ?_
          clear hK K
          refine wpAnyIn_ready (rs := [5]) (by kernel_rfl) (by simp) (AllReadyIn.cons rfl (fun K hK => ?_) AllReadyIn.nil)
          go_simp
          refine hK _ _ ?_
          clear hK K
          refine wpAnyIn_done (by kernel_rfl) ?_ _
          exact ⟨rfl, hJ6.2.2.2.2.1, trivial, ⟨_, hJ6.rec rec⟩, (hbr5.other (by omega) _).kept (grownBy_putObj' _ _ _) (by simp)⟩
        · go_simp
          refine hK _ _ ?_
          clear hK K
          have hJ4 := hJ3.grow ((Below.refl W3.heap.size W3).alloc (Nat.le_refl _) (.cells #[.string x] 9))
          have hbr4 := hbr3.alloc (.cells #[.string x] 9)
          have hc4 := hJ4.1.cell
          clear hc3 hJ3 hbr3
          refine wpAnyIn_ready (rs := [0]) (by kernel_rfl) (by simp) (AllReadyIn.cons rfl (fun K hK => ?_) AllReadyIn.nil)
          go_simp
          refine hK _ _ ?_
          clear hK K
          refine wpAnyIn_ready (rs := [4]) (by kernel_rfl) (by simp) (AllReadyIn.cons rfl (fun K hK => ?_) AllReadyIn.nil)
          refine stepIn_append_new rfl _ _ 34 rfl (w.heap.size + 7) 9 i0 (.string ⟨#[]⟩) 1 16 Tryd.underlying34 hi hz0 hz1 hz2 rfl (by decide) v pre.length (strVals pre) rfl (hJ4.2.1.imp (fun h => ⟨_, h.1, by rw [h.2]; rfl, by rw [h.2]; rfl⟩) id) ⟨W3.heap.size, 0, none⟩ 1 1 [.string x] rfl (by omega) rfl (cell_one_new _ _ _) (fun x hx => by simp at hx; subst hx; rfl) (by unfold maxLen; omega) (by omega) hJ4.2.2.2.2.2.2.2 ?_
          intro v' W5 row hown hgrow hrow
          have hown2 : W5.ownsRow (w.heap.size + 7) 9 1 v' (pre.length + 1) (strVals (pre ++ [x.data.toList])) := by rw [strVals_snoc]; exact hown
          obtain ⟨hv5, hJ6⟩ := hJ4.app hgrow hrow hown2
          have hbr5 : Boxed W5 (w.heap.size + 2) 9 (.string r) := hbr4.kept hgrow (fun e => by have := hrow _ e.symm; omega)
          obtain ⟨g, cap, rfl⟩ := ownsRow_succ hown
          have hc5 := hv5.cell
          have hf5 := hv5.frozen
          clear hc4 hJ4 hbr4 hown hown2 hgrow hrow hv5
          refine hK _ _ ?_
          clear hK K
          refine wpAnyIn_ready (rs := [5]) (by kernel_rfl) (by simp) (AllReadyIn.cons rfl (fun K hK => ?_) AllReadyIn.nil)
          go_simp
          refine hK _ _ ?_
          clear hK K
          refine wpAnyIn_done (by kernel_rfl) ?_ _
          exact ⟨rfl, hJ6.2.2.2.2.1, trivial, ⟨_, hJ6.rec rec⟩, (hbr5.other (by omega) _).kept (grownBy_putObj' _ _ _) (by simp)⟩
  case done =>
    rintro e W2 ⟨⟨u, rfl⟩, v, hJ⟩
    refine ⟨⟨_, rfl⟩, hJ.2.2.2.2.1, ?_⟩
    have hJ3 := hJ.rec { rec with state := .exhausted }
    change Exit.inBlock _ _ _ _ (W2.putObj (w.heap.size + 6) _)
    obtain ⟨W3, hW3⟩ : ∃ W3, W2.putObj (w.heap.size + 6) (.loop { rec with state := .exhausted }) = W3 := ⟨_, rfl⟩
    rw [hW3] at hJ3 ⊢
    clear hW3 hJ0 hW0 hrec
    have hc3 := hJ3.1.cell
    dsimp only
    gi_wp2
    refine ⟨by simp, .inl ⟨_, _, rfl, run_takeDeferred hJ3.2.2.2.2.2.1, ?_⟩⟩
    refine ⟨.tuple #[v, .bool true], by simp [results, Tryd.f23, go_sem], v, rfl, ?_, ?_⟩
    · have h1 : W3.ownsRow w.heap.size 9 1 v (spAll c s.data.toList).length (strVals (spAll c s.data.toList)) := by
        rcases hJ3.2.1 with ⟨_, h⟩ | h
        · simp [spAll] at h
        · exact own_mono h (by omega)
      exact w_strs (ownsRow_putObj h1 _ hJ3.2.2.2.2.2.1 rfl) (by simp [spAll]) (by have := spTexts_len c s; simp [spTexts] at this; omega) (spAll_len c s (by omega))
    · exact hJ3.2.2.2.2.2.2.1.trans (belowK_b (w := w) (Nat.le_refl _) W3 _ _ _ (by omega) hJ3.2.2.2.2.2.1 rfl rfl)
end Go.Proofs.YtnbpdgkpamgcfaaDoor
