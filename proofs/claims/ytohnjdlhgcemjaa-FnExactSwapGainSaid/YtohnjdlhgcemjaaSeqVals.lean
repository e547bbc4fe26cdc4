/- slices.Sorted(slices.Values(list)) of at most twelve numbers: a rearrangement, ascending, in memory of the call's own. -/
import Derived.ArgAppend
import Derived.RangeFuncNested
import Derived.RangeFuncBound
import Derived.RangeFuncCalls
import Derived.RangeFuncLeaves
import Derived.Shelf.Abstract
import Derived.Shelf.RegionOpen
import Derived.OwnWalkIn
import Derived.TacticsInMore
import Derived.LoopNIn
import Derived.LoopIn
import Derived.Maps.AppendAt
import Derived.Test.YtohnjdlhgcemjaaRangeOwn
import Derived.Test.YtohnjdlhgcemjaaSortN
namespace Go.Proofs.Ytohnjdlhgcemjaa
open Go.RowKit Go.Shelf
attribute [local go_sem] Oper.semAt_some

set_option maxRecDepth 100000 in
set_option maxHeartbeats 1000000 in
/-- what slices.Values hands back gives the numbers in their order -/
theorem values_iter (n l b off cap Bs : Nat) (zs : List Int) (hlen : zs.length ≤ 1000) (J : List Int → World → Prop)
    (hJ : ∀ pre W, J pre W → W.cell? ⟨Bs, 0, none⟩ = some (.slice (some ⟨b, off, none⟩) zs.length cap) ∧ ∀ j, j < zs.length → W.cell? ⟨b, off + j, none⟩ = some (.int .i64 (zs[j]?.getD 0)))
    (hY : ∀ pre x W, J pre W → pre.length < zs.length → YieldAt Fence.wide (n - 1) Try.prog l #[.int .i64 x] W fun e W' => e = .returned (.bool true) ∧ J (pre ++ [x]) W')
    (W : World) (h0 : J [] W) (hn : 1 ≤ n) :
    CallsIn Fence.wide n Try.prog 64 #[.func (.yield l) #[] #[], .pointer (some ⟨Bs, 0, none⟩)] W fun e W' => (∃ v, e = .returned v) ∧ J zs W' := by
  refine callsIn_of_wp Try.func64 rfl trivial ?_ rfl
  simp only [Try.ntmps64, List.size_toArray, List.length_cons, List.length_nil, Nat.reduceAdd, Nat.reduceSub, Array.replicate_succ, Array.replicate_zero, List.push_toArray, List.append_toArray, List.nil_append, List.cons_append]
  have hBs := (hJ _ _ h0).1
  gi_wp2
  gi_loopw [7] (fun i wr => ∃ k : Nat, k ≤ zs.length ∧ i = .int .i64 k ∧ J (zs.take k) wr) (fun i _ => zs.length - (intOf i).toNat)
  case atStart => exact ⟨0, Nat.zero_le _, rfl, h0⟩
  case round =>
    obtain ⟨k, hk, rfl, hJs⟩ := hrel
    by_cases hlt : k < zs.length
    · have hcx := (hJ _ _ hJs).2 k hlt
      have HT : Hid (zs.take (k + 1) = zs.take k ++ [zs[k]?.getD 0]) := by
        show _ = _
        rw [List.take_succ_eq_append_getElem hlt, List.getElem?_eq_getElem hlt]; rfl
      obtain ⟨x, hx⟩ : ∃ x, zs[k]?.getD 0 = x := ⟨_, rfl⟩
      rw [hx] at HT hcx
      clear hx
      obtain ⟨fn, tmps, assign, body, hy, hR⟩ := hY _ x wr hJs (by rw [List.length_take]; omega)
      gi_wp2
      refine hR.mono ?_
      rintro e W3 ⟨rfl, hJ3⟩
      gi_wp2
      go_roundw
      case rel => exact ⟨k + 1, by omega, by simp, by rw [HT.out]; exact hJ3⟩
      case measure => simp [intOf]; omega
    · have hkl : k = zs.length := by omega
      gi_wp2
      go_end0
      refine ⟨⟨_, rfl⟩, ?_⟩
      rw [hkl, List.take_length] at hJs
      exact hJs

set_option maxHeartbeats 1000000 in
theorem values_any (p : Option Addr) (m cap : Nat) (w : World) :
    Calls Try.prog 55 #[.slice p m cap] w fun e w' => e = .returned (.func (.func 64) #[] #[.pointer (some ⟨w.heap.size, 0, none⟩)]) ∧ w' = w.alloc (.cells #[.slice p m cap] 22) := by
  go_enter Try.func55, Try.ntmps55
  go_wp2
  go_ret
  exact ⟨rfl, rfl⟩

/-- what holds between two rounds of AppendSeq's loop, n blocks lying when the call began: n is the box of the slice, which holds v, n + 1 and n + 2 the loop's -/
def SqV (n : Nat) (w : World) (rec : Loop) (pre : List Int) (v : Value) (W : World) : Prop :=
  Boxed W n 22 v ∧ W.ownsRow (n + 3) 3 1 v pre.length (iv pre) ∧ W.heap[n + 2]? = some (.loop rec) ∧ W.heap[n + 1]? = some (.deferred (some [])) ∧ Below n w W ∧ n + 3 ≤ W.heap.size

theorem SqV.rec {n : Nat} {w : World} {rec : Loop} {pre : List Int} {v : Value} {W : World} (h : SqV n w rec pre v W) (rec' : Loop) : SqV n w rec' pre v (W.putObj (n + 2) (.loop rec')) := by
  obtain ⟨hv, ho, h6, h5, hb, hs⟩ := h
  have hg := grownBy_putObj' W (n + 2) (.loop rec')
  refine ⟨hv.kept hg (by simp), ho.kept hg (.inr fun e => by have := (ho.lt _ e).1; omega), World.putObj_heap_same (by omega), ?_, hb.grown hg (by omega) (fun k e => by cases e; omega), by have := hg.size; omega⟩
  · rw [hg.block _ (by omega) (by simp)]; exact h5

theorem SqV.grow {n : Nat} {w : World} {rec : Loop} {pre : List Int} {v : Value} {W : World} (h : SqV n w rec pre v W) (o : Obj) : SqV n w rec pre v (W.alloc o) := by
  obtain ⟨hv, ho, h6, h5, hb, hs⟩ := h
  refine ⟨hv.alloc _, ho.alloc _, ?_, ?_, hb.alloc (by omega) _, by simp; omega⟩
  · rw [Below.heap_alloc _ _ _ (by omega)]; exact h6
  · rw [Below.heap_alloc _ _ _ (by omega)]; exact h5

/-- behind the append, behind the store -/
theorem SqV.app {n : Nat} {w : World} {rec : Loop} {pre : List Int} {v v' : Value} {W W' : World} {row : Option Nat} {x : Int} (h : SqV n w rec pre v W) (hg : W.grownBy W' row) (hr : ∀ j, row = some j → n + 3 ≤ j)
    (ho : W'.ownsRow (n + 3) 3 1 v' (pre.length + 1) (iv (pre ++ [x]))) : Boxed W' n 22 v ∧ SqV n w rec (pre ++ [x]) v' (W'.setCell ⟨n, 0, none⟩ v') := by
  obtain ⟨hv, _, h6, h5, hb, hs⟩ := h
  have hne : ∀ k, k < n + 3 → some k ≠ row := fun k hk e => by have := hr k e.symm; omega
  have hv' := hv.kept hg (hne _ (by omega))
  have hs' : n + 3 ≤ W'.heap.size := by have := hg.size; omega
  have hg2 := grownBy_setCell' W' n v'
  refine ⟨hv', hv'.set v', ?_, ?_, ?_, (hb.grown hg (by omega) (fun j e => by have := hr j e; omega)).grown hg2 (by omega) (fun k e => by cases e; omega), by have := hg2.size; omega⟩
  · have hl : (pre ++ [x]).length = pre.length + 1 := by simp
    rw [hl]
    refine ho.kept hg2 (.inr fun e => ?_)
    have := (ho.lt _ e).1
    omega
  · rw [hg2.block _ (by omega) (by simp), hg.block _ (by omega) (hne _ (by omega))]; exact h6
  · rw [hg2.block _ (by omega) (by simp), hg.block _ (by omega) (hne _ (by omega))]; exact h5

set_option maxRecDepth 100000 in
set_option maxHeartbeats 4000000 in
theorem appendSeq_any (b off cap Bs : Nat) (zs : List Int) (w : World) (hlen : zs.length ≤ 1000) (hBs : Bs < w.heap.size) (hb : b < w.heap.size) (hcell : w.cell? ⟨Bs, 0, none⟩ = some (.slice (some ⟨b, off, none⟩) zs.length cap))
    (hc : ∀ j, j < zs.length → w.cell? ⟨b, off + j, none⟩ = some (.int .i64 (zs[j]?.getD 0))) :
    Calls Try.prog 65 #[.slice none 0 0, .func (.func 64) #[] #[.pointer (some ⟨Bs, 0, none⟩)]] w fun e w' => ∃ v, e = .returned v ∧ w'.ownsRow w.heap.size 3 1 v zs.length (iv zs) ∧ Below w.heap.size w w' := by
  obtain ⟨i0, hi, hz0, hz1, hz2⟩ := info_parts infoInt
  refine (callsIn_wide (n := 9)).1 ?_
  refine callsIn_of_wp_marks Try.func65 rfl trivial ?_ rfl
  simp only [Try.ntmps65, List.size_toArray, List.length_cons, List.length_nil, Nat.reduceAdd, Nat.reduceSub, Array.replicate_succ, Array.replicate_zero, List.push_toArray, List.append_toArray, List.nil_append, List.cons_append]
  gi_wp2
  obtain ⟨W0, hW0⟩ : ∃ W0, w.alloc (.cells #[.slice none 0 0] 22) = W0 := ⟨_, rfl⟩
  rw [hW0]
  have hz : W0.heap.size = w.heap.size + 1 := by rw [← hW0]; simp
  refine range_state rfl (by omega) (gf := 64) rfl trivial (enters_of Try.func64 (by kernel_rfl) rfl) ?_
  intro fn _ rec hrec
  rw [hz]
  have hJ0 : SqV w.heap.size w rec [] (.slice none 0 0) ((W0.alloc (.deferred (some []))).alloc (.loop rec)) := by
    have b1 := Boxed.new w 22 (.slice none 0 0)
    have hb : Below w.heap.size w W0 := by
      rw [← hW0]
      exact (Below.refl _ w).alloc (by simp) _
    rw [hW0] at b1
    have e5 : ((W0.alloc (.deferred (some []))).alloc (.loop rec)).heap[w.heap.size + 1]? = some (.deferred (some [])) := by
      rw [Below.heap_alloc _ _ _ (by simp; omega), ← hz, World.alloc_heap_new]
    have e6 : ((W0.alloc (.deferred (some []))).alloc (.loop rec)).heap[w.heap.size + 2]? = some (.loop rec) := by
      have := World.alloc_heap_new (W0.alloc (.deferred (some []))) (.loop rec)
      rw [World.size_alloc, hz] at this
      exact this
    exact ⟨(b1.alloc _).alloc _, ⟨rfl, .inl ⟨rfl, rfl⟩⟩, e6, e5, (hb.alloc (by omega) _).alloc (by simp; omega) _, by simp; omega⟩
  refine (values_iter 8 (w.heap.size + 1 + 1) b off cap Bs zs hlen (fun pre W => ∃ v, SqV w.heap.size w rec pre v W) (fun pre W h => h.elim fun v h => ⟨(h.2.2.2.2.1.cell (p := ⟨Bs, 0, none⟩) hBs).trans hcell, fun j hj => (h.2.2.2.2.1.cell (p := ⟨b, off + j, none⟩) hb).trans (hc j hj)⟩) ?round _ ⟨_, hJ0⟩ (by omega)).mono ?done
  case round =>
    rintro pre x W ⟨v, hJ⟩ hpre
    refine yield_state trivial hJ.2.2.1 (by rw [hrec]) (by rw [hrec]) (by rw [hrec]; rfl) ?_
    obtain ⟨rb, hrb⟩ : ∃ rb, ({ rec with state := .busy } : Loop) = rb := ⟨_, rfl⟩
    rw [hrb, congrArg Loop.assign hrec, congrArg Loop.body hrec, congrArg Loop.params hrec, congrArg Loop.tmps hrec]
    dsimp only
    clear hrec hJ0 hW0
    gi_wp2
    refine ⟨hJ.2.2.1, ?_⟩
    obtain ⟨W1, hW1⟩ : ∃ W1, W.putObj (w.heap.size + 1 + 1) (.loop rb) = W1 := ⟨_, rfl⟩
    have hJ1 : SqV w.heap.size w rb pre v W1 := by rw [← hW1]; exact hJ.rec rb
    rw [hW1]
    clear hrb hW1 hJ
    have hc1 := hJ1.1.cell
    have hJ2 := hJ1.grow (.cells #[.int .i64 x] 3)
    gi_wp2_with (gi_at_builtin; refine wpListIn_append_own _ rfl _ _ 22 rfl (w.heap.size + 3) 3 i0 (.int .i64 0) 1 8 Try.underlying22 hi hz0 hz1 hz2 rfl (by decide) _ _ _ rfl hJ2.2.1 ⟨W1.heap.size, 0, none⟩ 1 1 [.int .i64 x] rfl rfl (cell_one_new _ _ _) (by simp [Value.oneCell']) (by unfold maxLen; omega) (by omega) hJ2.2.2.2.2.2 ?_; intro v' W5 hown hgrow _; obtain ⟨g', cap', rfl⟩ := ownsRow_succ hown; obtain ⟨hv5, hJ6⟩ := hJ2.app hgrow (fun j e => (hJ2.2.1.lt j e).1) (by rw [iv_append]; exact hown); have hc5 := hv5.cell; have hf5 := hv5.frozen)
    exact ⟨hJ6.2.2.1, _, hJ6.rec rec⟩
  case done =>
    rintro e W2 ⟨⟨u, rfl⟩, v, hJ⟩
    refine ⟨⟨_, rfl⟩, hJ.2.2.1, ?_⟩
    have hJ3 := hJ.rec { rec with state := .exhausted }
    change Exit.inBlock _ _ _ _ (W2.putObj (w.heap.size + 2) _)
    obtain ⟨W3, hW3⟩ : ∃ W3, W2.putObj (w.heap.size + 2) (.loop { rec with state := .exhausted }) = W3 := ⟨_, rfl⟩
    rw [hW3] at hJ3 ⊢
    clear hW3 hJ0 hW0 hrec
    have hc3 := hJ3.1.cell
    dsimp only
    gi_wp2
    refine ⟨by simp, .inl ⟨_, _, rfl, run_takeDeferred hJ3.2.2.2.1, ?_⟩⟩
    refine ⟨v, by simp [results, Try.f65, go_sem], v, rfl, ?_, ?_⟩
    · have h1 : W3.ownsRow w.heap.size 3 1 v zs.length (iv zs) := Out.mono (xs := zs) hJ3.2.1 (by omega)
      exact ownsRow_putObj h1 _ hJ3.2.2.2.1 rfl
    · exact hJ3.2.2.2.2.1.trans (belowK_b (w := w) (Nat.le_refl _) W3 _ _ _ (by omega) hJ3.2.2.2.1 rfl rfl)

set_option maxHeartbeats 1000000 in
theorem collect_any (b off cap Bs : Nat) (zs : List Int) (w : World) (hlen : zs.length ≤ 1000) (hBs : Bs < w.heap.size) (hb : b < w.heap.size) (hcell : w.cell? ⟨Bs, 0, none⟩ = some (.slice (some ⟨b, off, none⟩) zs.length cap))
    (hc : ∀ j, j < zs.length → w.cell? ⟨b, off + j, none⟩ = some (.int .i64 (zs[j]?.getD 0))) :
    Calls Try.prog 62 #[.func (.func 64) #[] #[.pointer (some ⟨Bs, 0, none⟩)]] w fun e w' => ∃ v, e = .returned v ∧ w'.ownsRow w.heap.size 3 1 v zs.length (iv zs) ∧ Below w.heap.size w w' := by
  have H := Lib.hid (appendSeq_any b off cap Bs zs w hlen hBs hb hcell hc)
  clear hcell hc
  go_enter Try.func62, Try.ntmps62
  go_wp2_with fail
  refine H.out.mono ?_
  rintro e w1 ⟨v, rfl, h1, h2⟩
  go_wp2_with fail
  go_ret
  exact ⟨v, rfl, h1, h2⟩

set_option maxHeartbeats 1000000 in
theorem sorted_any (b off cap Bs n : Nat) (zs : List Int) (w : World) (hn : zs.length = n) (h1 : 1 ≤ n) (h12 : n ≤ 12) (hBs : Bs < w.heap.size) (hb : b < w.heap.size) (hcell : w.cell? ⟨Bs, 0, none⟩ = some (.slice (some ⟨b, off, none⟩) n cap))
    (hc : ∀ j, j < zs.length → w.cell? ⟨b, off + j, none⟩ = some (.int .i64 (zs[j]?.getD 0))) :
    Calls Try.prog 54 #[.func (.func 64) #[] #[.pointer (some ⟨Bs, 0, none⟩)]] w fun e w' => ∃ (g c : Nat) (ss : List Int), e = .returned (.slice (some ⟨g, 0, none⟩) n c) ∧ ss.Perm zs ∧ ss.Pairwise (· ≤ ·) ∧ Ri w.heap.size w'.heap.size w' (some ⟨g, 0, none⟩) ss ∧ Below w.heap.size w w' := by
  subst hn
  have H := Lib.hid (collect_any b off cap Bs zs w (by omega) hBs hb hcell hc)
  clear hcell hc
  go_enter Try.func54, Try.ntmps54
  go_wp2_with fail
  refine H.out.mono ?_
  rintro e w1 ⟨v, rfl, ho, hb1⟩
  have hO : Out w.heap.size w1 v zs := ho
  rcases hO.2 with ⟨_, h0⟩ | ⟨g, c, cur, rfl, hg, hh, hnc, hcm, hcur, htk⟩
  · omega
  have hA : OwnArr w1 g 3 (iv zs ++ cur.toList.drop zs.length) := by
    show w1.heap[g]? = _
    rw [hh]
    congr 1
    rw [← Nat.mul_one zs.length, ← htk, List.take_append_drop]
  have S := Lib.hid (sortN_any g c zs.length zs (cur.toList.drop zs.length) w1 hA rfl h1 h12)
  have HB := Lib.hid hb1
  obtain ⟨n, hn⟩ : ∃ n, zs.length = n := ⟨_, rfl⟩
  rw [hn] at S h1 h12 ⊢
  have HN := Lib.hid hn
  clear H ho hO hh hcur htk hA hb1 hn
  go_wp2_with fail
  refine S.out.mono ?_
  rintro e w2 ⟨rfl, ss, hP, hS, hO2, hk⟩
  go_wp2_with fail
  go_ret
  refine ⟨g, c, ss, by rw [HN.out]; rfl, hP, hS, ?_, ?_⟩
  · have h3 := Rd.of_own hO2 hg hO2.lt (Nat.le_refl _) ss.length
    rw [List.take_append_of_le_length (by rw [iv_length]; exact Nat.le_refl _), List.take_of_length_le (by rw [iv_length]; exact Nat.le_refl _)] at h3
    exact h3
  · exact HB.out.trans ⟨hk.os, hk.tape, hk.output, hk.size, fun k hk' => hk.block k (by have := HB.out.size; omega) (.inl (by omega))⟩
end Go.Proofs.Ytohnjdlhgcemjaa
