/- Chapter 6, impl side: impl.park. -/
import Derived.Test.YtfabannlebolfaaWayI6
import Derived.Test.YtfabannlebolfaaBinI
import Derived.Test.YtfabannlebolfaaInsP
import Derived.Test.YtfabannlebolfaaMade0
import Derived.Deep.RegionWith
import Derived.Deep.RegionHeld3
import Derived.Deep.DeepCutAuto
import Derived.StillTailTactics
namespace Go.Proofs.Ytfabannlebolfaa
open Go.RowKit

/-- the state of park -/
structure PkW (w : World) (n : Int) (ring : Bool) (p : Option Addr) (m0 cap gb gt k N : Nat) (sv cur : List Value) (T : List Int) (wr : World) : Prop where
  beg : Beg w n ring p m0 cap wr
  st : OwnArr wr (w.heap.size + 2) 3 sv
  row : OwnArr wr gb 28 [.int .i64 n, .bool ring, .slice (some ⟨gt, 0, none⟩) k N]
  tak : OwnArr wr gt 3 cur
  hb : w.heap.size + 3 ≤ gb
  ht : w.heap.size + 3 ≤ gt
  ne : gb ≠ gt
  len : cur.length = N
  top : cur.take k = iv T
  klen : T.length = k
theorem PkW.next {w : World} {n : Int} {ring : Bool} {p : Option Addr} {m0 cap gb gt k N : Nat} {sv cur : List Value} {T : List Int} {wr w' : World} (h : PkW w n ring p m0 cap gb gt k N sv cur T wr) (hb : Below wr.heap.size wr w') : PkW w n ring p m0 cap gb gt k N sv cur T w' :=
  ⟨h.beg.next hb, h.st.below hb h.st.lt, h.row.below hb h.row.lt, h.tak.below hb h.tak.lt, h.hb, h.ht, h.ne, h.len, h.top, h.klen⟩
theorem Beg.set {w : World} {n : Int} {ring : Bool} {p : Option Addr} {m cap : Nat} {wb : World} (h : Beg w n ring p m cap wb) {a : Addr} (ha : w.heap.size + 2 ≤ a.block) (v : Value) : Beg w n ring p m cap (wb.setCell a v) :=
  ⟨h.row.other (by omega) v, h.res.other (by omega) v, h.bel.setCell (by omega) v⟩
theorem PkW.seat {w : World} {n : Int} {ring : Bool} {p : Option Addr} {m0 cap gb gt k N : Nat} {sv cur : List Value} {T : List Int} {wr : World} (h : PkW w n ring p m0 cap gb gt k N sv cur T wr) (j : Nat) (v : Value) : PkW w n ring p m0 cap gb gt k N (sv.set j v) cur T (wr.setCell ⟨w.heap.size + 2, j, none⟩ v) :=
  ⟨h.beg.set (Nat.le_refl _) v, h.st.set j v, h.row.other (by have := h.hb; show gb ≠ w.heap.size + 2; omega) v, h.tak.other (by have := h.ht; show gt ≠ w.heap.size + 2; omega) v, h.hb, h.ht, h.ne, h.len, h.top, h.klen⟩
theorem Keep.own {lo hi : Nat} {w w' : World} (h : Keep lo hi w w') {g : Nat} {e : TypeId} {xs : List Value} (ho : OwnArr w g e xs) (hg : g < lo ∨ hi ≤ g) : OwnArr w' g e xs := by
  have hlt := ho.lt
  unfold OwnArr at *
  rw [h.block g hlt hg]; exact ho
/-- a seat put among the taken ones, and the slice stored -/
theorem PkW.ins {w : World} {n : Int} {ring : Bool} {p : Option Addr} {m0 cap gb gt k N : Nat} {sv cur cur' : List Value} {T T' : List Int} {wr w' : World} (h : PkW w n ring p m0 cap gb gt k N sv cur T wr) (hk : Keep gt (gt + 1) wr w') (ho : OwnArr w' gt 3 cur') (hl : cur'.length = N) (htop : cur'.take (k + 1) = iv T') (hT : T'.length = k + 1) :
    PkW w n ring p m0 cap gb gt (k + 1) N sv cur' T' (w'.setCell ⟨gb, 2, none⟩ (.slice (some ⟨gt, 0, none⟩) (k + 1) N)) := by
  have h1 := h.hb
  have h2 := h.ht
  have h3 := h.ne
  have hbel : Below (w.heap.size + 2) wr w' := ⟨hk.os, hk.tape, hk.output, hk.size, fun i hi => by
    by_cases hlt : i < wr.heap.size
    · exact hk.block i hlt (by omega)
    · have := h.row.lt; omega⟩
  refine ⟨(h.beg.next2 hbel).set (by show _ ≤ gb; omega) _, (hk.own h.st (by omega)).other (by show w.heap.size + 2 ≠ gb; omega) _, ?_, ho.other (by show gt ≠ gb; omega) _, h1, h2, h3, hl, htop, hT⟩
  exact (hk.own h.row (by omega)).set 2 _
theorem PkW.ri {w : World} {n : Int} {ring : Bool} {p : Option Addr} {m0 cap gb gt k N : Nat} {sv cur : List Value} {T : List Int} {wr : World} (h : PkW w n ring p m0 cap gb gt k N sv cur T wr) : Ri 0 wr.heap.size wr (some ⟨gt, 0, none⟩) T := by
  have := Rd.of_own h.tak (Nat.zero_le _) h.tak.lt (Nat.le_refl _) k
  rw [h.top] at this
  exact this
/-- the seats of the cars that have come -/
def svM (L : List Int) (d : Nat) : List Value := iv L ++ List.replicate d (.int .i64 0)
theorem svM_set {L : List Int} {d : Nat} {j : Nat} (hj : L.length = j) (x : Int) : (svM L (d + 1)).set j (.int .i64 x) = svM (L ++ [x]) d := by
  unfold svM
  rw [List.set_append_right _ _ (by rw [iv_length]; omega), iv_length, iv_append, hj, Nat.sub_self, List.replicate_succ, List.set_cons_zero, List.append_assoc]
  rfl
theorem svM_get {L : List Int} {d : Nat} {j : Nat} (hj : L.length = j) : (svM L (d + 1))[j]? = some (.int .i64 0) := by
  unfold svM
  rw [List.getElem?_append_right (by rw [iv_length]; omega), iv_length, hj, Nat.sub_self]
  rfl
theorem copyK0 {P : Program} {ops : Array Oper} {rest : List Oper} {o : Oper} {a : Act} {w : World} {Q : Exit → Act → World → Prop} (hgd : o.guard = none) (d s : Operand) (dT sT : TypeId)
    (ho : o.op = .call { callee := .builtin .copy, args := #[d, s], argTypes := #[dT, sT] }) (elem : TypeId) (hu : P.underlying dT = some (.slice elem)) (hsz : (P.info? elem).map (·.size) = some 1)
    (sp : Option Addr) (dLen dCap sLen sCap : Nat) (g off : Nat) (hd : a.eval d = .slice (some ⟨g, off, none⟩) dLen dCap) (hs : a.eval s = .slice sp sLen sCap)
    (cur : List Value) (t : TypeId) (hg : w.heap[g]? = some (.cells cur.toArray t (0, 0))) (cs : List Value) (hn : cs.length = Nat.min sLen dLen)
    (hsrc : 0 < cs.length → ∃ ad, sp = some ad ∧ ∀ j v, cs[j]? = some v → w.cell? (ad.add j) = some v) (hfit : off + cs.length ≤ cur.length) (h1 : ∀ v ∈ cs, v.oneCell' = true) (lo hi : Nat) (w0 : World) (hb : Keep lo hi w0 w) (hBg : lo ≤ g ∧ g < hi)
    (h : ∀ w', Hid (w'.heap[g]? = some (.cells (splice cur off cs).toArray t (0, 0))) → Keep lo hi w0 w' → wpList P ops Q rest (a.put o.dst (goInt cs.length)) w') : wpList P ops Q (o :: rest) a w := by
  by_cases h0 : cs.length = 0
  · obtain rfl : cs = [] := List.eq_nil_of_length_eq_zero h0
    refine wpList_copy_nothing hgd d s dT sT ho elem hu hsz (some ⟨g, off, none⟩) sp dLen dCap sLen sCap hd hs (by simpa using hn.symm) ?_
    exact h w (show _ = _ by simpa [splice] using hg) hb
  · obtain ⟨ad, rfl, hsrc2⟩ := hsrc (by omega)
    exact wpList_copyK hgd d s dT sT ho elem hu hsz ad dLen dCap sLen sCap g off hd hs cur t hg cs hn hsrc2 hfit h1 lo hi w0 hb hBg h
theorem make_lc (l c : Nat) (hlc : l ≤ c) (hc : c ≤ 1000) (w : World) : (Instr.makeSlice 22 (.int .i64 (l : Int)) (.int .i64 (c : Int))).run Try.prog w = .ok (.slice (some ⟨w.heap.size, 0, none⟩) l c) (w.alloc (.cells (List.replicate c (Value.int .i64 0)).toArray 3)) := by
  obtain ⟨i0, hi0, hz0, hz1, hz2⟩ := info_parts infoInt
  have := run_make (P := Try.prog) (w := w) 22 3 i0 (.int .i64 0) Try.underlying22 hi0 hz0 .i64 .i64 (l : Int) (c : Int) (by omega) (by omega) (by rw [hz2]; omega) (by omega)
  rw [this, hz1, Nat.mul_one]
  simp only [Int.toNat_natCast]
  rw [show (Value.int .i64 0).cells = #[Value.int .i64 0] from rfl, madeCells_one]

theorem extI (w : World) (o : Obj) : Below w.heap.size w (w.alloc o) := (Below.refl _ _).alloc (Nat.le_refl _) _
theorem extI2 (w : World) (o o' : Obj) : Below w.heap.size w ((w.alloc o).alloc o') := (extI w o).alloc (by simp) _
theorem lt_of_cellI {w : World} {a : Addr} {v : Value} (h : w.cell? a = some v) : a.block < w.heap.size := by
  rcases Nat.lt_or_ge a.block w.heap.size with h' | h'
  · exact h'
  · simp [World.cell?, Array.getElem?_eq_none h'] at h
theorem cell_allocI {w : World} {b i : Nat} {v : Value} {o : Obj} (h : w.cell? ⟨b, i, none⟩ = some v) : (w.alloc o).cell? ⟨b, i, none⟩ = some v := by
  have hb : b < w.heap.size := lt_of_cellI h
  rw [World.cell?_alloc_past (w := w) _ b _ hb]; exact h
theorem cell_setI {w : World} {b i : Nat} {v : Value} {a : Addr} {x : Value} (h : w.cell? ⟨b, i, none⟩ = some v) (hb : b ≠ a.block) : (w.setCell a x).cell? ⟨b, i, none⟩ = some v := by
  rw [← h]
  exact World.cell?_of_block (w := w) (a := ⟨b, i, none⟩) (Below.heap_setCell _ _ _ _ hb)
theorem cell_set3I {w : World} {b c i : Nat} {v x y z : Value} (h : w.cell? ⟨b, i, none⟩ = some v) (hb : b < c) : (((w.setCell ⟨c, 0, none⟩ x).setCell ⟨c, 1, none⟩ y).setCell ⟨c, 2, none⟩ z).cell? ⟨b, i, none⟩ = some v :=
  cell_setI (cell_setI (cell_setI h (by show b ≠ c; omega)) (by show b ≠ c; omega)) (by show b ≠ c; omega)

theorem two_allocs (w : World) (o o' : Obj) : ((w.alloc o).alloc o').drew.heap.size = w.heap.size + 2 ∧ ((w.alloc o).alloc o').drew.heap[w.heap.size]? = some o ∧ ((w.alloc o).alloc o').drew.heap[w.heap.size + 1]? = some o' := by
  refine ⟨by show ((w.heap.push o).push o').size = _; simp, ?_, ?_⟩
  · show ((w.heap.push o).push o')[w.heap.size]? = _
    simp [Array.getElem?_push]
  · show ((w.heap.push o).push o')[w.heap.size + 1]? = _
    rw [Array.getElem?_push, if_pos (by simp)]
/-- the taken seats copied -/
theorem PkW.filled {w : World} {n : Int} {ring : Bool} {p : Option Addr} {m0 cap gb gt k N : Nat} {sv cur cur' : List Value} {T T' : List Int} {wr w' : World} (h : PkW w n ring p m0 cap gb gt k N sv cur T wr) (hk : Keep gt (gt + 1) wr w') (ho : OwnArr w' gt 3 cur') (hl : cur'.length = N) (htop : cur'.take k = iv T') (hT : T'.length = k) :
    PkW w n ring p m0 cap gb gt k N sv cur' T' w' := by
  have h1 := h.hb
  have h2 := h.ht
  have h3 := h.ne
  have hbel : Below (w.heap.size + 2) wr w' := ⟨hk.os, hk.tape, hk.output, hk.size, fun i hi => by
    by_cases hlt : i < wr.heap.size
    · exact hk.block i hlt (by omega)
    · have := h.row.lt; omega⟩
  exact ⟨h.beg.next2 hbel, hk.own h.st (by omega), hk.own h.row (by omega), ho, h1, h2, h3, hl, htop, hT⟩
theorem splice_zero {cur cs : List Value} {k : Nat} (h : cs.length = k) (hl : k ≤ cur.length) : (splice cur 0 cs).take k = cs := by
  unfold splice
  rw [List.take_zero, List.nil_append]
  exact List.take_left' h
theorem PkW.first {w : World} {n : Int} {ring : Bool} {p : Option Addr} {m0 cap gb gt N : Nat} {sv : List Value} {w1 W : World} (hE : Beg w n ring p m0 cap w1) (hS : OwnArr w1 (w.heap.size + 2) 3 sv) (hs : w1.heap.size = w.heap.size + 3) (hb : Below w1.heap.size w1 W) (hsz : W.heap.size = w1.heap.size + 2)
    (h : gb = w1.heap.size + 1 ∧ gt = w1.heap.size ∨ gb = w1.heap.size ∧ gt = w1.heap.size + 1) (hm : m0 ≤ N)
    (hR : W.heap[gb]? = some (.cells #[.int .i64 n, .bool ring, .slice (some ⟨gt, 0, none⟩) m0 N] 28 (0, 0))) (hT : W.heap[gt]? = some (.cells (Array.replicate N (.int .i64 0)) 3 (0, 0))) :
    PkW w n ring p m0 cap gb gt m0 N sv (List.replicate N (.int .i64 0)) (List.replicate m0 0) W := by
  refine ⟨hE.next hb, hS.below hb hS.lt, hR, by unfold OwnArr; rw [hT]; simp, by omega, by omega, by omega, by simp, ?_, by simp⟩
  rw [List.take_replicate, Nat.min_eq_left hm]
  simp [iv]

theorem results_tmp_cellI {fn : Func} {p u : Tmp} {ty : TypeId} (h : fn.results = #[.tmp u, .cell p ty]) (tmps : Array Value) (P : Program) (w : World) :
    (results fn tmps).run P w = ((asAddr (tmps.getD p undef)).run P w).andThen fun a w₁ => ((loadVar ty a).run P w₁).andThen fun v w₂ => .ok (.tuple #[tmps.getD u undef, v]) w₂ := by
  simp only [results, h]
  simp [Sem.run_bind, Result.andThen]
theorem ret_rowI {fn : Func} {R : Ending → World → Prop} {a : Act} {w : World} {p u : Tmp} {b : Nat} {x y z : Value} {v : Value} (h : fn.results = #[.tmp u, .cell p 28]) (hp : a.tmps.getD p undef = .pointer (some ⟨b, 0, none⟩)) (hu : a.tmps.getD u undef = v)
    (ho : OwnArr w b 28 [x, y, z]) (hd : a.defers = []) (hR : R (.returned (.tuple #[v, .agg #[x, y, z]])) w) : bodyPost Try.prog fn R .ret a w := by
  refine bodyPost_ret (v := .tuple #[v, .agg #[x, y, z]]) ?_ hd hR
  rw [results_tmp_cellI h, hp, hu]
  simp only [asAddr, Sem.run_pure, Result.andThen]
  rw [load_row ho]
/-- what goes out -/
theorem PkW.outS {w : World} {n : Int} {ring : Bool} {p : Option Addr} {m0 cap gb gt k N : Nat} {cur : List Value} {T : List Int} {wr : World} {L : List Int} {j : Nat} (h : PkW w n ring p m0 cap gb gt k N (svM L (j - j)) cur T wr) (hl : L.length = j) (hj : j ≤ 1000) (x y z : Value) :
    Out w.heap.size (((wr.setCell ⟨w.heap.size + 1, 0, none⟩ x).setCell ⟨w.heap.size + 1, 1, none⟩ y).setCell ⟨w.heap.size + 1, 2, none⟩ z).drew (.slice (some ⟨w.heap.size + 2, 0, none⟩) j j) L := by
  have hs := h.st
  rw [Nat.sub_self] at hs
  unfold svM at hs
  rw [List.replicate_zero, List.append_nil] at hs
  have h3 := ((hs.other (a := ⟨w.heap.size + 1, 0, none⟩) (by show w.heap.size + 2 ≠ w.heap.size + 1; omega) x).other (a := ⟨w.heap.size + 1, 1, none⟩) (by show w.heap.size + 2 ≠ w.heap.size + 1; omega) y).other (a := ⟨w.heap.size + 1, 2, none⟩) (by show w.heap.size + 2 ≠ w.heap.size + 1; omega) z
  refine ⟨by rw [iv_length]; omega, .inr ⟨_, j, (iv L).toArray, by rw [hl], by omega, h3, by omega, by unfold maxLen; omega, by simp [iv_length]; omega, by simp only [List.toList_toArray]; exact List.take_of_length_le (by rw [iv_length]; omega)⟩⟩
theorem PkW.outT {w : World} {n : Int} {ring : Bool} {p : Option Addr} {m0 cap gb gt k N : Nat} {sv cur : List Value} {T : List Int} {wr : World} (h : PkW w n ring p m0 cap gb gt k N sv cur T wr) (hk : k ≤ N) (hN : N ≤ 1000) (x y z : Value) :
    Out w.heap.size (((wr.setCell ⟨w.heap.size + 1, 0, none⟩ x).setCell ⟨w.heap.size + 1, 1, none⟩ y).setCell ⟨w.heap.size + 1, 2, none⟩ z).drew (.slice (some ⟨gt, 0, none⟩) k N) T := by
  have ht := h.ht
  have h3 := ((h.tak.other (a := ⟨w.heap.size + 1, 0, none⟩) (by show gt ≠ w.heap.size + 1; omega) x).other (a := ⟨w.heap.size + 1, 1, none⟩) (by show gt ≠ w.heap.size + 1; omega) y).other (a := ⟨w.heap.size + 1, 2, none⟩) (by show gt ≠ w.heap.size + 1; omega) z
  have hl := h.len
  have hkl := h.klen
  refine ⟨by rw [iv_length]; omega, .inr ⟨gt, N, cur.toArray, by rw [hkl], by omega, h3, by omega, by unfold maxLen; omega, by simpa using hl, ?_⟩⟩
  simp [hkl, h.top]

/-- two rows of the call's own share no block -/
def Sep (B : Nat) (v0 v1 : Value) (n0 n1 : Nat) (w' : World) : Prop :=
  ∃ M, B ≤ M ∧ M ≤ w'.heap.size ∧ (∀ p c, v0 = .slice p n0 c → Own B M w' 3 p n0) ∧ (∀ p c, v1 = .slice p n1 c → Own M w'.heap.size w' 3 p n1)
theorem Sep.next {B : Nat} {v0 v1 : Value} {n0 n1 : Nat} {w w' : World} (h : Sep B v0 v1 n0 n1 w) (hb : Below w.heap.size w w') : Sep B v0 v1 n0 n1 w' := by
  obtain ⟨M, h1, h2, h3, h4⟩ := h
  exact ⟨M, h1, Nat.le_trans h2 hb.size, fun p c e => (h3 p c e).bel hb, fun p c e => ((h4 p c e).bel hb).mono (Nat.le_refl _) hb.size (Nat.le_refl _)⟩
theorem Sep.mono {B B' : Nat} {v0 v1 : Value} {n0 n1 : Nat} {w : World} (h : Sep B v0 v1 n0 n1 w) (hB : B' ≤ B) : Sep B' v0 v1 n0 n1 w := by
  obtain ⟨M, h1, h2, h3, h4⟩ := h
  exact ⟨M, by omega, h2, fun p c e => (h3 p c e).mono hB (Nat.le_refl _) h2, h4⟩
theorem Sep.keep {B : Nat} {v0 v1 : Value} {n0 n1 : Nat} {w w' : World} {g : Nat} (h : Sep B v0 v1 n0 n1 w) (hk : Keep g (g + 1) w w') (hg : g < B) : Sep B v0 v1 n0 n1 w' := by
  obtain ⟨M, h1, h2, h3, h4⟩ := h
  exact ⟨M, h1, Nat.le_trans h2 hk.size, fun p c e => (h3 p c e).keep hk (.inr hg), fun p c e => ((h4 p c e).keep hk (.inr (by omega))).mono (Nat.le_refl _) hk.size (Nat.le_refl _)⟩
theorem Sep.boxed {B : Nat} {v0 v1 : Value} {n0 n1 : Nat} {w : World} {g : Nat} (h : Sep B v0 v1 n0 n1 w) (hg : g < B) (x y z : Value) : Sep B v0 v1 n0 n1 (((w.setCell ⟨g, 0, none⟩ x).setCell ⟨g, 1, none⟩ y).setCell ⟨g, 2, none⟩ z) :=
  h.keep ((((Keep.refl g (g + 1) w).setCell ⟨Nat.le_refl _, Nat.lt_succ_self _⟩ 0 x).setCell ⟨Nat.le_refl _, Nat.lt_succ_self _⟩ 1 y).setCell ⟨Nat.le_refl _, Nat.lt_succ_self _⟩ 2 z) hg
theorem Sep.none {B : Nat} {w : World} {b : Nat} (hB : B ≤ w.heap.size) : Sep B (.slice (some ⟨b, 0, Option.none⟩) 0 0) (.slice Option.none 0 0) 0 0 w :=
  ⟨w.heap.size, hB, Nat.le_refl _, fun _ _ _ => Own.nil _ _ _ _ _ (Nat.le_refl _), fun _ _ _ => Own.nil _ _ _ _ _ (Nat.le_refl _)⟩
theorem PkW.sep {w : World} {n : Int} {ring : Bool} {p : Option Addr} {m0 cap gb gt k N : Nat} {cur : List Value} {T : List Int} {wr : World} {L : List Int} {j : Nat} (h : PkW w n ring p m0 cap gb gt k N (svM L (j - j)) cur T wr) (hl : L.length = j) (hk : k ≤ N) (x y z : Value) :
    Sep w.heap.size (.slice (some ⟨w.heap.size + 2, 0, Option.none⟩) j j) (.slice (some ⟨gt, 0, Option.none⟩) k N) L.length T.length (((wr.setCell ⟨w.heap.size + 1, 0, Option.none⟩ x).setCell ⟨w.heap.size + 1, 1, Option.none⟩ y).setCell ⟨w.heap.size + 1, 2, Option.none⟩ z).drew := by
  have hs := h.st
  rw [Nat.sub_self] at hs
  unfold svM at hs
  rw [List.replicate_zero, List.append_nil] at hs
  have ht := h.ht
  have hlen := h.len
  have hkl := h.klen
  have hlt := h.tak.lt
  have h3 := ((hs.other (a := ⟨w.heap.size + 1, 0, Option.none⟩) (by show w.heap.size + 2 ≠ w.heap.size + 1; omega) x).other (a := ⟨w.heap.size + 1, 1, Option.none⟩) (by show w.heap.size + 2 ≠ w.heap.size + 1; omega) y).other (a := ⟨w.heap.size + 1, 2, Option.none⟩) (by show w.heap.size + 2 ≠ w.heap.size + 1; omega) z
  have h4 := ((h.tak.other (a := ⟨w.heap.size + 1, 0, Option.none⟩) (by show gt ≠ w.heap.size + 1; omega) x).other (a := ⟨w.heap.size + 1, 1, Option.none⟩) (by show gt ≠ w.heap.size + 1; omega) y).other (a := ⟨w.heap.size + 1, 2, Option.none⟩) (by show gt ≠ w.heap.size + 1; omega) z
  have hlt3 := h3.lt
  have hlt4 := h4.lt
  refine ⟨w.heap.size + 3, by omega, hlt3, ?_, ?_⟩
  · intro p c e
    simp only [Value.slice.injEq] at e
    obtain ⟨rfl, -, -⟩ := e
    exact ⟨hlt3, fun _ => ⟨w.heap.size + 2, iv L, rfl, by omega, by omega, h3, by rw [iv_length]; exact Nat.le_refl _⟩⟩
  · intro p c e
    simp only [Value.slice.injEq] at e
    obtain ⟨rfl, -, -⟩ := e
    exact ⟨Nat.le_refl _, fun _ => ⟨gt, cur, rfl, ht, hlt4, h4, by rw [hlen, hkl]; exact hk⟩⟩

def lenOf : Value → Nat
  | .slice _ l _ => l
  | _ => 0
theorem quiet_bin (b off n c : Nat) (zs : List Int) (x : Int) (w : World) (nq : Nat) (hz : zs.length = n) (hbig : n < 4611686018427387904) (hc : ∀ j, j < n → w.cell? ⟨b, off + j, none⟩ = some (.int .i64 (zs.getD j 0))) (hs : zs.Pairwise (· ≤ ·)) :
    Calls Try.prog 65 #[.slice (some ⟨b, off, none⟩) n c, .int .i64 x] (w.drewN nq) fun e w' => e = .returned (.tuple #[.int .i64 (zs.countP (· < x) : Nat), .bool (zs.contains x)]) ∧ ∃ m, w' = w.drewN m :=
  (binSearch_any b off n c zs x (w.drewN nq) hz hbig hc hs).mono fun _ _ ⟨he, q, hq⟩ => ⟨he, nq + q, by rw [hq, World.drewN_drewN]⟩
theorem PkW.zs {w : World} {n : Int} {ring : Bool} {p : Option Addr} {m0 cap gb gt k N : Nat} {sv cur : List Value} {T : List Int} {wr : World} (h : PkW w n ring p m0 cap gb gt k N sv cur T wr) : ∀ j, j < k → wr.cell? ⟨gt, 0 + j, none⟩ = some (.int .i64 (T.getD j 0)) := by
  intro j hj
  have hk := h.klen
  rw [Nat.zero_add, h.tak.cell]
  have e : (cur.take k)[j]? = cur[j]? := by rw [List.getElem?_take, if_pos hj]
  rw [← e, h.top, iv_get (by omega), List.getD_eq_getElem?_getD]

set_option maxRecDepth 4000 in
set_option maxHeartbeats 8000000 in
theorem parkI_any (n : Nat) (ring : Bool) (p : Option Addr) (cap : Nat) (S : Nat → Bool) (q : Option Addr) (c : Nat) (l : List Nat) (kk : Nat) (w : World) (lo hi lo2 hi2 : Nat) (hin : Ri lo hi w p (ints (tk n S))) (hn : n ≤ 24) (hin2 : Ri lo2 hi2 w q (ints l)) (hl : ∀ x ∈ l, x < n) (hll : l.length ≤ 12) (hkk : kk ≤ 24) :
    Calls Try.prog 58 #[rowV n ring p (ints (tk n S)).length cap, .slice q (ints l).length c, .int .i64 (kk : Nat)] w fun e w' => ∃ v u, e = .returned (.tuple #[v, .agg #[.int .i64 (n : Int), .bool ring, u]]) ∧ Out w.heap.size w' v (pkM n ring kk S l l.length) ∧ Out w.heap.size w' u (ints (tk n (stM n ring kk S l l.length))) ∧ Sep w.heap.size v u (pkM n ring kk S l l.length).length (ints (tk n (stM n ring kk S l l.length))).length w' ∧ Below w.heap.size w w' := by
  obtain ⟨i0, hi0, hz0, hz1, hz2⟩ := info_parts infoInt
  have hsz1 : (Try.prog.info? 3).map (·.size) = some 1 := by rw [hi0]; simp [hz1]
  have hlen := ints_tk_len n S
  have hE := Beg.start w n ring p (ints (tk n S)).length cap
  have HI := Lib.hid (fun (w' : World) (h' : Below w.heap.size w w') => hin.below h' hin.top)
  have HI2 := Lib.hid (fun (w' : World) (h' : Below w.heap.size w w') => hin2.below h' hin2.top)
  have HL := Lib.hid hl
  obtain ⟨wb, hwb⟩ : ∃ wb, (w.alloc (.cells #[Value.int .i64 n, Value.bool ring, Value.slice p (ints (tk n S)).length cap] 28)).alloc (.cells #[Value.int .i64 0, Value.bool false, Value.slice none 0 0] 28) = wb := ⟨_, rfl⟩
  have hsb : wb.heap.size = w.heap.size + 2 := by rw [← hwb]; simp
  rw [hwb] at hE
  have HE := Lib.hid hE
  obtain ⟨T0, hT0⟩ : ∃ T, ints (tk n S) = T := ⟨_, rfl⟩
  rw [hT0] at HI HE hwb hlen ⊢
  have HT0 := Lib.hid hT0
  obtain ⟨m0, hm⟩ : ∃ m, T0.length = m := ⟨_, rfl⟩
  rw [hm] at HE hwb hlen ⊢
  have HM := Lib.hid hm
  rw [ints_length]
  obtain ⟨m, hm2⟩ : ∃ m, l.length = m := ⟨_, rfl⟩
  rw [hm2] at hll ⊢
  have HLM := Lib.hid hm2
  have HW := Lib.hid hwb
  have mk1 := make_lc m m (Nat.le_refl _) (by omega) wb
  have hOS := OwnArr.made wb 3 (List.replicate m (Value.int .i64 0))
  obtain ⟨w1, hw1⟩ : ∃ w1, wb.alloc (.cells (List.replicate m (Value.int .i64 0)).toArray 3) = w1 := ⟨_, rfl⟩
  rw [hw1] at mk1 hOS
  have hE1 : Beg w n ring p m0 cap w1 := by rw [← hw1]; exact HE.out.next ((Below.refl _ _).alloc (Nat.le_refl _) _)
  have hs1 : w1.heap.size = w.heap.size + 3 := by rw [← hw1]; simp [hsb]
  rw [hsb] at hOS mk1
  have HOS := Lib.hid hOS
  have HE1 := Lib.hid hE1
  have HS1 := Lib.hid hs1
  have MK2 := fun w' => make_lc m0 n hlen (by omega) w'
  obtain ⟨c0, c1, c2, -⟩ := hE1.row.three
  clear hE hin hin2 hm hm2 hl hwb hsb hw1 hOS hE1 hs1 hT0
  go_enter Try.func58, Try.ntmps58
  go_upto_region 1 with fail
  rw [HW.out]
  go_step3
  go_upto_region 1 with fail
  go_cut [8] (fun v wx => v = .slice (some ⟨w.heap.size + 2, 0, none⟩) m m ∧ wx = w1)
  case first =>
    go_wp2_with fail
    go_meet
    exact ⟨rfl, rfl⟩
  case rest =>
    obtain ⟨rfl, rfl⟩ := hcut
    clear mk1
    have X1 := Lib.hid ((Below.refl wc.heap.size wc).drew)
    have X2 := Lib.hid ((extI wc (.cells (Array.replicate n (.int .i64 0)) 3)).drew)
    have X3 := Lib.hid ((extI wc (.cells #[.int .i64 0, .bool false, .slice none 0 0] 28)).drew)
    have X4 := Lib.hid ((extI2 wc (.cells (Array.replicate n (.int .i64 0)) 3) (.cells #[.int .i64 0, .bool false, .slice none 0 0] 28)).drew)
    have X5 := Lib.hid ((extI2 wc (.cells #[.int .i64 0, .bool false, .slice none 0 0] 28) (.cells (Array.replicate n (.int .i64 0)) 3)).drew)
    have X6 := Lib.hid ((extI2 wc (.cells (Array.replicate n (.int .i64 0)) 3) (.cells #[.int .i64 (n : Int), .bool ring, .slice (some ⟨wc.heap.size, 0, none⟩) m0 n] 28)).drew)
    have X7 := Lib.hid ((extI2 wc (.cells #[.int .i64 (n : Int), .bool ring, .slice (some ⟨wc.heap.size + 1, 0, none⟩) m0 n] 28) (.cells (Array.replicate n (.int .i64 0)) 3)).drew)
    go_upto_region 2 with fail
    go_cut [9] (fun gv wx => ∃ gb gt, gv = .pointer (some ⟨gb, 0, none⟩) ∧ Hid (PkW w n ring p m0 cap gb gt m0 n (List.replicate m (Value.int .i64 0)) (List.replicate n (Value.int .i64 0)) (List.replicate m0 0) wx))
    case first =>
      obtain ⟨a10, a11, a12, -⟩ := (HE1.out.next X1.out).row.three
      obtain ⟨a20, a21, a22, -⟩ := (HE1.out.next X2.out).row.three
      obtain ⟨a30, a31, a32, -⟩ := (HE1.out.next X3.out).row.three
      obtain ⟨a40, a41, a42, -⟩ := (HE1.out.next X4.out).row.three
      obtain ⟨a50, a51, a52, -⟩ := (HE1.out.next X5.out).row.three
      obtain ⟨a60, a61, a62, -⟩ := (HE1.out.next X6.out).row.three
      obtain ⟨a70, a71, a72, -⟩ := (HE1.out.next X7.out).row.three
      clear c0 c1 c2
      go_region_held3 (fun w' => w'.cell? ⟨w.heap.size, 0, none⟩ = some (.int .i64 n) ∧ w'.cell? ⟨w.heap.size, 1, none⟩ = some (.bool ring) ∧ w'.cell? ⟨w.heap.size, 2, none⟩ = some (.slice p m0 cap)) ((first | with_reducible exact ⟨a10, a11, a12⟩ | with_reducible exact ⟨a20, a21, a22⟩ | with_reducible exact ⟨a30, a31, a32⟩ | with_reducible exact ⟨a40, a41, a42⟩ | with_reducible exact ⟨a50, a51, a52⟩ | with_reducible exact ⟨a60, a61, a62⟩ | with_reducible exact ⟨a70, a71, a72⟩)) (fail)
      all_goals
        go_wp2_with fail
        go_meet
      · exact ⟨_, _, rfl, Lib.hid (PkW.first HE1.out HOS.out HS1.out X6.out (two_allocs _ _ _).1 (Or.inl ⟨rfl, rfl⟩) hlen (two_allocs _ _ _).2.2 (two_allocs _ _ _).2.1)⟩
      · exact ⟨_, _, rfl, Lib.hid (PkW.first HE1.out HOS.out HS1.out X7.out (two_allocs _ _ _).1 (Or.inr ⟨rfl, rfl⟩) hlen (two_allocs _ _ _).2.1 (two_allocs _ _ _).2.2)⟩
    case rest => 
      obtain ⟨gb, gt, rfl, HP⟩ := hcut
      clear X1 X2 X3 X4 X5 X6 X7 HE1 HOS HS1 MK2 HE HW c0 c1 c2
      obtain ⟨c0, c1, c2, -⟩ := HP.out.beg.row.three
      obtain ⟨r0, r1, r2, -⟩ := HP.out.row.three
      have HC : Hid (OwnArr wc gt 3 (List.replicate n (.int .i64 0))) := HP.out.tak
      have HSRC : Hid (0 < (iv T0).length → ∃ ad, p = some ad ∧ ∀ j v, (iv T0)[j]? = some v → wc.cell? (ad.add j) = some v) := by
        show _ → _
        intro h0
        rw [iv_length] at h0
        exact rd_news (HI.out wc HP.out.beg.bel) h0
      obtain ⟨V0, hV0⟩ : ∃ V, iv T0 = V := ⟨_, rfl⟩
      have HV1 : Hid (∀ v ∈ V0, v.oneCell' = true) := by show ∀ _, _; rw [← hV0]; exact iv_one T0
      have HVL : Hid (V0.length = m0) := by show _ = _; rw [← hV0, iv_length]; exact HM.out
      rw [hV0] at HSRC
      have HV0 := Lib.hid hV0
      clear hV0
      go_wp2_with (refine copyK0 rfl (.tmp 30) (.tmp 32) 22 22 rfl 3 Try.underlying22 hsz1 p m0 n m0 cap gt 0 rfl rfl (List.replicate n (.int .i64 0)) 3 HC.out V0 (by rw [HVL.out]; show m0 = min m0 m0; omega) HSRC.out (by rw [HVL.out, List.length_replicate]; omega) HV1.out gt (gt + 1) wc (Keep.refl _ _ _) ⟨Nat.le_refl _, Nat.lt_succ_self _⟩ ?_; intro W2 hA2 hK2)
      have HP2 := Lib.hid (HP.out.filled hK2 hA2.out (by rw [length_splice _ _ _ (by rw [HVL.out, List.length_replicate]; omega), List.length_replicate]) (by rw [HV0.out]; exact splice_zero HVL.out (by rw [List.length_replicate]; omega)) HM.out)
      clear hA2 hK2 c0 c1 c2 r0 r1 r2 HC HSRC HV1 HP
      go_wp2_with fail
      have HP0 : Hid (PkW w n ring p m0 cap gb gt m0 n (svM (pkM n ring kk S l 0) (m - 0)) (splice (List.replicate n (Value.int .i64 0)) 0 V0) (ints (tk n (stM n ring kk S l 0))) W2) := by
        show PkW _ _ _ _ _ _ _ _ _ _ _ _ _ _
        rw [show ints (tk n (stM n ring kk S l 0)) = T0 from HT0.out]
        exact HP2.out
      obtain ⟨cur0, hcur0⟩ : ∃ cur0, splice (List.replicate n (Value.int .i64 0)) 0 V0 = cur0 := ⟨_, rfl⟩
      rw [hcur0] at HP0
      clear HP2 HVL HV0 hcur0 HI HT0 HM
      go_step3
      go_wp2_with fail
      go_loopw [36, 10, 11, 12, 13, 14] (fun i _ _ _ _ _ wr => ∃ (j k : Nat) (cur : List Value), j ≤ m ∧ i = .int .i64 (j : Int) ∧ Hid (PkW w n ring p m0 cap gb gt k n (svM (pkM n ring kk S l j) (m - j)) cur (ints (tk n (stM n ring kk S l j))) wr)) (fun i _ _ _ _ _ _ => m - (intOf i).toNat)
      case atStart => exact ⟨0, m0, cur0, Nat.zero_le _, rfl, HP0⟩
      case round =>
        obtain ⟨j, k, cur, hj, rfl, HP⟩ := hrel
        clear HP0
        by_cases hlt : j < m
        · have hj1 : (j : Int) < (m : Int) := by omega
          have hj0 : (0 : Int) ≤ (j : Int) := by omega
          have hjl : j < l.length := by rw [HLM.out]; exact hlt
          obtain ⟨b, off, rfl, -, -, hbw, hc⟩ := (HI2.out wr HP.out.beg.bel).int (by rw [ints_length]; omega)
          have h0 := hc j (by rw [ints_length]; exact hjl)
          rw [ints_get hjl] at h0
          have hxn := HL.out _ (nat_mem hjl)
          have hpk := pk_succ n ring kk S l j
          have hst := st_succ n ring kk S l j
          have hcd : carM n ring kk S l j = bckM n ring (stM n ring kk S l j) (l[j]?.getD 0) kk := rfl
          have HL2 := Lib.hid (pk_len n ring kk S l j)
          obtain ⟨x, hx⟩ : ∃ x, l[j]?.getD 0 = x := ⟨_, rfl⟩
          rw [hx] at h0 hxn hcd
          have WY := Lib.hid (wayOf_any n ring (some ⟨gt, 0, none⟩) k n x kk wr hn hxn hkk)
          rw [← way_find hxn] at hcd
          have hwp := way_pos n ring x kk
          have hwl := way_len n ring x kk hxn
          have hwn := way_lt (ring := ring) (k := kk) hxn
          obtain ⟨Wy, hWy⟩ : ∃ W, wayM n ring x kk = W := ⟨_, rfl⟩
          rw [hWy] at WY hcd hwp hwl hwn
          obtain ⟨St, hSt⟩ : ∃ St, stM n ring kk S l j = St := ⟨_, rfl⟩
          rw [hSt] at HP hcd hst
          obtain ⟨pk, hpke⟩ : ∃ pk, pkM n ring kk S l j = pk := ⟨_, rfl⟩
          rw [hpke] at HP hpk HL2
          obtain ⟨C, hC⟩ : ∃ C, carM n ring kk S l j = C := ⟨_, rfl⟩
          rw [hC] at hcd hpk hst
          have HPK := Lib.hid hpk
          have HST := Lib.hid hst
          have HCD := Lib.hid hcd
          have HWN := Lib.hid hwn
          have HWL := Lib.hid hwl
          have HWP := Lib.hid hwp
          obtain ⟨r0, r1, r2, -⟩ := HP.out.row.three
          clear hc hbw hx hpk hst hcd hwp hwl hwn hWy hSt hpke hC
          go_wp2_with fail
          refine WY.out.mono ?_
          rintro e w3 ⟨v, rfl, hO, hb3⟩
          have HP3 := Lib.hid (HP.out.next hb3)
          obtain ⟨qv, cv, rfl, hlc, hcm, hrv, -⟩ := hO.rd
          rw [ints_length] at hlc ⊢
          have hlow := HP.out.row.lt
          have hgb := HP.out.hb
          have HV3 : Hid (Ri (w.heap.size + 3) w3.heap.size w3 qv (ints (Wy.drop 0))) := by show Ri _ _ _ _ _; rw [List.drop_zero]; exact hrv.mono (by omega) (Nat.le_refl _) (Nat.le_refl _)
          obtain ⟨Wl, hWl⟩ : ∃ Wl, Wy.length = Wl := ⟨_, rfl⟩
          rw [hWl] at hlc HWL HWP ⊢
          have hwl0 := HWP.out
          have HWLE := Lib.hid hWl
          clear hO hb3 hrv WY r0 r1 r2 h0 HP hlow hgb hWl
          go_wp2_with fail
          go_loopw [12] (fun v wr => ∃ (t : Nat) (p' : Option Addr) (c' L : Nat), v = .slice p' L c' ∧ t + L = Wl ∧ 0 < L ∧ L ≤ c' ∧ c' ≤ maxLen ∧ Hid (Ri (w.heap.size + 3) wr.heap.size wr p' (ints (Wy.drop t))) ∧ Hid (∀ i, i < t → St (Wy[i]?.getD 0) = true) ∧ Hid (PkW w n ring p m0 cap gb gt k n (svM pk (m - j)) cur (ints (tk n St)) wr)) (fun v _ => lenOf v)
          case atStart => exact ⟨0, qv, cv, Wl, rfl, by omega, hwl0, hlc, hcm, HV3, Lib.hid (fun i h => absurd h (Nat.not_lt_zero _)), HP3⟩
          case round =>
            obtain ⟨t, p', c', L, rfl, hL, hL0, hLc, hcm', HV, HS, HP⟩ := hrel
            clear HP3 HV3
            have htl : t < Wy.length := by rw [HWLE.out]; omega
            have hdl : 0 < (Wy.drop t).length := by rw [List.length_drop]; omega
            obtain ⟨b2, off2, rfl, hb2lo, -, hb2w, hc2⟩ := HV.out.int (by rw [ints_length]; exact hdl)
            have h0 := hc2 0 (by rw [ints_length]; exact hdl)
            rw [ints_get hdl, List.getElem?_drop, Nat.add_zero, Nat.add_zero] at h0
            have hyn := HWN.out _ (nat_mem htl)
            have hyv : Wy[t]?.getD 0 = Wy[t]?.getD 0 := rfl
            obtain ⟨y, hy⟩ : ∃ y, Wy[t]?.getD 0 = y := ⟨_, rfl⟩
            rw [hy] at h0 hyn
            have HY := Lib.hid hy
            have IT := isTaken_any n ring (some ⟨gt, 0, none⟩) n (ints (tk n St)) (y : Int) wr.drew 0 wr.heap.size (HP.out.ri.below ((Below.refl wr.heap.size wr).drew) (Nat.le_refl _)) (by have := ints_tk_len n St; omega)
            rw [has_tk hyn, HP.out.klen] at IT
            obtain ⟨B, hB⟩ : ∃ B, St y = B := ⟨_, rfl⟩
            rw [hB] at IT
            have HB := Lib.hid hB
            replace IT := Lib.hid IT
            have hL1 : (0 : Int) < (L : Int) := by omega
            have hL2 : (1 : Int) ≤ (L : Int) := by omega
            have hLn : ¬ L = 0 := by omega
            obtain ⟨r0, r1, r2, -⟩ := HP.out.row.three
            clear hc2 hy hyv hB hdl
            go_wp2_with fail
            go_still_tail 4, (by kernel_rfl)
            change wpList _ _ _ _ _ wr.drew
            go_wp2_with fail
            refine IT.out.mono ?_
            rintro e w4 ⟨rfl, hb4⟩
            have hb5 : Below wr.heap.size wr w4 := ((Below.refl _ wr).drew).trans hb4
            have HP4 := Lib.hid (HP.out.next hb5)
            have h04 := (hb5.cell (p := ⟨b2, off2, none⟩) hb2w).trans h0
            have HV4 := Lib.hid ((HV.out.bel hb5).mono (Nat.le_refl _) hb5.size (Nat.le_refl _))
            clear hb4 hb5 IT r0 r1 r2 HP HV h0
            cases B with
            | true =>
              have hbh := HV4.out.behind (k := 1) (cap := c') (by rw [ints_length, List.length_drop, HWLE.out]; omega)
              rw [show (ints (Wy.drop t)).drop 1 = ints (Wy.drop (t + 1)) by unfold ints; rw [← List.map_drop, List.drop_drop]] at hbh
              have HV5 := Lib.hid hbh
              have HS5 : Hid (∀ i, i < t + 1 → St (Wy[i]?.getD 0) = true) := by
                show ∀ _, _
                intro i hi'
                by_cases e : i = t
                · subst e; rw [HY.out]; exact HB.out
                · exact HS.out i (by omega)
              clear hbh HV4 HS
              by_cases hlast : L = 1
              · have hCn : C = none := by
                  rw [HCD.out]
                  refine find_no fun i hi' => ?_
                  rw [HS5.out i (by rw [HWLE.out] at hi'; omega)]; rfl
                subst hCn hlast
                obtain ⟨d, hd⟩ : ∃ d, m - j = d + 1 := ⟨m - j - 1, by omega⟩
                have hd2 : m - (j + 1) = d := by omega
                rw [hd] at HP4
                have hsc := HP4.out.st.cell j
                rw [svM_get HL2.out] at hsc
                have hsf := HP4.out.st.free j
                have hps := HP4.out.seat j (.int .i64 (-1))
                rw [svM_set HL2.out, show pk ++ [(-1 : Int)] = pkM n ring kk S l (j + 1) from HPK.out.symm, ← hd2, show St = stM n ring kk S l (j + 1) from HST.out.symm] at hps
                have HPS := Lib.hid hps
                clear hps hd hd2 HP4 HCD HST HPK HS5 HV5
                go_wp2_with fail
                go_roundw
                case rel => exact ⟨j + 1, k, cur, by omega, by go_num, HPS⟩
                case measure => simp [intOf]; omega
              · have hL3 : ¬ L - 1 = 0 := by omega
                have hL4 : ¬ (L : Int) - 1 = 0 := by omega
                have hV5 := HV5.out
                rw [if_neg (by omega : ¬ c' = 1)] at hV5
                have HV6 := Lib.hid hV5
                clear hV5 HV5
                go_wp2_with fail
                go_roundw
                case rel => exact ⟨t + 1, _, c' - 1, L - 1, rfl, by omega, by omega, by omega, by omega, HV6, HS5, HP4⟩
                case measure => simp [lenOf]; omega
            | false =>
              have hCy : C = some y := by
                rw [HCD.out, ← HY.out]
                exact find_at htl (by rw [HY.out, HB.out]; rfl) (fun i hi' => by rw [HS.out i hi']; rfl)
              subst hCy
              have hne2 : b2 ≠ w.heap.size + 2 := by omega
              obtain ⟨d, hd⟩ : ∃ d, m - j = d + 1 := ⟨m - j - 1, by omega⟩
              have hd2 : m - (j + 1) = d := by omega
              rw [hd] at HP4
              have hsc := HP4.out.st.cell j
              rw [svM_get HL2.out] at hsc
              have hsf := HP4.out.st.free j
              have hps := HP4.out.seat j (.int .i64 (y : Int))
              rw [svM_set HL2.out, show pk ++ [(y : Int)] = pkM n ring kk S l (j + 1) from HPK.out.symm, ← hd2] at hps
              have hp5 := cell_setI (a := ⟨w.heap.size + 2, j, none⟩) (x := .int .i64 (y : Int)) h04 hne2
              obtain ⟨w5, hw5⟩ : ∃ w5, w4.setCell ⟨w.heap.size + 2, j, none⟩ (.int .i64 (y : Int)) = w5 := ⟨_, rfl⟩
              rw [hw5] at hps hp5
              have HW5 := Lib.hid hw5
              have HPS := Lib.hid hps
              have hkl := hps.klen
              rw [ints_length] at hkl
              have hroom := tk_room hyn HB.out
              rw [hkl] at hroom
              have BS := Lib.hid (fun nq => quiet_bin gt 0 k n (ints (tk n St)) (y : Int) w5 nq hps.klen (by omega) hps.zs (tk_int_sorted n St))
              have hcn : (ints (tk n St)).countP (· < (y : Int)) ≤ k := by rw [← hps.klen]; exact cnt_le _ _
              have hput := put_at hyn HB.out
              unfold cntLt at hput
              rw [show tk n (putO St (some y)) = tk n (stM n ring kk S l (j + 1)) by rw [HST.out]] at hput
              obtain ⟨cn, hcne⟩ : ∃ cn, (ints (tk n St)).countP (· < (y : Int)) = cn := ⟨_, rfl⟩
              rw [hcne] at BS hcn hput
              have HPUT := Lib.hid hput
              clear hps hw5 hd hd2 HP4 HCD HPK hput hcne HV4 HS hkl
              go_wp2_with fail
              rw [HW5.out]
              obtain ⟨r0, r1, r2, -⟩ := HPS.out.row.three
              go_quiet ((go_at_call 65; exact BS.out _))
              obtain ⟨w6, hw6⟩ : ∃ w6, w6 = w5.drewN nq := ⟨_, rfl⟩
              have hb6 : Below w5.heap.size w5 w6 := by rw [hw6]; exact drewN_below w5 nq
              have HP6 := Lib.hid (HPS.out.next hb6)
              have h06 : w6.cell? ⟨b2, off2, none⟩ = some (.int .i64 (y : Int)) := by rw [hw6]; exact hp5
              rw [← hw6]
              clear hw6 hb6 hp5 r0 r1 r2 BS HPS HW5 hsc hsf h04
              obtain ⟨r0, r1, r2, y0, y1, y2⟩ := HP6.out.row.three
              have HP7 := Lib.hid (HP6.out.next ((extI w6 (.cells #[.int .i64 (y : Int)] 3)).drew))
              have HVB : Hid (OwnArr (w6.alloc (.cells #[.int .i64 (y : Int)] 3)).drew w6.heap.size 3 [.int .i64 (y : Int)]) := OwnArr.made w6 3 [.int .i64 (y : Int)]
              have HNE : Hid (w6.heap.size ≠ gt) := by show _ ≠ _; have := HP6.out.tak.lt; omega
              have HTL : Hid ((ints (tk n (stM n ring kk S l (j + 1)))).length = k + 1) := by
                show _ = _
                rw [HPUT.out, List.length_append, List.length_cons, List.length_take, List.length_drop, HP6.out.klen]
                omega
              go_wp2_with fail
              obtain ⟨a20, a21, a22, -⟩ := (HP6.out.next (extI w6 (.cells #[.int .i64 (y : Int)] 3))).row.three
              have b20 := cell_allocI (o := .cells #[.int .i64 (y : Int)] 3) h06
              go_region_with ( go_at_call 66; refine (insP_any gt k n w6.heap.size cn cur (ints (tk n St)) (y : Int) _ HP7.out.tak HVB.out HNE.out HP7.out.klen HP7.out.len HP7.out.top hroom (by omega) hcn).mono ?_; rintro e w7 ⟨rfl, cur', hO7, hl7, ht7, hk7⟩; rw [← HPUT.out] at ht7; have HP8 := Lib.hid (HP7.out.ins hk7 hO7 hl7 ht7 HTL.out); obtain ⟨q0, q1, q2, z0, z1, z2⟩ := (hk7.own HP7.out.row (by have := HP7.out.ne; omega)).three; clear hO7 hl7 ht7 hk7)
              all_goals
                go_wp2_with fail
                go_roundw
                case rel => exact ⟨j + 1, k + 1, cur', by omega, by go_num, HP8⟩
                case measure => simp [intOf]; omega
        · have hjm : j = m := by omega
          subst hjm
          have hj1 : ¬ (j : Int) < (j : Int) := by omega
          obtain ⟨r0, r1, r2, -⟩ := HP.out.row.three
          obtain ⟨z0, z1, z2, y0, y1, y2⟩ := HP.out.beg.res.three
          go_wp2_with fail
          go_region
          all_goals
            go_wp2_with fail
            rw [Exit.noGoto_ret]
            exact ret_rowI Try.results58 rfl rfl (HP.out.beg.out _ _ _).1 rfl ⟨_, _, rfl, HP.out.outS (pk_len n ring kk S l j) (by omega) _ _ _, HP.out.outT (by have := HP.out.klen; have := ints_tk_len n (stM n ring kk S l j); omega) (by omega) _ _ _, HP.out.sep (pk_len n ring kk S l j) (by have := HP.out.klen; have := ints_tk_len n (stM n ring kk S l j); omega) _ _ _, (HP.out.beg.out _ _ _).2.drew⟩
end Go.Proofs.Ytfabannlebolfaa
