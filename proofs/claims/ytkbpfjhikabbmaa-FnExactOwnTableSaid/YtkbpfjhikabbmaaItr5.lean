/- Ranges over an iterator of the program's own: what stays, marks of loops that are done, calls of yield: over every program. Chapter 5, impl side: a beginning goes on in memory of its own; impl.seatingsFrom. Chapter 5, impl side: the iterator of seatingsFrom gives all possible seatings with a beginning, in order. -/
import Derived.Test.YtkbpfjhikabbmaaRangeOwn
import Derived.Test.YtkbpfjhikabbmaaRd
import Derived.Test.YtkbpfjhikabbmaaShI5
import Derived.Test.YtkbpfjhikabbmaaOwnL
import Derived.Laws.Append
import Derived.Test.YtkbpfjhikabbmaaChM5
import Derived.Test.YtkbpfjhikabbmaaSeaM5
import Derived.ArgAppend
import Derived.RangeFuncNested
import Derived.RangeFuncBound
import Derived.RangeFuncCalls
import Derived.RangeFuncLeaves
import Derived.Shelf.Abstract
import Derived.Shelf.RegionOpen
import Derived.OwnWalkIn
import Derived.TacticsInMore
import Derived.LoopNIn
import Derived.LoopIn
section
namespace Go.Proofs.Ytkbpfjhikabbmaa
open Go.RowKit

/-- only blocks in S turn, and new ones come -/
structure KeepP (S : Nat → Prop) (W W' : World) : Prop where
  os : W'.os = W.os
  tape : W'.tape = W.tape
  output : W'.output = W.output
  size : W.heap.size ≤ W'.heap.size
  block : ∀ k, k < W.heap.size → ¬ S k → W'.heap[k]? = W.heap[k]?
theorem KeepP.refl (S : Nat → Prop) (W : World) : KeepP S W W := ⟨rfl, rfl, rfl, Nat.le_refl _, fun _ _ _ => rfl⟩
theorem KeepP.trans {S S' : Nat → Prop} {A B C : World} (h : KeepP S A B) (k : KeepP S' B C) (hs : ∀ j, S' j → S j ∨ A.heap.size ≤ j) : KeepP S A C :=
  ⟨k.os.trans h.os, k.tape.trans h.tape, k.output.trans h.output, Nat.le_trans h.size k.size, fun j hj hn => (k.block j (Nat.lt_of_lt_of_le hj h.size) (fun e => (hs j e).elim hn (fun e' => by omega))).trans (h.block j hj hn)⟩
theorem KeepP.same {S : Nat → Prop} {A B C : World} (h : KeepP S A B) (k : KeepP S B C) : KeepP S A C := h.trans k fun _ e => .inl e
theorem KeepP.mono {S S' : Nat → Prop} {A B : World} (h : KeepP S A B) (hs : ∀ j, S j → S' j) : KeepP S' A B := ⟨h.os, h.tape, h.output, h.size, fun j hj hn => h.block j hj (fun e => hn (hs j e))⟩
theorem KeepP.below {S : Nat → Prop} {A B : World} (h : KeepP S A B) {b : Nat} (hs : ∀ j, S j → b ≤ j) (hb : b ≤ A.heap.size) : Below b A B := ⟨h.os, h.tape, h.output, h.size, fun j hj => h.block j (by omega) (fun e => by have := hs j e; omega)⟩
theorem Below.keepP {S : Nat → Prop} {A B : World} (h : Below A.heap.size A B) : KeepP S A B := ⟨h.os, h.tape, h.output, h.size, fun j hj _ => h.block j hj⟩
theorem KeepP.alloc {S : Nat → Prop} {A B : World} (h : KeepP S A B) (o : Obj) : KeepP S A (B.alloc o) := h.same (Below.keepP ((Below.refl _ _).alloc (Nat.le_refl _) o))
theorem KeepP.put {S : Nat → Prop} {A B : World} (h : KeepP S A B) {l : Nat} (hl : S l ∨ A.heap.size ≤ l) (o : Obj) : KeepP S A (B.putObj l o) := by
  have hg := grownBy_putObj' B l o
  exact h.trans (S' := fun j => j = l) ⟨hg.os, hg.tape, hg.output, hg.size, fun j hj hn => hg.block j hj (fun e => hn (by simpa using e))⟩ (fun j e => by subst e; exact hl)
theorem KeepP.set {S : Nat → Prop} {A B : World} (h : KeepP S A B) {l : Nat} (hl : S l ∨ A.heap.size ≤ l) (i : Nat) (v : Value) : KeepP S A (B.setCell ⟨l, i, none⟩ v) :=
  h.trans (S' := fun j => j = l) ⟨rfl, rfl, rfl, by simp [World.setCell], fun j _ hn => Below.heap_setCell _ _ _ _ hn⟩ (fun j e => by subst e; exact hl)
theorem KeepP.drewN {S : Nat → Prop} {A B : World} (h : KeepP S A B) (q : Nat) : KeepP S A (B.drewN q) := ⟨h.os, h.tape, h.output, h.size, h.block⟩
theorem KeepP.drew {S : Nat → Prop} {A B : World} (h : KeepP S A B) : KeepP S A B.drew := ⟨h.os, h.tape, h.output, h.size, h.block⟩
theorem KeepP.own {S : Nat → Prop} {A B : World} (h : KeepP S A B) {g : Nat} {e : TypeId} {xs : List Value} (ho : OwnArr A g e xs) (hn : ¬ S g) : OwnArr B g e xs := by
  have hl := ho.lt
  unfold OwnArr at *
  rw [h.block g hl hn]; exact ho
theorem KeepP.cell {S : Nat → Prop} {A B : World} (h : KeepP S A B) {g i : Nat} (hl : g < A.heap.size) (hn : ¬ S g) : B.cell? ⟨g, i, none⟩ = A.cell? ⟨g, i, none⟩ := World.cell?_of_block (w := A) (h.block g hl hn)
theorem KeepP.rd {S : Nat → Prop} {A B : World} (h : KeepP S A B) {lo hi : Nat} {p : Option Addr} {xs : List Value} (hr : Rd lo hi A p xs) (hn : ∀ b off, p = some ⟨b, off, none⟩ → ¬ S b) : Rd lo hi B p xs := by
  refine ⟨Nat.le_trans hr.top h.size, fun h0 => ?_⟩
  obtain ⟨b, off, e, h1, h2, hc⟩ := hr.cells h0
  refine ⟨b, off, e, h1, h2, fun i hi' => ?_⟩
  rw [h.cell (Nat.lt_of_lt_of_le h2 hr.top) (hn b off e)]
  exact hc i hi'

/-- a mark of a loop that is done -/
abbrev markD (D : Nat) : Deferred := { target := .collected D, args := #[] }
/-- blocks of marks, each of its own -/
def Marks (ds : List Nat) (W : World) : Prop := ds.Nodup ∧ ∀ D ∈ ds, W.heap[D]? = some (.deferred (some []))
theorem Marks.keep {ds : List Nat} {W W' : World} {S : Nat → Prop} (h : Marks ds W) (hk : KeepP S W W') (hn : ∀ D ∈ ds, ¬ S D) : Marks ds W' :=
  ⟨h.1, fun D hD => by
    have h1 := h.2 D hD
    have hl : D < W.heap.size := (Array.getElem?_eq_some_iff.1 h1).1
    rw [hk.block D hl (hn D hD)]; exact h1⟩
theorem leaves_marks {F : Fence} {n : Nat} {P : Program} {fn : Func} {tmps : Array Value} {R : Ending → World → Prop} : ∀ (ds : List Nat) (W : World), Marks ds W →
    (∀ W', KeepP (fun k => k ∈ ds) W W' → LeavesIn F n P fn tmps R [] .returning W') → LeavesInM F n P fn tmps R (ds.map markD) .returning W
  | [], W, _, h => h W (KeepP.refl _ W)
  | D :: ds, W, hm, h => by
    refine ⟨by simp, .inl ⟨D, _, rfl, run_takeDeferred (hm.2 D (List.mem_cons_self ..)), ?_⟩⟩
    have hnd := List.nodup_cons.1 hm.1
    have hg := grownBy_putObj' W D (.deferred none)
    have hk : KeepP (fun k => k ∈ D :: ds) W (W.putObj D (.deferred none)) := (KeepP.refl _ W).put (.inl (List.mem_cons_self ..)) _
    refine leaves_marks ds _ ⟨hnd.2, fun E hE => ?_⟩ (fun W' hk' => h W' (hk.trans hk' fun j e => .inl (List.mem_cons_of_mem _ e)))
    have h1 := hm.2 E (List.mem_cons_of_mem _ hE)
    have hl : E < W.heap.size := (Array.getElem?_eq_some_iff.1 h1).1
    rw [hg.block E hl (fun e => by have e' : E = D := by simpa using e
                                   subst e'; exact hnd.1 hE)]
    exact h1

/-- a call of yield is the same at every depth, in a round or not -/
theorem yield_wide {m m' : Nat} {P : Program} {l : Nat} {args : Array Value} {W : World} {R : Ending → World → Prop} (h : YieldAt Fence.wide m P l args W R) : YieldAt Fence.wide m' P l args W R := by
  obtain ⟨fn, tmps, assign, body, h1, h2, h3⟩ := h
  exact ⟨fn, tmps, assign, body, h1, h2, fun c cs _ => h3 c cs (room_wide _)⟩
theorem yield_round {m l' : Nat} {P : Program} {l : Nat} {args : Array Value} {W : World} {R : Ending → World → Prop} (h : YieldAt Fence.wide m P l args W R) : YieldAt (Fence.wide.inRound l') m P l args W R := h
theorem calls_round {m l' : Nat} {P : Program} {f : FuncId} {args : Array Value} {W : World} {R : Ending → World → Prop} (h : Calls P f args W R) : CallsIn (Fence.wide.inRound l') m P f args W R := (callsIn_wide (n := m)).2 h
end Go.Proofs.Ytkbpfjhikabbmaa
end

section
namespace Go.Proofs.Ytkbpfjhikabbmaa
open Go.RowKit

/-- a list in memory of its own, as it is handed on -/
def Fresh (B : Nat) (w : World) (v : Value) (xs : List Int) : Prop := ∃ g c, v = .slice (some ⟨g, 0, none⟩) xs.length c ∧ B ≤ g ∧ g < w.heap.size ∧ xs.length ≤ c ∧ c ≤ maxLen ∧ Out B w v xs
theorem run_grow7 (w : World) (ty : TypeId) (p : Option Addr) (xs : List Int) (lo hi : Nat) (hx : Ri lo hi w p xs) (hp : xs.length = 0 → p = none) (hl : xs.length ≤ 1000) (q : Option Addr) (x : Int) (c : Nat) (lo2 hi2 : Nat) (hy : Ri lo2 hi2 w q [x]) :
    ∃ v' w', (Builtin.append_ #[33, 33] ty #[.slice p xs.length xs.length, .slice q 1 c]).run Try.prog w = .ok v' w' ∧ Fresh w.heap.size w' v' (xs ++ [x]) ∧ Below w.heap.size w w' := by
  have hlen : (xs ++ [x]).length = xs.length + 1 := by simp
  by_cases h0 : xs.length = 0
  · have hp0 := hp h0
    subst hp0
    have hx0 : xs = [] := List.length_eq_zero_iff.1 h0
    subst hx0
    obtain ⟨v', w', hr, h1, h2, h3⟩ := run_app w ty w.heap.size (.slice none 0 0) [] ⟨rfl, .inl ⟨rfl, rfl⟩⟩ q 1 c lo2 hi2 [x] hy rfl (by simp) (Nat.le_refl _)
    rw [List.nil_append] at h1 ⊢
    obtain ⟨g, c', rfl, q1, q2, q3, q4⟩ := h1.some' (fun e => by have := h3.1 e; omega)
    exact ⟨_, w', hr, ⟨g, c', rfl, q1, q2, q3, q4, h1⟩, (Below.refl _ _).grown h2 (Nat.le_refl _) (fun k hk => by simp [Value.ownBlock] at hk)⟩
  · obtain ⟨i0, hi0, hz0, hz1, hz2⟩ := info_parts infoInt
    obtain ⟨ad, rfl, hc⟩ := rd_news hx (by omega)
    obtain ⟨ad2, rfl, hc2⟩ := rd_news hy (by simp)
    have hcap := grownCap_ge w (xs.length + 1) xs.length 3
    have hrun := run_append_grow (P := Try.prog) (w := w) 33 ty 3 i0 (.int .i64 0) Try.underlying33 hi0 hz0 ad xs.length xs.length (iv xs) (by rw [iv_length, hz1, Nat.mul_one]) hc ad2 1 c (iv [x]) (by rw [hz1]; rfl) hc2 (by omega) (by omega) (by rw [hz2]; exact growslice_fits (by omega) (by omega))
    have hmx := grownCap_le_maxLen w (xs.length + 1) xs.length 3 (by unfold maxLen; omega)
    obtain ⟨K, hK⟩ : ∃ K, grownCap w (xs.length + 1) xs.length 3 = K := ⟨_, rfl⟩
    rw [hK] at hrun hcap hmx
    have hb : Below w.heap.size w (w.drew.alloc (.cells ((iv xs).toArray ++ (iv [x]).toArray ++ Builtin.zeroCells (Value.int .i64 0).cells (K - (xs.length + 1))) 3)) := (Below.refl _ _).drew.alloc (Nat.le_refl _) _
    refine ⟨_, _, hrun, ⟨w.heap.size, K, by rw [hlen], Nat.le_refl _, by simp, by omega, hmx, ?_⟩, hb⟩
    refine ⟨by rw [iv_length, Nat.mul_one], .inr ⟨w.heap.size, K, (iv xs).toArray ++ (iv [x]).toArray ++ Builtin.zeroCells (Value.int .i64 0).cells (K - (xs.length + 1)), by rw [hlen], Nat.le_refl _, ?_, by rw [hlen]; omega, hmx, ?_, ?_⟩⟩
    · show (w.heap.push _)[w.heap.size]? = _
      rw [Array.getElem?_push_size]
    · rw [Array.size_append, Array.size_append]
      have hz : (Builtin.zeroCells (Value.int .i64 0).cells (K - (xs.length + 1))).size = K - (xs.length + 1) := by simp [Builtin.zeroCells, Value.cells]
      rw [hz]
      simp only [List.size_toArray, iv_length, List.length_singleton]
      omega
    · rw [hlen, Nat.mul_one, Array.toList_append, Array.toList_append]
      show List.take (xs.length + 1) (iv xs ++ iv [x] ++ _) = iv (xs ++ [x])
      rw [← iv_append, List.take_left' (by rw [iv_length, hlen])]

theorem wpList_grow7 {ops : Array Oper} {rest : List Oper} {o : Oper} {a : Act} {w : World} {Q : Exit → Act → World → Prop} (hgd : o.guard = none) (s y : Operand)
    (ho : o.op = .call { callee := .builtin .append, args := #[s, y], argTypes := #[33, 33] })
    (p : Option Addr) (xs : List Int) (m : Nat) (hm : xs.length = m) (lo hi : Nat) (hx : Ri lo hi w p xs) (hp : m = 0 → p = none) (hl : m ≤ 1000) (q : Option Addr) (x : Int) (c : Nat) (lo2 hi2 : Nat) (hy : Ri lo2 hi2 w q [x])
    (hs : a.eval s = .slice p m m) (hq : a.eval y = .slice q 1 c)
    (h : ∀ v' w', Fresh w.heap.size w' v' (xs ++ [x]) → Below w.heap.size w w' → wpList Try.prog ops Q rest (a.put o.dst v') w') : wpList Try.prog ops Q (o :: rest) a w := by
  refine wpList_plain hgd fun _ hK => ?_
  subst hm
  obtain ⟨v', w', hr, h1, h2⟩ := run_grow7 w o.type p xs lo hi hx hp hl q x c lo2 hi2 hy
  unfold Oper.wp execOp
  simp only [ho, resolve, invoke, builtin, Sem.run_bind, Sem.run_pure, Result.andThen_ok, List.map_toArray, List.map_cons, List.map_nil, hs, hq, hr]
  exact hK _ _ (h v' w' h1 h2)

set_option maxHeartbeats 1000000 in
theorem seatingsFrom_any (n k : Int) (q : Option Addr) (m cap : Nat) (w : World) :
    Calls Try.prog 27 #[.agg #[.int .i64 n, .int .i64 k], .slice q m cap] w fun e w' => e = .returned (.func (.func 42) #[] #[.pointer (some ⟨w.heap.size + 1, 0, none⟩), .pointer (some ⟨w.heap.size, 0, none⟩)]) ∧ w' = (w.alloc (planeB n k)).alloc (.cells #[.slice q m cap] 33) := by
  go_enter Try.func27, Try.ntmps27
  go_wp2_with fail
  go_ret
  exact ⟨rfl, rfl⟩
end Go.Proofs.Ytkbpfjhikabbmaa
end

section
namespace Go.Proofs.Ytkbpfjhikabbmaa
open Go.RowKit Go.Shelf
attribute [local go_sem] Oper.semAt_some

/-- a list as it is yielded: its cells, in a block of its own -/
def YL (W : World) (xb : Nat) (x : List Int) : Prop := (∀ j, j < x.length → W.cell? ⟨xb, j, none⟩ = some (.int .i64 (x[j]?.getD 0))) ∧ ∃ ys, OwnArr W xb 3 ys ∧ x.length ≤ ys.length
/-- what a loop over seatings keeps: I speaks of blocks in S alone; a call of yield goes on from one seating to the next -/
structure ItC (l : Nat) (I : List (List Int) → (Nat → Prop) → World → Prop) (G : List (List Int) → List Int → Prop) : Prop where
  loc : ∀ pre S W W', I pre S W → (∀ j, S j → j < W.heap.size) → (∀ j, S j → W'.heap[j]? = W.heap[j]?) → I pre S W'
  yl : ∀ pre S W x xb cap, I pre S W → G pre x → (∀ j, S j → j < W.heap.size) → ¬ S xb → xb < W.heap.size → x.length ≤ cap → cap ≤ maxLen → YL W xb x →
    YieldAt Fence.wide 9 Try.prog l #[.slice (some ⟨xb, 0, none⟩) x.length cap] W fun e W' => e = .returned (.bool true) ∧ KeepP S W W' ∧ ∃ S', (∀ j, S' j → j < W'.heap.size ∧ (S j ∨ j = xb ∨ W.heap.size ≤ j)) ∧ I (pre ++ [x]) S' W'
/-- the arguments of an iterator lie apart from S -/
structure ItA (W : World) (S : Nat → Prop) (n k bb pb : Nat) (q : Option Addr) (bs : List Int) (cap qb : Nat) : Prop where
  bbx : OwnArr W bb 33 [.slice q bs.length cap]
  pbx : OwnArr W pb 42 [.int .i64 (n : Nat), .int .i64 (k : Nat)]
  nb : ¬ S bb
  np : ¬ S pb
  nq : ¬ S qb
  rd : Ri 0 W.heap.size W q bs
  own : 0 < bs.length → ∃ ys, OwnArr W qb 3 ys ∧ bs.length ≤ ys.length
  at_ : bs.length = 0 ∧ q = none ∨ 0 < bs.length ∧ q = some ⟨qb, 0, none⟩
  cap1 : bs.length ≤ cap
  cap2 : cap ≤ maxLen
/-- what an iterator leaves -/
def ItD (I : List (List Int) → (Nat → Prop) → World → Prop) (S : Nat → Prop) (W : World) (all : List (List Int)) (xb : Nat → Prop) : Ending → World → Prop :=
  fun e W' => (∃ v, e = .returned v) ∧ KeepP S W W' ∧ ∃ S', (∀ j, S' j → j < W'.heap.size ∧ (S j ∨ xb j ∨ W.heap.size ≤ j)) ∧ I all S' W'

set_option maxRecDepth 100000 in
set_option maxHeartbeats 4000000 in
theorem iter_leaf (n k : Nat) (bs : List Int) (hbs : bs.length = n) (h1 : 1 ≤ n) (hn : n ≤ 12) (l : Nat) (I : List (List Int) → (Nat → Prop) → World → Prop) (G : List (List Int) → List Int → Prop) (c : ItC l I G)
    (pre : List (List Int)) (S : Nat → Prop) (W : World) (bb pb cap qb : Nat) (q : Option Addr) (hI : I pre S W) (hS : ∀ j, S j → j < W.heap.size) (hA : ItA W S n k bb pb q bs cap qb) (hG : G pre bs) :
    CallsIn Fence.wide 9 Try.prog 42 #[.func (.yield l) #[] #[], .pointer (some ⟨bb, 0, none⟩), .pointer (some ⟨pb, 0, none⟩)] W (ItD I S W (pre ++ [bs]) (fun j => j = qb)) := by
  refine callsIn_of_wp_marks Try.func42 rfl trivial ?_ rfl
  simp only [Try.ntmps42, List.size_toArray, List.length_cons, List.length_nil, Nat.reduceAdd, Nat.reduceSub, Array.replicate_succ, Array.replicate_zero, List.push_toArray, List.append_toArray, List.nil_append, List.cons_append]
  refine wpIn_wide.2 ?_
  have hq : q = some ⟨qb, 0, none⟩ := by
    rcases hA.at_ with h | h
    · omega
    · exact h.2
  have hyb := OwnArr.made W 61 [.func (.yield l) #[] #[]]
  have hk : KeepP S W (W.alloc (.cells #[.func (.yield l) #[] #[]] 61)) := (KeepP.refl _ _).alloc _
  have cb := (hk.own hA.bbx hA.nb).cell 0
  have cp := (hk.own hA.pbx hA.np).cell 0
  have cy := hyb.cell 0
  have hI1 := c.loc _ _ _ _ hI hS (fun j hj => Below.heap_alloc W (.cells #[.func (.yield l) #[] #[]] 61) j (hS j hj))
  have hrd := hA.rd
  rw [hq] at cb hrd
  obtain ⟨b', off', e, -, hlt, -, hcs⟩ := hrd.int (by omega)
  simp only [Option.some.injEq, Addr.mk.injEq, and_true] at e
  obtain ⟨rfl, rfl⟩ := e
  have hY := c.yl pre S (W.alloc (.cells #[.func (.yield l) #[] #[]] 61)) bs qb cap hI1 hG (fun j hj => by have := hS j hj; simp; omega) hA.nq (by simp; omega) hA.cap1 hA.cap2 ⟨fun j hj => by
    rw [hk.cell (by omega) hA.nq]
    have := hcs j hj
    rw [Nat.zero_add] at this
    exact this, by
    obtain ⟨ys, h7, h8⟩ := hA.own (by omega)
    exact ⟨ys, hk.own h7 hA.nq, h8⟩⟩
  obtain ⟨W1, hW1⟩ : ∃ W1, W.alloc (.cells #[.func (.yield l) #[] #[]] 61) = W1 := ⟨_, rfl⟩
  rw [hW1] at cb cp cy hY hk
  rw [hbs] at cb hY
  have HW1 := Lib.hid hW1
  replace hY := Lib.hid hY
  replace hk := Lib.hid hk
  have hsz : W1.heap.size = W.heap.size + 1 := by rw [← hW1]; simp
  have HSZ := Lib.hid hsz
  clear hA hI hI1 hcs hW1 hyb c hrd hsz
  go_upto_region 1 with fail
  rw [HW1.out]
  go_upto_region 2 with fail
  refine (wpIn_wide (n := 9)).1 ?_
  obtain ⟨fn, tmps, assign, body, hy, hR⟩ := yield_wide (m' := 8) hY.out
  gi_wp2
  refine hR.mono ?_
  rintro e W3 ⟨rfl, hk3, S', hS', hI'⟩
  gi_wp2
  go_wp2_with fail
  show LeavesInM _ _ _ _ _ _ [] _ _
  exact ⟨_, results_none rfl _ _ _, ⟨_, rfl⟩, hk.out.same hk3, S', fun j hj => ⟨(hS' j hj).1, by
    rcases (hS' j hj).2 with h | h | h
    · exact .inl h
    · exact .inr (.inl h)
    · exact .inr (.inr (by have := HSZ.out; omega))⟩, hI'⟩

/-- what the loop over the seatings of a longer beginning keeps -/
def InI (I : List (List Int) → (Nat → Prop) → World → Prop) (preI : List (List Int)) (L yb : Nat) (rec : Loop) (l : Nat) : List (List Int) → (Nat → Prop) → World → Prop :=
  fun pre' S W => ∃ S0 : Nat → Prop, I (preI ++ pre') S0 W ∧ W.heap[L]? = some (.loop rec) ∧ OwnArr W yb 61 [.func (.yield l) #[] #[]] ∧ ¬ S0 L ∧ ¬ S0 yb ∧ (∀ j, S j ↔ (S0 j ∨ j = L ∨ j = yb))

/-- between two choices: the first i are done -/
structure LInv (I : List (List Int) → (Nat → Prop) → World → Prop) (S : Nat → Prop) (W1 W2 : World) (pre : List (List Int)) (n k d : Nat) (bs : List Int) (cs : List Nat) (i : Nat) (ds : List Nat) (S' : Nat → Prop) (w' : World) : Prop where
  keep : KeepP S W2 w'
  own : ∀ j, S' j → j < w'.heap.size ∧ (S j ∨ W2.heap.size ≤ j)
  inv : I (pre ++ partM n k d bs (cs.take i)) S' w'
  marks : Marks ds w'
  new : ∀ D ∈ ds, W2.heap.size ≤ D ∧ D < w'.heap.size ∧ ¬ S' D
def LI (I : List (List Int) → (Nat → Prop) → World → Prop) (S : Nat → Prop) (W1 W2 : World) (pre : List (List Int)) (n k d : Nat) (bs : List Int) (cs : List Nat) (l bb pb yb : Nat) (q : Option Addr) (m cap : Nat) (pc : Option Addr) (mc cc : Nat) : Act → World → Prop :=
  fun a' w' => ∃ (i : Nat) (ds : List Nat) (S' : Nat → Prop) (y5 y6 y7 y21 y22 y23 y24 y25 y26 y27 y28 y29 y30 y31 y32 y33 y34 y35 y36 y37 y38 y39 y40 y41 : Value), i ≤ mc ∧ a' = { tmps := #[.func (.yield l) #[] #[], .pointer (some ⟨bb, 0, none⟩), .pointer (some ⟨pb, 0, none⟩), .pointer (some ⟨yb, 0, none⟩), undef, y5, y6, y7, .slice q m cap, .int .i64 (m : Int), .pointer (some ⟨pb, 0, none⟩), .int .i64 (n : Int), .bool false, undef, undef, undef, .agg #[.int .i64 (n : Int), .int .i64 (k : Int)], .slice q m cap, .slice pc mc cc, .int .i64 (mc : Int), .int .i64 (i : Int), y21, y22, y23, y24, y25, y26, y27, y28, y29, y30, y31, y32, y33, y34, y35, y36, y37, y38, y39, y40, y41], defers := ds.map markD } ∧ Hid (LInv I S W1 W2 pre n k d bs cs i ds S' w')

theorem li_next {I : List (List Int) → (Nat → Prop) → World → Prop} {S : Nat → Prop} {W1 W2 : World} {pre : List (List Int)} {n k d : Nat} {bs : List Int} {cs : List Nat} {l bb pb yb : Nat} {q : Option Addr} {m cap : Nat} {pc : Option Addr} {mc cc i : Nat} {ds : List Nat} {D : Nat} {S60 : Nat → Prop} {w' : World} {y5 y6 y7 y21 y22 y23 y24 y25 y26 y27 y28 y29 y30 y31 y32 y33 y34 y35 y36 y37 y38 y39 y40 y41 : Value}
    (h : LInv I S W1 W2 pre n k d bs cs (i + 1) (D :: ds) S60 w') (hi : i < mc) : LI I S W1 W2 pre n k d bs cs l bb pb yb q m cap pc mc cc { tmps := #[.func (.yield l) #[] #[], .pointer (some ⟨bb, 0, none⟩), .pointer (some ⟨pb, 0, none⟩), .pointer (some ⟨yb, 0, none⟩), undef, y5, y6, y7, .slice q m cap, .int .i64 (m : Int), .pointer (some ⟨pb, 0, none⟩), .int .i64 (n : Int), .bool false, undef, undef, undef, .agg #[.int .i64 (n : Int), .int .i64 (k : Int)], .slice q m cap, .slice pc mc cc, .int .i64 (mc : Int), .int .i64 ((i : Int) + 1), y21, y22, y23, y24, y25, y26, y27, y28, y29, y30, y31, y32, y33, y34, y35, y36, y37, y38, y39, y40, y41], defers := markD D :: ds.map markD } w' :=
  ⟨i + 1, D :: ds, S60, y5, y6, y7, y21, y22, y23, y24, y25, y26, y27, y28, y29, y30, y31, y32, y33, y34, y35, y36, y37, y38, y39, y40, y41, hi, rfl, Lib.hid h⟩
/-- the next choice is done -/
theorem linv_next {l : Nat} {I : List (List Int) → (Nat → Prop) → World → Prop} {G : List (List Int) → List Int → Prop} (c : ItC l I G) {S : Nat → Prop} {W1 W2 : World} {pre : List (List Int)} {n k d : Nat} {bs : List Int} {cs : List Nat} {i ch : Nat} {ds : List Nat} {S' : Nat → Prop} {w' wD W5 W6 : World} {gl yb : Nat} {rec : Loop}
    (HL : LInv I S W1 W2 pre n k d bs cs i ds S' w') (hnext : partM n k d bs (cs.take (i + 1)) = partM n k d bs (cs.take i) ++ seatM n k d (bs ++ [(ch : Int)]))
    (hkD : ∀ T : Nat → Prop, KeepP T w' wD) (h5 : (wD.alloc (.deferred (some []))).alloc (.loop rec) = W5) (hg : w'.heap.size ≤ gl ∧ gl < wD.heap.size) (hyW : yb < W2.heap.size) (hyD : OwnArr wD yb 61 [.func (.yield l) #[] #[]])
    (hD : ItD (InI I (pre ++ partM n k d bs (cs.take i)) (wD.heap.size + 1) yb rec l) (fun j => S' j ∨ j = wD.heap.size + 1 ∨ j = yb) W5 ([] ++ seatM n k d (bs ++ [(ch : Int)])) (fun j => j = gl) (.returned (.tuple #[])) W6) :
    W6.heap[wD.heap.size + 1]? = some (.loop rec) ∧ ∃ S60, LInv I S W1 W2 pre n k d bs cs (i + 1) (wD.heap.size :: ds) S60 (W6.putObj (wD.heap.size + 1) (.loop { rec with state := .exhausted })) := by
  obtain ⟨-, hk6, S6, hS6, S60, hI6, hL6, hy6, n1, n2, hSS6⟩ := hD
  rw [List.nil_append] at hI6
  refine ⟨hL6, S60, ?_⟩
  obtain ⟨L, hL⟩ : ∃ L, wD.heap.size + 1 = L := ⟨_, rfl⟩
  rw [hL] at hk6 hS6 hL6 n1 hSS6 ⊢
  have hW2s := HL.keep.size
  have hkDs := (hkD S).size
  have hsz5 : W5.heap.size = wD.heap.size + 2 := by rw [← h5]; simp
  have hk5 : ∀ T : Nat → Prop, KeepP T wD W5 := fun T => by rw [← h5]; exact ((KeepP.refl T wD).alloc _).alloc _
  have e5 : W5.heap[wD.heap.size]? = some (.deferred (some [])) := by
    rw [← h5, Below.heap_alloc _ _ _ (by simp), World.alloc_heap_new]
  have hk6s := hk6.size
  have hput := grownBy_putObj' W6 L (.loop { rec with state := .exhausted })
  have hk7 : KeepP (fun j => S' j ∨ j = L) W5 (W6.putObj L (.loop { rec with state := .exhausted })) := by
    refine KeepP.put ⟨hk6.os, hk6.tape, hk6.output, hk6.size, fun j hj hn => ?_⟩ (.inl (.inr rfl)) _
    by_cases e : j = yb
    · subst e
      have h1 : W6.heap[j]? = _ := hy6
      have h2 : W5.heap[j]? = _ := (hk5 (fun _ => False)).own hyD (fun e => e)
      rw [h1, h2]
    · exact hk6.block j hj (fun h => by
        rcases h with h | h | h
        · exact hn (.inl h)
        · exact hn (.inr h)
        · exact e h)
  obtain ⟨W7, hW7⟩ : ∃ W7, W6.putObj L (.loop { rec with state := .exhausted }) = W7 := ⟨_, rfl⟩
  rw [hW7] at hk7 hput ⊢
  have hs7 := hput.size
  have hown6 : ∀ j, S60 j → j < W6.heap.size ∧ (S' j ∨ j = gl ∨ W5.heap.size ≤ j) := by
    intro j hj
    obtain ⟨q1, q2⟩ := hS6 j ((hSS6 j).2 (.inl hj))
    refine ⟨q1, ?_⟩
    rcases q2 with (h | h | h) | h | h
    · exact .inl h
    · exact absurd (h ▸ hj) n1
    · exact absurd (h ▸ hj) n2
    · exact .inr (.inl h)
    · exact .inr (.inr h)
  have hall : KeepP (fun j => S' j ∨ j = L) w' W7 := ((hkD _).same (hk5 _)).same hk7
  refine ⟨HL.keep.trans hall (fun j hj => ?_), fun j hj => ?_, ?_, ⟨List.nodup_cons.2 ⟨fun h => ?_, HL.marks.1⟩, fun D hD => ?_⟩, fun D hD => ?_⟩
  · rcases hj with h | h
    · exact (HL.own j h).2
    · exact .inr (by omega)
  · obtain ⟨q1, q2⟩ := hown6 j hj
    refine ⟨by omega, ?_⟩
    rcases q2 with h | h | h
    · exact (HL.own j h).2
    · exact .inr (by omega)
    · exact .inr (by omega)
  · rw [hnext, ← List.append_assoc]
    refine c.loc _ _ _ _ hI6 (fun j hj => (hown6 j hj).1) (fun j hj => hput.block j (hown6 j hj).1 (fun e => ?_))
    have : j = L := by simpa using e
    exact n1 (this ▸ hj)
  · have := (HL.new _ h).2.1; omega
  · rcases List.mem_cons.1 hD with h | h
    · subst h
      rw [hk7.block _ (by omega) (fun h => by
        rcases h with h | h
        · have := (HL.own _ h).1; omega
        · omega)]
      exact e5
    · have hn := HL.new D h
      rw [hall.block D hn.2.1 (fun h' => by
        rcases h' with h' | h'
        · exact hn.2.2 h'
        · omega)]
      exact HL.marks.2 D h
  · rcases List.mem_cons.1 hD with h | h
    · subst h
      refine ⟨by omega, by omega, fun e => ?_⟩
      rcases (hown6 _ e).2 with h | h | h
      · have := (HL.own _ h).1; omega
      · omega
      · omega
    · have hn := HL.new D h
      refine ⟨hn.1, by have := hn.2.1; omega, fun e => ?_⟩
      rcases (hown6 _ e).2 with h | h | h
      · exact hn.2.2 h
      · omega
      · omega

/-- how the loop over the seatings of a longer beginning starts -/
theorem linv_in {l : Nat} {I : List (List Int) → (Nat → Prop) → World → Prop} {G : List (List Int) → List Int → Prop} (c : ItC l I G) {S : Nat → Prop} {W1 W2 : World} {pre : List (List Int)} {n k d : Nat} {bs : List Int} {cs : List Nat} {i ch : Nat} {ds : List Nat} {S' : Nat → Prop} {w' wD W5 : World} {gl cl pbD bbD yb m : Nat} {rec : Loop}
    (HL : LInv I S W1 W2 pre n k d bs cs i ds S' w') (hkD : ∀ T : Nat → Prop, KeepP T w' wD) (h5 : (wD.alloc (.deferred (some []))).alloc (.loop rec) = W5) (hg : w'.heap.size ≤ gl ∧ gl < wD.heap.size) (hbb : w'.heap.size ≤ bbD ∧ bbD < wD.heap.size) (hpb : w'.heap.size ≤ pbD ∧ pbD < wD.heap.size)
    (hnS : ¬ S yb) (hyW : yb < W2.heap.size) (hyD : OwnArr wD yb 61 [.func (.yield l) #[] #[]])
    (hbD : OwnArr wD bbD 33 [.slice (some ⟨gl, 0, none⟩) (m + 1) cl]) (hpD : OwnArr wD pbD 42 [.int .i64 (n : Nat), .int .i64 (k : Nat)]) (hm : bs.length = m) (hrd : Ri 0 wD.heap.size wD (some ⟨gl, 0, none⟩) (bs ++ [(ch : Int)])) (hgo : ∃ ys, OwnArr wD gl 3 ys ∧ m + 1 ≤ ys.length) (f3 : m + 1 ≤ cl) (f4 : cl ≤ maxLen) :
    InI I (pre ++ partM n k d bs (cs.take i)) (wD.heap.size + 1) yb rec l [] (fun j => S' j ∨ j = wD.heap.size + 1 ∨ j = yb) W5 ∧ (∀ j, (S' j ∨ j = wD.heap.size + 1 ∨ j = yb) → j < W5.heap.size) ∧
      ItA W5 (fun j => S' j ∨ j = wD.heap.size + 1 ∨ j = yb) n k bbD pbD (some ⟨gl, 0, none⟩) (bs ++ [(ch : Int)]) cl gl := by
  obtain ⟨L, hL⟩ : ∃ L, wD.heap.size + 1 = L := ⟨_, rfl⟩
  rw [hL]
  have hW2s := HL.keep.size
  have hkDs := (hkD S).size
  have hsz5 : W5.heap.size = wD.heap.size + 2 := by rw [← h5]; simp
  have hk5 : ∀ T : Nat → Prop, KeepP T wD W5 := fun T => by rw [← h5]; exact ((KeepP.refl T wD).alloc _).alloc _
  have e6 : W5.heap[L]? = some (.loop rec) := by
    have := World.alloc_heap_new (wD.alloc (.deferred (some []))) (.loop rec)
    rw [World.size_alloc, hL, h5] at this
    exact this
  have hnyS' : ¬ S' yb := fun e => by
    rcases (HL.own yb e).2 with h | h
    · exact hnS h
    · omega
  have hng : ∀ j, w'.heap.size ≤ j → j < wD.heap.size → ¬ (S' j ∨ j = L ∨ j = yb) := by
    rintro j h1 h2 (h | h | h)
    · have := (HL.own j h).1; omega
    · omega
    · omega
  have hl1 : (bs ++ [(ch : Int)]).length = m + 1 := by rw [List.length_append, hm]; rfl
  refine ⟨⟨S', ?_, e6, (hk5 (fun _ => False)).own hyD (fun e => e), fun e => by have := (HL.own L e).1; omega, hnyS', fun j => Iff.rfl⟩, ?_, ?_⟩
  · rw [List.append_nil]
    refine c.loc _ _ _ _ HL.inv (fun j hj => (HL.own j hj).1) (fun j hj => ?_)
    have := (HL.own j hj).1
    rw [(hk5 (fun _ => False)).block j (by omega) (fun e => e), (hkD (fun _ => False)).block j this (fun e => e)]
  · rintro j (hj | rfl | rfl)
    · have := (HL.own j hj).1; omega
    · omega
    · omega
  · refine ⟨by rw [hl1]; exact (hk5 (fun _ => False)).own hbD (fun e => e), (hk5 (fun _ => False)).own hpD (fun e => e), hng _ hbb.1 hbb.2, hng _ hpb.1 hpb.2, hng _ hg.1 hg.2, ?_, fun _ => by rw [hl1]; exact hgo.imp fun ys h => ⟨(hk5 (fun _ => False)).own h.1 (fun e => e), h.2⟩, .inr ⟨by omega, rfl⟩, by rw [hl1]; omega, f4⟩
    exact ((hk5 (fun _ => False)).rd hrd (fun _ _ _ e => e)).mono (Nat.le_refl _) (by omega) (Nat.le_refl _)

/-- before a call of yield in a round of the inner loop; behind it -/
theorem in_before {l : Nat} {I : List (List Int) → (Nat → Prop) → World → Prop} {G : List (List Int) → List Int → Prop} (c : ItC l I G) {preI : List (List Int)} {L yb : Nat} {rec rb : Loop} {pre2 : List (List Int)} {S2 : Nat → Prop} {X : World} {x : List Int} {xb cap2 : Nat}
    (hI : InI I preI L yb rec l pre2 S2 X) (hG2 : G (preI ++ pre2) x) (hlt : ∀ j, S2 j → j < X.heap.size) (hnx : ¬ S2 xb) (hxb : xb < X.heap.size) (hc1 : x.length ≤ cap2) (hc2 : cap2 ≤ maxLen) (hcells : YL X xb x) :
    X.heap[L]? = some (.loop rec) ∧ (X.putObj L (.loop rb)).cell? ⟨yb, 0, none⟩ = some (.func (.yield l) #[] #[]) ∧
      YieldAt (Fence.wide.inRound L) 8 Try.prog l #[.slice (some ⟨xb, 0, none⟩) x.length cap2] (X.putObj L (.loop rb)) fun e X3 => e = .returned (.bool true) ∧ X3.heap[L]? = some (.loop rb) ∧
        (KeepP S2 X (X3.putObj L (.loop rec)) ∧ ∃ S', (∀ j, S' j → j < (X3.putObj L (.loop rec)).heap.size ∧ (S2 j ∨ j = xb ∨ X.heap.size ≤ j)) ∧ InI I preI L yb rec l (pre2 ++ [x]) S' (X3.putObj L (.loop rec))) := by
  obtain ⟨S0, i1, i2, i3, i4, i5, i6⟩ := hI
  have hLX : L < X.heap.size := hlt L ((i6 L).2 (.inr (.inl rfl)))
  have hyX := i3.lt
  have hneL : yb ≠ L := fun e => by
    unfold OwnArr at i3
    rw [e, i2] at i3; cases i3
  have hg1 := grownBy_putObj' X L (.loop rb)
  have hX1L : (X.putObj L (.loop rb)).heap[L]? = some (.loop rb) := World.putObj_heap_same hLX
  have hX1 : ∀ j, j < X.heap.size → j ≠ L → (X.putObj L (.loop rb)).heap[j]? = X.heap[j]? := fun j hj hn => hg1.block j hj (fun e => hn (by simpa using e))
  have hI1 : I (preI ++ pre2) S0 (X.putObj L (.loop rb)) := c.loc _ _ _ _ i1 (fun j hj => hlt j ((i6 j).2 (.inl hj))) (fun j hj => hX1 j (hlt j ((i6 j).2 (.inl hj))) (fun e => i4 (e ▸ hj)))
  have hxL : xb ≠ L := fun e => hnx (e ▸ (i6 L).2 (.inr (.inl rfl)))
  have hy1 : OwnArr (X.putObj L (.loop rb)) yb 61 [.func (.yield l) #[] #[]] := by
    unfold OwnArr at i3 ⊢
    rw [hX1 yb hyX hneL]; exact i3
  have hkX : KeepP S2 X (X.putObj L (.loop rb)) := (KeepP.refl _ _).put (.inl ((i6 L).2 (.inr (.inl rfl)))) _
  have hszX := hg1.size
  have hY := c.yl (preI ++ pre2) S0 (X.putObj L (.loop rb)) x xb cap2 hI1 hG2 (fun j hj => by have := hlt j ((i6 j).2 (.inl hj)); omega) (fun e => hnx ((i6 xb).2 (.inl e))) (by omega) hc1 hc2 ⟨fun j hj => by
    have h1 : (X.putObj L (.loop rb)).cell? ⟨xb, j, none⟩ = X.cell? ⟨xb, j, none⟩ := World.cell?_of_block (w := X) (hX1 xb hxb hxL)
    rw [h1]; exact hcells.1 j hj, hcells.2.imp fun ys h => ⟨hkX.own h.1 hnx, h.2⟩⟩
  refine ⟨i2, hy1.cell 0, ?_⟩
  obtain ⟨fn2, tmps2, assign2, body2, hyy, hR⟩ := yield_round (l' := L) (yield_wide (m' := 8) hY)
  refine ⟨fn2, tmps2, assign2, body2, hyy, hR.mono ?_⟩
  rintro e X3 ⟨rfl, hk3, S3, hS3, hI3⟩
  have hX3L : X3.heap[L]? = some (.loop rb) := by rw [hk3.block L (by omega) i4]; exact hX1L
  have hg3 := grownBy_putObj' X3 L (.loop rec)
  have hk3s := hk3.size
  have hs3 := hg3.size
  have hn3L : ¬ S3 L := fun e => by
    rcases (hS3 L e).2 with h | h | h
    · exact i4 h
    · exact hxL h.symm
    · omega
  have hn3y : ¬ S3 yb := fun e => by
    rcases (hS3 yb e).2 with h | h | h
    · exact i5 h
    · exact hnx (h ▸ (i6 yb).2 (.inr (.inr rfl)))
    · omega
  have hX4 : ∀ j, j < X3.heap.size → j ≠ L → (X3.putObj L (.loop rec)).heap[j]? = X3.heap[j]? := fun j hj hn => hg3.block j hj (fun e => hn (by simpa using e))
  refine ⟨rfl, hX3L, (hkX.same (hk3.mono fun j hj => (i6 j).2 (.inl hj))).put (.inl ((i6 L).2 (.inr (.inl rfl)))) _, fun j => S3 j ∨ j = L ∨ j = yb, fun j hj => ?_, S3, ?_, World.putObj_heap_same (by omega), ?_, hn3L, hn3y, fun j => Iff.rfl⟩
  · rcases hj with h | h | h
    · obtain ⟨q1, q2⟩ := hS3 j h
      refine ⟨by omega, ?_⟩
      rcases q2 with h | h | h
      · exact .inl ((i6 j).2 (.inl h))
      · exact .inr (.inl h)
      · exact .inr (.inr (by omega))
    · subst h; exact ⟨by omega, .inl ((i6 j).2 (.inr (.inl rfl)))⟩
    · subst h; exact ⟨by omega, .inl ((i6 j).2 (.inr (.inr rfl)))⟩
  · rw [← List.append_assoc]
    exact c.loc _ _ _ _ hI3 (fun j hj => (hS3 j hj).1) (fun j hj => hX4 j (hS3 j hj).1 (fun e => hn3L (e ▸ hj)))
  · unfold OwnArr at hy1 ⊢
    rw [hX4 yb (by omega) hneL, hk3.block yb (by omega) i5]; exact hy1
theorem in_loc {l : Nat} {I : List (List Int) → (Nat → Prop) → World → Prop} {G : List (List Int) → List Int → Prop} (c : ItC l I G) {preI : List (List Int)} {L yb : Nat} {rec : Loop} {pre2 : List (List Int)} {S2 : Nat → Prop} {X X' : World}
    (hI : InI I preI L yb rec l pre2 S2 X) (hlt : ∀ j, S2 j → j < X.heap.size) (hsame : ∀ j, S2 j → X'.heap[j]? = X.heap[j]?) : InI I preI L yb rec l pre2 S2 X' := by
  obtain ⟨S0, i1, i2, i3, i4, i5, i6⟩ := hI
  refine ⟨S0, c.loc _ _ _ _ i1 (fun j hj => hlt j ((i6 j).2 (.inl hj))) (fun j hj => hsame j ((i6 j).2 (.inl hj))), ?_, ?_, i4, i5, i6⟩
  · rw [hsame L ((i6 L).2 (.inr (.inl rfl)))]; exact i2
  · unfold OwnArr at i3 ⊢
    rw [hsame yb ((i6 yb).2 (.inr (.inr rfl)))]; exact i3
theorem foldl_one7 (a : Array Value) (p : Nat) (v : Value) : Array.foldl (fun t (x : Nat × Value) => t.setIfInBounds x.fst x.snd) a (#[p].zip #[v]) = a.setIfInBounds p v := by simp

set_option maxRecDepth 100000 in
set_option maxHeartbeats 8000000 in
theorem iter_step (n k d : Nat)
    (ih : ∀ (bs : List Int), bs.length + d = n → ∀ (l : Nat) (I : List (List Int) → (Nat → Prop) → World → Prop) (G : List (List Int) → List Int → Prop) (_ : ItC l I G)
      (pre : List (List Int)) (S : Nat → Prop) (W : World) (bb pb cap qb : Nat) (q : Option Addr), I pre S W → (∀ j, S j → j < W.heap.size) → ItA W S n k bb pb q bs cap qb → (∀ a x b, seatM n k d bs = a ++ x :: b → G (pre ++ a) x) →
      CallsIn Fence.wide 9 Try.prog 42 #[.func (.yield l) #[] #[], .pointer (some ⟨bb, 0, none⟩), .pointer (some ⟨pb, 0, none⟩)] W (ItD I S W (pre ++ seatM n k d bs) (fun j => j = qb)))
    (bs : List Int) (hbs : bs.length + (d + 1) = n) (hn : n ≤ 12) (l : Nat) (I : List (List Int) → (Nat → Prop) → World → Prop) (G : List (List Int) → List Int → Prop) (c : ItC l I G)
    (pre : List (List Int)) (S : Nat → Prop) (W : World) (bb pb cap qb : Nat) (q : Option Addr) (hI : I pre S W) (hS : ∀ j, S j → j < W.heap.size) (hA : ItA W S n k bb pb q bs cap qb) (hG : ∀ a x b, seatM n k (d + 1) bs = a ++ x :: b → G (pre ++ a) x) :
    CallsIn Fence.wide 9 Try.prog 42 #[.func (.yield l) #[] #[], .pointer (some ⟨bb, 0, none⟩), .pointer (some ⟨pb, 0, none⟩)] W (ItD I S W (pre ++ seatM n k (d + 1) bs) (fun j => j = qb)) := by
  refine callsIn_of_wp_marks Try.func42 rfl trivial ?_ rfl
  simp only [Try.ntmps42, List.size_toArray, List.length_cons, List.length_nil, Nat.reduceAdd, Nat.reduceSub, Array.replicate_succ, Array.replicate_zero, List.push_toArray, List.append_toArray, List.nil_append, List.cons_append]
  refine wpIn_wide.2 ?_
  have hyb := OwnArr.made W 61 [.func (.yield l) #[] #[]]
  have hk : KeepP S W (W.alloc (.cells #[.func (.yield l) #[] #[]] 61)) := (KeepP.refl _ _).alloc _
  have hbb := hk.own hA.bbx hA.nb
  have hpb := hk.own hA.pbx hA.np
  have hrd := hk.rd hA.rd (fun b off e => by
    rcases hA.at_ with h | h
    · rw [h.2] at e; cases e
    · rw [h.2] at e; simp only [Option.some.injEq, Addr.mk.injEq, and_true] at e; rw [← e.1]; exact hA.nq)
  have hI1 := c.loc _ _ _ _ hI hS (fun j hj => Below.heap_alloc W (.cells #[.func (.yield l) #[] #[]] 61) j (hS j hj))
  have hsz : (W.alloc (.cells #[.func (.yield l) #[] #[]] 61)).heap.size = W.heap.size + 1 := by simp
  obtain ⟨W1, hW1⟩ : ∃ W1, W.alloc (.cells #[.func (.yield l) #[] #[]] 61) = W1 := ⟨_, rfl⟩
  rw [hW1] at hyb hk hbb hpb hrd hI1 hsz
  have cb := hbb.cell 0
  have cp := hpb.cell 0
  have cp2 := hpb.cell 1
  obtain ⟨m, hm⟩ : ∃ m, bs.length = m := ⟨_, rfl⟩
  have CH := choices_any n k q cap bs W1 0 W.heap.size hrd (by omega) (by omega)
  rw [hm] at cb CH
  have hmn : ¬ (m : Int) = (n : Int) := by omega
  have hd1 : ((m : Int) == (n : Int)) = false := by simpa using hmn
  have hd2 : decide ((m : Int) = (n : Int)) = false := decide_eq_false hmn
  obtain ⟨yb, hy⟩ : ∃ yb, W.heap.size = yb := ⟨_, rfl⟩
  rw [hy] at hyb
  have HW1 := Lib.hid hW1
  have HY := Lib.hid hy
  replace CH := Lib.hid CH
  have HM := Lib.hid hm
  clear hW1
  go_upto_region 1 with fail
  rw [HW1.out]
  try rw [HY.out]
  go_wp2_with fail
  refine CH.out.mono ?_
  rintro e W2 ⟨v, rfl, hO, hb2⟩
  obtain ⟨pc, cc, rfl, -, -, hrc, -⟩ := hO.rd
  obtain ⟨cs, hcs⟩ : ∃ cs, choM n k bs = cs := ⟨_, rfl⟩
  rw [hcs] at hrc
  rw [show (ints (choM n k bs)).length = cs.length by rw [ints_length, hcs]]
  have hmc12 : cs.length ≤ 12 := by rw [← hcs]; exact cho_len n k bs hn
  obtain ⟨mc, hmc⟩ : ∃ mc, cs.length = mc := ⟨_, rfl⟩
  rw [hmc] at hmc12 ⊢
  go_wp2_with fail
  refine wp_loop (LI I S W1 W2 pre n k d bs cs l bb pb yb q m cap pc mc cc) (fun a' _ => mc - (intOf (a'.tmps.getD 20 undef)).toNat) ?start ?round
  case start =>
    exact ⟨0, [], S, _, _, _, _, _, _, _, _, _, _, _, _, _, _, _, _, _, _, _, _, _, _, _, _, Nat.zero_le _, rfl, Lib.hid ⟨KeepP.refl _ _, fun j hj => ⟨by have := hS j hj; have := hb2.size; omega, .inl hj⟩, by
      show I (pre ++ []) S W2
      rw [List.append_nil]
      exact c.loc _ _ _ _ hI1 (fun j hj => by have := hS j hj; omega) (fun j hj => hb2.block j (by have := hS j hj; omega)), ⟨List.nodup_nil, fun D hD => by simp at hD⟩, fun D hD => by simp at hD⟩⟩
  case round =>
    rintro a' w' ⟨i, ds, S', y5, y6, y7, y21, y22, y23, y24, y25, y26, y27, y28, y29, y30, y31, y32, y33, y34, y35, y36, y37, y38, y39, y40, y41, hi, rfl, HL⟩
    by_cases hlt : i < mc
    · have hi1 : (i : Int) < (mc : Int) := by omega
      have hil : i < cs.length := by omega
      have hk2 : KeepP S W1 W2 := Below.keepP hb2
      have kk := hk2.same HL.out.keep
      obtain ⟨bc, offc, rfl, hlo, hhi, hlt2, hcc⟩ := hrc.int (by rw [ints_length]; omega)
      have hnbc : ¬ S bc := fun e => by have := hS bc e; omega
      have h0 := (HL.out.keep.cell (i := offc + i) hlt2 hnbc).trans (hcc i (by rw [ints_length]; exact hil))
      rw [ints_get hil] at h0
      obtain ⟨ch, hch⟩ : ∃ ch, cs[i]?.getD 0 = ch := ⟨_, rfl⟩
      rw [hch] at h0
      have wb := (kk.own hbb hA.nb).cell 0
      rw [hm] at wb
      have wp := (kk.own hpb hA.np).cell 0
      have wp2 := (kk.own hpb hA.np).cell 1
      have wrd := kk.rd hrd (fun b off e => by
        rcases hA.at_ with h | h
        · rw [h.2] at e; cases e
        · rw [h.2] at e; simp only [Option.some.injEq, Addr.mk.injEq, and_true] at e; rw [← e.1]; exact hA.nq)
      have wrd2 := wrd.bel ((Below.refl _ _).alloc (Nat.le_refl _) (.cells #[.int .i64 (ch : Int)] 3))
      have hmc1 : m ≤ cap := by have := hA.cap1; omega
      have hmc2 : (m : Int) ≤ (cap : Int) := by omega
      have hpn : m = 0 → q = none := fun h => by
        rcases hA.at_ with h' | h'
        · exact h'.2
        · omega
      clear hcc
      go_upto_region 7 with (at_builtin; refine wpList_grow7 rfl _ _ rfl q bs m hm 0 W.heap.size wrd2 hpn (by omega) (some ⟨w'.heap.size, 0, none⟩) (ch : Int) 1 0 (w'.heap.size + 1) (lit_one (OwnArr.made w' _ [_]) _ (Nat.lt_succ_self _) (by simp)) rfl rfl ?_; intro v' w3 hF3 hb3; have k3 : KeepP S W1 w3 := (kk.alloc _).same (Below.keepP hb3); have wp3 := (k3.own hpb hA.np).cell 0; have wp4 := (k3.own hpb hA.np).cell 1; obtain ⟨gl, cl, rfl, f1, f2, f3, f4, f5⟩ := hF3)
      go_wp2_with fail
      refine (seatingsFrom_any _ _ _ _ _ _).mono ?_
      rintro e w4 ⟨rfl, hw4⟩
      go_wp2_with fail
      obtain ⟨wD, hwD⟩ : ∃ wD, (w3.alloc (planeB (n : Int) (k : Int))).alloc (.cells #[.slice (some ⟨gl, 0, none⟩) (m + 1) cl] 33) = wD := ⟨_, rfl⟩
      rw [hwD]
      have hsz1 : (w'.alloc (.cells #[.int .i64 (ch : Int)] 3)).heap.size = w'.heap.size + 1 := by simp
      have hszD : wD.heap.size = w3.heap.size + 2 := by rw [← hwD]; simp
      have hw3s := hb3.size
      have hkD : ∀ T : Nat → Prop, KeepP T w' wD := fun T => by rw [← hwD]; exact ((((KeepP.refl T w').alloc _).same (Below.keepP hb3)).alloc _).alloc _
      have hkD3 : ∀ T : Nat → Prop, KeepP T w3 wD := fun T => by rw [← hwD]; exact ((KeepP.refl T w3).alloc _).alloc _
      have hpD : OwnArr wD w3.heap.size 42 [.int .i64 (n : Nat), .int .i64 (k : Nat)] := by rw [← hwD]; exact (OwnArr.made w3 _ [_, _]).alloc _
      have hbD : OwnArr wD (w3.heap.size + 1) 33 [.slice (some ⟨gl, 0, none⟩) (m + 1) cl] := by
        have h := OwnArr.made (w3.alloc (planeB (n : Int) (k : Int))) 33 [.slice (some ⟨gl, 0, none⟩) (m + 1) cl]
        rw [show (w3.alloc (planeB (n : Int) (k : Int))).heap.size = w3.heap.size + 1 by simp] at h
        rw [← hwD]; exact h
      have hW2s := hb2.size
      have hWs := HL.out.keep.size
      have hyW : yb = W.heap.size := hy.symm
      have hnyS : ¬ S yb := fun e => by have := hS yb e; omega
      have hnyS' : ¬ S' yb := fun e => by
        rcases (HL.out.own yb e).2 with h | h
        · exact hnyS h
        · omega
      have hyD : OwnArr wD yb 61 [.func (.yield l) #[] #[]] := (hkD S).own (kk.own hyb hnyS) hnyS
      obtain ⟨preI, hpreI⟩ : ∃ preI, pre ++ partM n k d bs (cs.take i) = preI := ⟨_, rfl⟩
      have hIw := HL.out.inv
      rw [hpreI] at hIw
      have hwhole : seatM n k (d + 1) bs = partM n k d bs (cs.take i) ++ (seatM n k d (bs ++ [(ch : Int)]) ++ partM n k d bs (cs.drop (i + 1))) := by
        show (choM n k bs).flatMap _ = _
        rw [hcs]
        have e1 : cs = cs.take i ++ (ch :: cs.drop (i + 1)) := by
          have e2 : cs[i]'hil = ch := by rw [← hch, List.getElem?_eq_getElem hil]; rfl
          rw [← e2, ← List.drop_eq_getElem_cons hil, List.take_append_drop]
        conv => lhs; rw [e1]
        unfold partM
        rw [List.flatMap_append, List.flatMap_cons]
      have hnext : partM n k d bs (cs.take (i + 1)) = partM n k d bs (cs.take i) ++ seatM n k d (bs ++ [(ch : Int)]) := by
        unfold partM
        rw [List.take_succ_eq_append_getElem hil, List.flatMap_append]
        have e2 : cs[i]'hil = ch := by rw [← hch, List.getElem?_eq_getElem hil]; rfl
        rw [e2]
        simp
      have f5r : Ri 0 wD.heap.size wD (some ⟨gl, 0, none⟩) (bs ++ [(ch : Int)]) := by
        obtain ⟨p7, c7, e7, -, -, r7, -⟩ := f5.rd
        simp only [Value.slice.injEq] at e7
        obtain ⟨rfl, -, -⟩ := e7
        exact ((hkD3 (fun _ => False)).rd r7 (fun _ _ _ e => e)).mono (Nat.zero_le _) (by omega) (Nat.le_refl _)
      have f5o : ∃ ys, OwnArr wD gl 3 ys ∧ m + 1 ≤ ys.length := by
        obtain ⟨p7, c7, e7, -, -, -, r8⟩ := f5.rd
        simp only [Value.slice.injEq] at e7
        obtain ⟨rfl, -, -⟩ := e7
        have hl8 : (bs ++ [(ch : Int)]).length = m + 1 := by rw [List.length_append, hm]; rfl
        obtain ⟨g8, ys, e8, -, -, h9, h10⟩ := r8.arr (by omega)
        simp only [Option.some.injEq, Addr.mk.injEq, and_true] at e8
        subst e8
        exact ⟨ys, (hkD3 (fun _ => False)).own h9 (fun e => e), by omega⟩
      have HIN := Lib.hid (fun (rec : Loop) => linv_in (m := m) (cl := cl) (rec := rec) c HL.out hkD rfl ⟨by omega, by omega⟩ (bbD := w3.heap.size + 1) ⟨by omega, by omega⟩ (pbD := w3.heap.size) ⟨by omega, by omega⟩ hnyS (by omega) hyD hbD hpD hm f5r f5o (by have : (bs ++ [(ch : Int)]).length = m + 1 := (by rw [List.length_append, hm]; rfl); omega) f4)
      have HNX := Lib.hid (fun (rec : Loop) (W6 : World) hD => linv_next (rec := rec) (W6 := W6) (yb := yb) (gl := gl) c HL.out hnext hkD rfl ⟨by omega, by omega⟩ (by omega) hyD hD)
      have HG := Lib.hid (show ∀ a x b, seatM n k d (bs ++ [(ch : Int)]) = a ++ x :: b → G ((pre ++ partM n k d bs (cs.take i)) ++ a) x from fun a x b hab => by
        have := hG (partM n k d bs (cs.take i) ++ a) x (b ++ partM n k d bs (cs.drop (i + 1))) (by rw [hwhole, hab]; simp)
        rw [← List.append_assoc] at this
        exact this)
      have hlen1 : (bs ++ [(ch : Int)]).length + d = n := by rw [List.length_append, hm]; simp only [List.length_singleton]; omega
      have CC := Lib.hid c
      have IH := Lib.hid ih
      have hlast : mc - (i + 1) < mc - i := by omega
      have htn : ((i : Int) + 1).toNat = i + 1 := by omega
      have hw65 := Lib.hid (show IntKind.i64.wrap ((i : Int) + 1) = (i : Int) + 1 from IntWalk.i64_in _ (by omega))
      clear hIw hpreI hwhole hnext hkD hkD3 hpD hbD hyD hnyS hnyS' kk hk2 k3 wrd wrd2 hrd hrc hA hI hI1 hk hbb hpb f5 f5r f5o hcs HL c ih hG hS hb2 hb3 hO hwD hyb wb wp wp2 wp3 wp4 h0 hnbc hlo hhi hlt2 CH hch hpn HM HY HW1 cb cp cp2 hyW hy hszD hsz1 hsz hmc hm hw3s hWs hW2s
      refine (wpIn_wide (n := 9)).1 ?_
      refine range_state (F := Fence.wide) (n := 9) rfl (by omega) (gf := 42) rfl trivial (enters_of Try.func42 (by kernel_rfl) rfl) ?_
      intro fn _ rec hrec
      obtain ⟨iI, iS, iA⟩ := HIN.out rec
      have hC : ItC (wD.heap.size + 1) (InI I (pre ++ partM n k d bs (cs.take i)) (wD.heap.size + 1) yb rec l) (fun pre' x => G ((pre ++ partM n k d bs (cs.take i)) ++ pre') x) := by
        refine ⟨fun _ _ _ _ h1 h2 h3 => in_loc CC.out h1 h2 h3, ?_⟩
        intro pre2 S2 X x xb cap2 hII hG2 hlt hnx hxb hc1 hc2 hcells
        obtain ⟨rb, hrb⟩ : ∃ rb, ({ rec with state := .busy } : Loop) = rb := ⟨_, rfl⟩
        obtain ⟨q1, cy, hY⟩ := in_before (rb := rb) CC.out hII hG2 hlt hnx hxb hc1 hc2 hcells
        refine yield_state trivial q1 (by rw [hrec]) (by rw [hrec]) (by rw [hrec]; rfl) ?_
        rw [hrb, congrArg Loop.assign hrec, congrArg Loop.body hrec, congrArg Loop.params hrec, congrArg Loop.tmps hrec]
        dsimp only
        rw [foldl_one7]
        simp only [List.setIfInBounds_toArray, List.set_cons_succ, List.set_cons_zero]
        obtain ⟨X1, hX1⟩ : ∃ X1, X.putObj (wD.heap.size + 1) (.loop rb) = X1 := ⟨_, rfl⟩
        rw [hX1] at cy hY
        obtain ⟨fn2, tmps2, assign2, body2, hyy, hR⟩ := hY
        obtain ⟨xl, hxl⟩ : ∃ xl, x.length = xl := ⟨_, rfl⟩
        rw [hxl] at hyy ⊢
        clear hrec hrb hII hG2 hlt hnx hxb hc1 hc2 hcells iI iS iA
        gi_wp2
        refine ⟨q1, ?_⟩
        rw [hX1]
        gi_wp2
        refine hR.mono ?_
        rintro e X3 ⟨rfl, h3, h4⟩
        gi_wp2
        obtain ⟨-, S4, h4b, h4c⟩ := h4
        exact ⟨S4, by simpa using h4b, h4c⟩
      have hIN := IH.out (bs ++ [(ch : Int)]) hlen1 (wD.heap.size + 1) _ _ hC [] _ _ (w3.heap.size + 1) w3.heap.size cl gl (some ⟨gl, 0, none⟩) iI iS iA (fun a x b hab => by rw [List.nil_append]; exact HG.out a x b hab)
      clear hC iI iS iA hrec
      refine ((callsIn_wide (n := 9 - 1)).2 ((callsIn_wide (n := 9)).1 hIN)).mono ?_
      rintro e W6 ⟨⟨v, rfl⟩, hD⟩
      obtain ⟨hL6, S60, HL7⟩ := HNX.out rec W6 ⟨⟨_, rfl⟩, hD⟩
      refine ⟨⟨_, rfl⟩, hL6, ?_⟩
      have HL8 := Lib.hid HL7
      clear hIN HL7 hD HNX HG HIN hL6 IH CC
      change Exit.inBlock _ _ _ _ (W6.putObj _ _)
      obtain ⟨W7, hW7⟩ : ∃ W7, W6.putObj (wD.heap.size + 1) (.loop { rec with state := .exhausted }) = W7 := ⟨_, rfl⟩
      rw [hW7] at HL8 ⊢
      clear hW7
      dsimp only
      have hw66 := hw65.out
      go_wp2_with fail
      refine ⟨li_next HL8.out hlt, ?_⟩
      show mc - (intOf (Value.int .i64 ((i : Int) + 1))).toNat < mc - (intOf (Value.int .i64 (i : Int))).toNat
      simp only [intOf, htn, Int.toNat_natCast]
      exact hlast
    · have hie : i = mc := by omega
      subst hie
      have hi1 : ¬ (i : Int) < (i : Int) := by omega
      have hfin : ∀ W', KeepP (fun k => k ∈ ds) w' W' → ItD I S W (pre ++ seatM n k (d + 1) bs) (fun j => j = qb) (.returned (.tuple #[])) W' := by
        intro W' hk'
        have hk2 : KeepP S W1 W2 := Below.keepP hb2
        have hWs := hb2.size
        have hL2 := HL.out.keep.size
        refine ⟨⟨_, rfl⟩, (((hk.same hk2).same HL.out.keep)).trans hk' (fun j hj => .inr (by have := (HL.out.new j hj).1; omega)), S', fun j hj => ?_, ?_⟩
        · obtain ⟨q1, q2⟩ := HL.out.own j hj
          refine ⟨Nat.lt_of_lt_of_le q1 hk'.size, ?_⟩
          rcases q2 with h | h
          · exact .inl h
          · exact .inr (.inr (by omega))
        · have hinv := HL.out.inv
          rw [List.take_of_length_le (by omega)] at hinv
          have e : seatM n k (d + 1) bs = partM n k d bs cs := by
            show (choM n k bs).flatMap _ = _
            rw [hcs]; rfl
          rw [e]
          exact c.loc _ _ _ _ hinv (fun j hj => (HL.out.own j hj).1) (fun j hj => hk'.block j (HL.out.own j hj).1 (fun hd => (HL.out.new j hd).2.2 hj))
      have HFIN := Lib.hid hfin
      have HMK := Lib.hid HL.out.marks
      clear hfin hk hbb hpb hrd hI hI1 hA hG hS hb2 hO hrc ih c HL hcs
      go_wp2_with fail
      show LeavesInM _ _ _ _ _ _ _ _ _
      exact leaves_marks ds w' HMK.out (fun W' hk' => ⟨_, results_none rfl _ _ _, HFIN.out W' hk'⟩)

/-- the iterator of a beginning gives all seatings with it, in order -/
theorem iter_any (n k : Nat) (h1 : 1 ≤ n) (hn : n ≤ 12) : ∀ (d : Nat) (bs : List Int), bs.length + d = n → ∀ (l : Nat) (I : List (List Int) → (Nat → Prop) → World → Prop) (G : List (List Int) → List Int → Prop) (_ : ItC l I G)
      (pre : List (List Int)) (S : Nat → Prop) (W : World) (bb pb cap qb : Nat) (q : Option Addr), I pre S W → (∀ j, S j → j < W.heap.size) → ItA W S n k bb pb q bs cap qb → (∀ a x b, seatM n k d bs = a ++ x :: b → G (pre ++ a) x) →
      CallsIn Fence.wide 9 Try.prog 42 #[.func (.yield l) #[] #[], .pointer (some ⟨bb, 0, none⟩), .pointer (some ⟨pb, 0, none⟩)] W (ItD I S W (pre ++ seatM n k d bs) (fun j => j = qb))
  | 0, bs, hbs, l, I, G, c, pre, S, W, bb, pb, cap, qb, q, hI, hS, hA, hG => by
    have := hG [] bs [] rfl
    rw [List.append_nil] at this
    exact iter_leaf n k bs (by omega) h1 hn l I G c pre S W bb pb cap qb q hI hS hA this
  | d + 1, bs, hbs, l, I, G, c, pre, S, W, bb, pb, cap, qb, q, hI, hS, hA, hG => iter_step n k d (iter_any n k h1 hn d) bs hbs hn l I G c pre S W bb pb cap qb q hI hS hA hG
end Go.Proofs.Ytkbpfjhikabbmaa
end
