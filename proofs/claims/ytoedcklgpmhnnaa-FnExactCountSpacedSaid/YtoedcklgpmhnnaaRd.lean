/- What a slice shows: 'Rd lo hi w p vs': the places from p on hold the values vs, in a block from lo on and before hi; what is a call's own; what a call leaves as it was. Plain lemmas: no function of the program. -/
import Derived.Test.YtoedcklgpmhnnaaOwnArr
import Derived.Test.YtoedcklgpmhnnaaRowMath
import Derived.SizedLaws
import Derived.Deep.QuietTactic
import Derived.Deep.OwnRows
import Derived.Laws.AppendOwn
namespace Go.Proofs.Ytoedcklgpmhnnaa
open Go.RowKit

structure Rd (lo hi : Nat) (w : World) (p : Option Addr) (vs : List Value) : Prop where
  top : hi ≤ w.heap.size
  cells : 0 < vs.length → ∃ b off, p = some ⟨b, off, none⟩ ∧ lo ≤ b ∧ b < hi ∧ ∀ i, i < vs.length → w.cell? ⟨b, off + i, none⟩ = vs[i]?

/-- the blocks from lo on and before hi may have turned, no other -/
structure Keep (lo hi : Nat) (w w' : World) : Prop where
  os : w'.os = w.os
  tape : w'.tape = w.tape
  output : w'.output = w.output
  size : w.heap.size ≤ w'.heap.size
  block : ∀ k, k < w.heap.size → (k < lo ∨ hi ≤ k) → w'.heap[k]? = w.heap[k]?

theorem Keep.refl (lo hi : Nat) (w : World) : Keep lo hi w w := ⟨rfl, rfl, rfl, Nat.le_refl _, fun _ _ _ => rfl⟩
theorem Keep.trans {lo hi : Nat} {x y z : World} (h : Keep lo hi x y) (k : Keep lo hi y z) : Keep lo hi x z :=
  ⟨k.os.trans h.os, k.tape.trans h.tape, k.output.trans h.output, Nat.le_trans h.size k.size, fun i hi hb => (k.block i (Nat.lt_of_lt_of_le hi h.size) hb).trans (h.block i hi hb)⟩
theorem Keep.below {lo hi : Nat} {w w' : World} (h : Keep lo hi w w') (hlo : lo ≤ w.heap.size) : Below lo w w' := ⟨h.os, h.tape, h.output, h.size, fun k hk => h.block k (by omega) (.inl hk)⟩
theorem Below.keep {lo hi : Nat} {w w' : World} (h : Below w.heap.size w w') : Keep lo hi w w' := ⟨h.os, h.tape, h.output, h.size, fun k hk _ => h.block k hk⟩
theorem Keep.setCell {lo hi : Nat} {x y : World} (h : Keep lo hi x y) {b : Nat} (hb : lo ≤ b ∧ b < hi) (i : Nat) (v : Value) : Keep lo hi x (y.setCell ⟨b, i, none⟩ v) :=
  h.trans ⟨rfl, rfl, rfl, by simp [World.setCell], fun k _ hk => Below.heap_setCell _ _ _ _ (by show k ≠ b; omega)⟩
theorem Keep.mono {lo hi lo' hi' : Nat} {w w' : World} (h : Keep lo hi w w') (h1 : lo' ≤ lo) (h2 : hi ≤ hi') : Keep lo' hi' w w' := ⟨h.os, h.tape, h.output, h.size, fun k hk hb => h.block k hk (by omega)⟩

theorem Rd.below {lo hi B : Nat} {w w' : World} {p : Option Addr} {vs : List Value} (h : Rd lo hi w p vs) (hb : Below B w w') (hB : hi ≤ B) : Rd lo hi w' p vs := by
  refine ⟨Nat.le_trans h.top hb.size, fun h0 => ?_⟩
  obtain ⟨b, off, e, h1, h2, hc⟩ := h.cells h0
  exact ⟨b, off, e, h1, h2, fun i hi => (hb.cell (p := ⟨b, off + i, none⟩) (by show b < B; omega)).trans (hc i hi)⟩
theorem Rd.bel {lo hi : Nat} {w w' : World} {p : Option Addr} {vs : List Value} (h : Rd lo hi w p vs) (hb : Below w.heap.size w w') : Rd lo hi w' p vs := h.below hb h.top
theorem Rd.keep {lo hi a b : Nat} {w w' : World} {p : Option Addr} {vs : List Value} (h : Rd a b w p vs) (hk : Keep lo hi w w') (hd : b ≤ lo ∨ hi ≤ a) : Rd a b w' p vs := by
  refine ⟨Nat.le_trans h.top hk.size, fun h0 => ?_⟩
  obtain ⟨c, off, e, h1, h2, hc⟩ := h.cells h0
  have ht := h.top
  exact ⟨c, off, e, h1, h2, fun i hi => (World.cell?_of_block (w := w) (a := ⟨c, off + i, none⟩) (hk.block c (by omega) (by omega))).trans (hc i hi)⟩
theorem Rd.mono {lo hi lo' hi' : Nat} {w : World} {p : Option Addr} {vs : List Value} (h : Rd lo hi w p vs) (h1 : lo' ≤ lo) (h2 : hi ≤ hi') (h3 : hi' ≤ w.heap.size) : Rd lo' hi' w p vs := by
  refine ⟨h3, fun h0 => ?_⟩
  obtain ⟨b, off, e, hb, hh, hc⟩ := h.cells h0
  exact ⟨b, off, e, by omega, by omega, hc⟩
theorem Rd.nil (lo hi : Nat) (w : World) (p : Option Addr) (h : hi ≤ w.heap.size) : Rd lo hi w p [] := ⟨h, fun h => absurd h (by simp)⟩
theorem Rd.pfx {lo hi : Nat} {w : World} {p : Option Addr} {vs : List Value} (h : Rd lo hi w p vs) (k : Nat) : Rd lo hi w p (vs.take k) := by
  refine ⟨h.top, fun h0 => ?_⟩
  obtain ⟨b, off, e, h1, h2, hc⟩ := h.cells (by rw [List.length_take] at h0; omega)
  refine ⟨b, off, e, h1, h2, fun i hi => ?_⟩
  rw [List.length_take] at hi
  rw [hc i (by omega), List.getElem?_take, if_pos (by omega)]
theorem Rd.of_own {lo hi : Nat} {w : World} {g : Nat} {e : TypeId} {xs : List Value} (h : OwnArr w g e xs) (h1 : lo ≤ g) (h2 : g < hi) (h3 : hi ≤ w.heap.size) (n : Nat) : Rd lo hi w (some ⟨g, 0, none⟩) (xs.take n) := by
  refine ⟨h3, fun h0 => ⟨g, 0, rfl, h1, h2, fun i hi => ?_⟩⟩
  rw [List.length_take] at hi
  rw [Nat.zero_add, h.cell i, List.getElem?_take, if_pos (by omega)]

/-- m cells from p on are the call's own, none of them frozen -/
structure Own (lo hi : Nat) (w : World) (e : TypeId) (p : Option Addr) (m : Nat) : Prop where
  top : hi ≤ w.heap.size
  arr : 0 < m → ∃ g ys, p = some ⟨g, 0, none⟩ ∧ lo ≤ g ∧ g < hi ∧ OwnArr w g e ys ∧ m ≤ ys.length
theorem Own.below {lo hi B : Nat} {w w' : World} {e : TypeId} {p : Option Addr} {m : Nat} (h : Own lo hi w e p m) (hb : Below B w w') (hB : hi ≤ B) : Own lo hi w' e p m := by
  refine ⟨Nat.le_trans h.top hb.size, fun h0 => ?_⟩
  obtain ⟨g, ys, h1, h2, h3, h4, h5⟩ := h.arr h0
  exact ⟨g, ys, h1, h2, h3, h4.below hb (by omega), h5⟩
theorem Own.bel {lo hi : Nat} {w w' : World} {e : TypeId} {p : Option Addr} {m : Nat} (h : Own lo hi w e p m) (hb : Below w.heap.size w w') : Own lo hi w' e p m := h.below hb h.top
theorem Own.mono {lo hi lo' hi' : Nat} {w : World} {e : TypeId} {p : Option Addr} {m : Nat} (h : Own lo hi w e p m) (h1 : lo' ≤ lo) (h2 : hi ≤ hi') (h3 : hi' ≤ w.heap.size) : Own lo' hi' w e p m := by
  refine ⟨h3, fun h0 => ?_⟩
  obtain ⟨g, ys, k1, k2, k3, k4, k5⟩ := h.arr h0
  exact ⟨g, ys, k1, by omega, by omega, k4, k5⟩
theorem Own.keep {lo hi a b : Nat} {w w' : World} {e : TypeId} {p : Option Addr} {m : Nat} (h : Own a b w e p m) (hk : Keep lo hi w w') (hd : b ≤ lo ∨ hi ≤ a) : Own a b w' e p m := by
  refine ⟨Nat.le_trans h.top hk.size, fun h0 => ?_⟩
  obtain ⟨g, ys, k1, k2, k3, k4, k5⟩ := h.arr h0
  refine ⟨g, ys, k1, k2, k3, ?_, k5⟩
  unfold OwnArr at *
  have ht := h.top
  rw [hk.block g (by omega) (by omega)]; exact k4
theorem Own.nil (lo hi : Nat) (w : World) (e : TypeId) (p : Option Addr) (h : hi ≤ w.heap.size) : Own lo hi w e p 0 := ⟨h, fun h => absurd h (by simp)⟩

/-- a row of the call's own that is built by appends: its cells -/
theorem rd_ownsRow {w : World} {B e size n : Nat} {v : Value} {xs : List Value} (h : w.ownsRow B e size v n xs) :
    ∃ p cap, v = .slice p n cap ∧ n ≤ cap ∧ cap ≤ maxLen ∧ Rd B w.heap.size w p xs ∧ Own B w.heap.size w e p (n * size) := by
  obtain ⟨hl, h⟩ := h
  rcases h with ⟨rfl, rfl⟩ | ⟨g, cap, cur, rfl, hB, hh, hn, hc, hs, ht⟩
  · have : xs = [] := List.length_eq_zero_iff.1 (by rw [hl]; simp)
    subst this
    exact ⟨none, 0, rfl, Nat.le_refl _, by unfold maxLen; omega, Rd.nil _ _ _ _ (Nat.le_refl _), by rw [Nat.zero_mul]; exact Own.nil _ _ _ _ _ (Nat.le_refl _)⟩
  · have hlt : g < w.heap.size := by
      rcases Nat.lt_or_ge g w.heap.size with h' | h'
      · exact h'
      · rw [Array.getElem?_eq_none h'] at hh; cases hh
    have ho : OwnArr w g e cur.toList := hh
    refine ⟨_, cap, rfl, hn, hc, ?_, ⟨Nat.le_refl _, fun _ => ⟨g, _, rfl, hB, hlt, ho, ?_⟩⟩⟩
    · rw [← ht]; exact Rd.of_own ho hB hlt (Nat.le_refl _) _
    · rw [Array.length_toList, hs]; exact Nat.mul_le_mul_right _ hn
theorem own_lit {w : World} {e : TypeId} (xs : List Value) (size n : Nat) (hx : xs.length = n * size) (hn : n ≤ maxLen) : (w.alloc (.cells xs.toArray e)).ownsRow w.heap.size e size (.slice (some ⟨w.heap.size, 0, none⟩) n n) n xs :=
  ⟨hx, .inr ⟨w.heap.size, n, xs.toArray, rfl, Nat.le_refl _, OwnArr.made w e xs, Nat.le_refl _, hn, by simpa using hx, by rw [← hx]; simp⟩⟩

/-- numbers as values -/
def iv (xs : List Int) : List Value := xs.map (Value.int .i64)
theorem iv_length (xs : List Int) : (iv xs).length = xs.length := by simp [iv]
theorem iv_append (a b : List Int) : iv (a ++ b) = iv a ++ iv b := by simp [iv]
theorem iv_get {xs : List Int} {i : Nat} (h : i < xs.length) : (iv xs)[i]? = some (.int .i64 (xs[i]?.getD 0)) := by simp [iv, h]
theorem iv_take (xs : List Int) (k : Nat) : (iv xs).take k = iv (xs.take k) := by simp [iv, List.map_take]
/-- a slice of numbers that shows xs -/
abbrev Ri (lo hi : Nat) (w : World) (p : Option Addr) (xs : List Int) : Prop := Rd lo hi w p (iv xs)
theorem Rd.int {lo hi : Nat} {w : World} {p : Option Addr} {xs : List Int} (h : Ri lo hi w p xs) (h0 : 0 < xs.length) :
    ∃ b off, p = some ⟨b, off, none⟩ ∧ lo ≤ b ∧ b < hi ∧ b < w.heap.size ∧ ∀ i, i < xs.length → w.cell? ⟨b, off + i, none⟩ = some (.int .i64 (xs[i]?.getD 0)) := by
  obtain ⟨b, off, e, h1, h2, hc⟩ := h.cells (by rw [iv_length]; exact h0)
  refine ⟨b, off, e, h1, h2, Nat.lt_of_lt_of_le h2 h.top, fun i hi => ?_⟩
  rw [hc i (by rw [iv_length]; exact hi), iv_get hi]
theorem ret_int {k : IntKind} {a b : Int} (h : a = b) : Ending.returned (.int k a) = .returned (.int k b) := by rw [h]
theorem ret_bool {a b : Bool} (h : a = b) : Ending.returned (.bool a) = .returned (.bool b) := by rw [h]
/-- a callee that leaves the world as it was, met in a region that draws its order -/
theorem quiet_same {P : Program} {f : FuncId} {args : Array Value} {w : World} {n : Nat} {v : Value}
    (h : Calls P f args (w.drewN n) fun e w' => e = .returned v ∧ w.drewN n = w') : Calls P f args (w.drewN n) fun e w'' => e = .returned v ∧ ∃ m, w'' = w.drewN m :=
  h.mono fun _ _ ⟨he, hm⟩ => ⟨he, n, hm.symm⟩
theorem own_block {w : World} {B : Nat} {e : TypeId} {sz : Nat} {v : Value} {n : Nat} {xs : List Value} (h : w.ownsRow B e sz v n xs) : ∀ k, v.ownBlock = some k → B ≤ k := by
  intro k hk
  obtain ⟨_, hr⟩ := h
  rcases hr with ⟨hv, _⟩ | ⟨g, cap, cur, hv, hB, _⟩
  · subst hv; simp [Value.ownBlock] at hk
  · subst hv; simp [Value.ownBlock] at hk; omega
end Go.Proofs.Ytoedcklgpmhnnaa
