/- Results of numbers in memory of a call's own; lists of seats that grow; what a loop over the seats of a Row has at its start. Plain lemmas. -/
import Derived.Test.YtoedcklgpmhnnaaHas0
import Derived.Laws.AppendOwn
import Derived.Deep.DeepCutAuto
namespace Go.Proofs.Ytoedcklgpmhnnaa
open Go.RowKit

/-- a result of numbers in memory of the call's own, behind block B -/
abbrev Out (B : Nat) (w : World) (v : Value) (xs : List Int) : Prop := w.ownsRow B 3 1 v xs.length (iv xs)
theorem Out.mono {B B' : Nat} {w : World} {v : Value} {xs : List Int} (h : Out B w v xs) (hb : B' ≤ B) : Out B' w v xs :=
  ⟨h.1, h.2.elim .inl (fun ⟨g, cap, cur, hv, hg, r⟩ => .inr ⟨g, cap, cur, hv, Nat.le_trans hb hg, r⟩)⟩
theorem Out.below {B : Nat} {w w' : World} {v : Value} {xs : List Int} (h : Out B w v xs) (hb : Below w.heap.size w w') : Out B w' v xs := by
  refine ⟨h.1, h.2.elim .inl (fun ⟨g, cap, cur, hv, hg, hh, r⟩ => .inr ⟨g, cap, cur, hv, hg, ?_, r⟩)⟩
  have hlt : g < w.heap.size := by
    rcases Nat.lt_or_ge g w.heap.size with h' | h'
    · exact h'
    · rw [Array.getElem?_eq_none h'] at hh; cases hh
  rw [hb.block g hlt]; exact hh
theorem Out.nilLit (w : World) : Out w.heap.size (w.alloc (.cells #[] 3)) (.slice (some ⟨w.heap.size, 0, none⟩) 0 0) [] :=
  own_lit [] 1 0 rfl (by unfold maxLen; omega)
theorem Out.rd {B : Nat} {w : World} {v : Value} {xs : List Int} (h : Out B w v xs) :
    ∃ p cap, v = .slice p xs.length cap ∧ xs.length ≤ cap ∧ cap ≤ maxLen ∧ Ri B w.heap.size w p xs ∧ Own B w.heap.size w 3 p xs.length := by
  obtain ⟨p, cap, h1, h2, h3, h4, h5⟩ := rd_ownsRow h
  exact ⟨p, cap, h1, h2, h3, h4, by rwa [Nat.mul_one] at h5⟩

theorem Out.open' {B : Nat} {w : World} {v : Value} {xs : List Int} (h : Out B w v xs) : ∃ l vs, xs.length = l ∧ iv xs = vs ∧ w.ownsRow B 3 1 v l vs := ⟨_, _, rfl, rfl, h⟩
theorem Out.close {B : Nat} {w : World} {v : Value} {xs : List Int} {l : Nat} {vs : List Value} {x : Int} (hl : xs.length = l) (hvs : iv xs = vs) (h : w.ownsRow B 3 1 v (l + 1) (vs ++ [.int .i64 x])) : Out B w v (xs ++ [x]) := by
  subst hl; subst hvs
  show w.ownsRow B _ 1 v (xs ++ [x]).length (iv (xs ++ [x]))
  rw [iv_append, List.length_append]
  exact h

theorem ints_tk_succ (k : Nat) (T : Nat → Bool) : ints (tk (k + 1) T) = ints (tk k T) ++ (if T k then [(k : Int)] else []) := by
  rw [tk_succ, ints_append]
  by_cases h : T k <;> simp [h, ints]
theorem ints_tk_yes {k : Nat} {T : Nat → Bool} (h : T k = true) : ints (tk (k + 1) T) = ints (tk k T) ++ [(k : Int)] := by rw [ints_tk_succ, if_pos h]
theorem ints_tk_no {k : Nat} {T : Nat → Bool} (h : T k = false) : ints (tk (k + 1) T) = ints (tk k T) := by rw [ints_tk_succ, if_neg (by rw [h]; simp), List.append_nil]
theorem ints_tk_len (k : Nat) (T : Nat → Bool) : (ints (tk k T)).length ≤ k := by rw [ints_length]; exact tk_length_le k T

theorem ints_get {l : List Nat} {k : Nat} (h : k < l.length) : (ints l)[k]?.getD 0 = ((l[k]?.getD 0 : Nat) : Int) := by
  simp [ints, h]
theorem nat_mem {l : List Nat} {k : Nat} (h : k < l.length) : l[k]?.getD 0 ∈ l := by
  rw [List.getElem?_eq_getElem h]; exact List.getElem_mem h
theorem has_tk {n k : Nat} {S : Nat → Bool} (h : k < n) : decide ((k : Int) ∈ ints (tk n S)) = S k := by
  cases hS : S k with
  | true =>
    have : (k : Int) ∈ ints (tk n S) := mem_ints_tk.2 ⟨k, rfl, h, hS⟩
    simpa using this
  | false =>
    have : ¬ (k : Int) ∈ ints (tk n S) := by
      rw [mem_ints_tk]
      rintro ⟨j, h1, _, h3⟩
      have : j = k := by omega
      rw [this, hS] at h3; cases h3
    simpa using this
/-- what a loop over the seats of a Row has at its start -/
theorem loop_start (w : World) (n : Nat) (ring : Bool) (p : Option Addr) (m cap : Nat) :
    OwnArr ((w.alloc (.cells #[Value.int .i64 n, Value.bool ring, Value.slice p m cap] 28)).alloc (.cells #[] 3)) w.heap.size 28 [.int .i64 n, .bool ring, .slice p m cap] ∧
    Out (w.heap.size + 1) ((w.alloc (.cells #[Value.int .i64 n, Value.bool ring, Value.slice p m cap] 28)).alloc (.cells #[] 3)) (.slice (some ⟨w.heap.size + 1, 0, none⟩) 0 0) [] ∧
    Below w.heap.size w ((w.alloc (.cells #[Value.int .i64 n, Value.bool ring, Value.slice p m cap] 28)).alloc (.cells #[] 3)) := by
  have hs : (w.alloc (.cells #[Value.int .i64 n, Value.bool ring, Value.slice p m cap] 28)).heap.size = w.heap.size + 1 := by simp
  have h := Out.nilLit (w.alloc (.cells #[Value.int .i64 n, Value.bool ring, Value.slice p m cap] 28))
  rw [hs] at h
  exact ⟨(OwnArr.made w _ [_, _, _]).alloc _, h, ((Below.refl _ _).alloc (Nat.le_refl _) _).alloc (by simp) _⟩
end Go.Proofs.Ytoedcklgpmhnnaa
