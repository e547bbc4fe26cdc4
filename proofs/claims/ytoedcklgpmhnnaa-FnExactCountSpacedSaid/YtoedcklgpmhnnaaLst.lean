/- A list of numbers among a law's arguments: the copy that the law hands to the program. Plain lemmas. -/
import Derived.Test.YtoedcklgpmhnnaaOut
namespace Go.Proofs.Ytoedcklgpmhnnaa
open Go.RowKit

/-- the copy of a list that the law hands to the program: its data in a block from lo on -/
structure Lcp (lo hi b : Nat) (xs : List Int) (w : World) : Prop where
  arr : OwnArr w b 3 (iv xs)
  h1 : lo ≤ b
  h2 : b < hi
  h3 : hi ≤ w.heap.size
theorem Lcp.next {lo hi b : Nat} {xs : List Int} {w w' : World} (h : Lcp lo hi b xs w) (hb : Below w.heap.size w w') : Lcp lo hi b xs w' :=
  ⟨h.arr.below hb h.arr.lt, h.h1, h.h2, Nat.le_trans h.h3 hb.size⟩
theorem Lcp.ri {lo hi b : Nat} {xs : List Int} {w : World} (h : Lcp lo hi b xs w) : Ri lo hi w (some ⟨b, 0, none⟩) xs := by
  have := Rd.of_own h.arr h.h1 h.h2 h.h3 xs.length
  rwa [List.take_of_length_le (by rw [iv_length]; exact Nat.le_refl _)] at this
theorem Lcp.own {lo hi b : Nat} {xs : List Int} {w : World} (h : Lcp lo hi b xs w) : Own lo hi w 3 (some ⟨b, 0, none⟩) xs.length :=
  ⟨h.h3, fun _ => ⟨b, _, rfl, h.h1, h.h2, h.arr, by rw [iv_length]; exact Nat.le_refl _⟩⟩
theorem stayL {w w' : World} {g lo hi : Nat} {e : TypeId} {xs : List Value} (h : OwnArr w g e xs) (hk : Keep lo hi w w') (hd : g < lo ∨ hi ≤ g) : OwnArr w' g e xs := by
  have hlt := h.lt
  unfold OwnArr at *
  rw [hk.block g hlt hd]; exact h
theorem Lcp.keep {lo hi b : Nat} {xs : List Int} {w w' : World} (h : Lcp lo hi b xs w) {a c : Nat} (hk : Keep a c w w') (h1 : c ≤ lo) : Lcp lo hi b xs w' :=
  ⟨stayL h.arr hk (.inr (Nat.le_trans h1 h.h1)), h.h1, h.h2, Nat.le_trans h.h3 hk.size⟩
/-- what lay below stays, behind marks on blocks of the call's own -/
theorem wkeep {B a b : Nat} {w x y : World} (h : Below B w x) (hk : Keep a b x y) (ha : B ≤ a) (hB : B ≤ x.heap.size) : Below B w y :=
  h.trans ⟨hk.os, hk.tape, hk.output, hk.size, fun k hk' => hk.block k (by omega) (.inl (by omega))⟩
end Go.Proofs.Ytoedcklgpmhnnaa
