/- What a law on a Row keeps through its calls: the Row that came in and its box; the copy that the law hands to the program. Plain lemmas. -/
import Derived.Test.YtoedcklgpmhnnaaRowHelp
import Derived.Deep.RegionWith
namespace Go.Proofs.Ytoedcklgpmhnnaa
open Go.RowKit

/-- the Row that came in, in its box, in the world w of a law that began in W -/
structure Env (W : World) (lo hi A : Nat) (s : Int) (ring : Bool) (p : Option Addr) (cap : Nat) (xs : List Int) (w : World) : Prop where
  inn : Ri lo hi w p xs
  low : hi ≤ W.heap.size
  box : OwnArr w A 24 [.int .i64 s, .bool ring, .slice p xs.length cap]
  bel : Below W.heap.size W w
  here : W.heap.size ≤ A
theorem Env.start {W : World} {lo hi : Nat} {s : Int} {ring : Bool} {p : Option Addr} {cap : Nat} {xs : List Int} (h : Ri lo hi W p xs) :
    Env W lo hi W.heap.size s ring p cap xs (W.alloc (.cells #[.int .i64 s, .bool ring, .slice p xs.length cap] 24)) :=
  have hb : Below W.heap.size W (W.alloc (.cells #[.int .i64 s, .bool ring, .slice p xs.length cap] 24)) := (Below.refl _ _).alloc (Nat.le_refl _) _
  ⟨h.bel hb, h.top, OwnArr.made W _ [_, _, _], hb, Nat.le_refl _⟩
theorem Env.next {W : World} {lo hi A : Nat} {s : Int} {ring : Bool} {p : Option Addr} {cap : Nat} {xs : List Int} {w w' : World} (h : Env W lo hi A s ring p cap xs w) (hb : Below w.heap.size w w') : Env W lo hi A s ring p cap xs w' :=
  ⟨h.inn.bel hb, h.low, h.box.below hb h.box.lt, h.bel.trans (hb.mono h.bel.size), h.here⟩
theorem Env.keep {W : World} {lo hi A : Nat} {s : Int} {ring : Bool} {p : Option Addr} {cap : Nat} {xs : List Int} {w w' : World} (h : Env W lo hi A s ring p cap xs w) {a b : Nat} (hk : Keep a b w w') (ha : A < a) : Env W lo hi A s ring p cap xs w' := by
  have hlt := h.box.lt
  have hhere := h.here
  have hlow := h.low
  refine ⟨h.inn.keep hk (.inl (by omega)), h.low, ?_, ?_, h.here⟩
  · have := h.box
    unfold OwnArr at *
    rw [hk.block A hlt (.inl ha)]; exact this
  · exact h.bel.trans ⟨hk.os, hk.tape, hk.output, hk.size, fun k hk' => hk.block k (by have := h.bel.size; omega) (.inl (by omega))⟩

/-- the copy of the Row that the law hands to the program: its box X, its data in a block from lo on -/
structure Cpy (lo hi X : Nat) (s : Int) (ring : Bool) (b : Nat) (xs : List Int) (w : World) : Prop where
  box : OwnArr w X 28 [.int .i64 s, .bool ring, .slice (some ⟨b, 0, none⟩) xs.length xs.length]
  arr : OwnArr w b 3 (iv xs)
  h1 : lo ≤ b
  h2 : b < hi
  h3 : hi ≤ w.heap.size
theorem Cpy.next {lo hi X : Nat} {s : Int} {ring : Bool} {b : Nat} {xs : List Int} {w w' : World} (h : Cpy lo hi X s ring b xs w) (hb : Below w.heap.size w w') : Cpy lo hi X s ring b xs w' :=
  ⟨h.box.below hb h.box.lt, h.arr.below hb h.arr.lt, h.h1, h.h2, Nat.le_trans h.h3 hb.size⟩
theorem Cpy.ri {lo hi X : Nat} {s : Int} {ring : Bool} {b : Nat} {xs : List Int} {w : World} (h : Cpy lo hi X s ring b xs w) : Ri lo hi w (some ⟨b, 0, none⟩) xs := by
  have := Rd.of_own h.arr h.h1 h.h2 h.h3 xs.length
  rwa [List.take_of_length_le (by rw [iv_length]; exact Nat.le_refl _)] at this
theorem Cpy.own {lo hi X : Nat} {s : Int} {ring : Bool} {b : Nat} {xs : List Int} {w : World} (h : Cpy lo hi X s ring b xs w) : Own lo hi w 3 (some ⟨b, 0, none⟩) xs.length :=
  ⟨h.h3, fun _ => ⟨b, _, rfl, h.h1, h.h2, h.arr, by rw [iv_length]; exact Nat.le_refl _⟩⟩
/-- the copy just made, and its box, in one new block -/
theorem Cpy.made {w : World} {lo : Nat} {s : Int} {ring : Bool} {b : Nat} {xs : List Int} (h : OwnArr w b 3 (iv xs)) (h1 : lo ≤ b) :
    Cpy lo (w.heap.size + 1) w.heap.size s ring b xs (w.alloc (.cells #[.int .i64 s, .bool ring, .slice (some ⟨b, 0, none⟩) xs.length xs.length] 28)) :=
  ⟨OwnArr.made w _ [_, _, _], h.alloc _, h1, by have := h.lt; omega, by simp⟩
end Go.Proofs.Ytoedcklgpmhnnaa
