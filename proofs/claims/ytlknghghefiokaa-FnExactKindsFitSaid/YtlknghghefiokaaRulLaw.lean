/- What a law on a Rule keeps through its calls: the Rule that came in and its box; the copy that the law hands to the program. Plain lemmas. -/
import Derived.Test.YtlknghghefiokaaRulHelp
import Derived.Deep.RegionWith
namespace Go.Proofs.Ytlknghghefiokaa
open Go.RowKit

/-- the Rule that came in, in its box, in the world w of a law that began in W -/
structure EnvU (W : World) (lo hi A : Nat) (s : Int) (p : Option Addr) (cap : Nat) (xs : List Int) (w : World) : Prop where
  inn : Ri lo hi w p xs
  low : hi ≤ W.heap.size
  box : OwnArr w A 24 [.int .i64 s, .slice p xs.length cap]
  bel : Below W.heap.size W w
  here : W.heap.size ≤ A
theorem EnvU.start {W : World} {lo hi : Nat} {s : Int} {p : Option Addr} {cap : Nat} {xs : List Int} (h : Ri lo hi W p xs) :
    EnvU W lo hi W.heap.size s p cap xs (W.alloc (.cells #[.int .i64 s, .slice p xs.length cap] 24)) :=
  have hb : Below W.heap.size W (W.alloc (.cells #[.int .i64 s, .slice p xs.length cap] 24)) := (Below.refl _ _).alloc (Nat.le_refl _) _
  ⟨h.bel hb, h.top, OwnArr.made W _ [_, _], hb, Nat.le_refl _⟩
theorem EnvU.next {W : World} {lo hi A : Nat} {s : Int} {p : Option Addr} {cap : Nat} {xs : List Int} {w w' : World} (h : EnvU W lo hi A s p cap xs w) (hb : Below w.heap.size w w') : EnvU W lo hi A s p cap xs w' :=
  ⟨h.inn.bel hb, h.low, h.box.below hb h.box.lt, h.bel.trans (hb.mono h.bel.size), h.here⟩
theorem EnvU.keep {W : World} {lo hi A : Nat} {s : Int} {p : Option Addr} {cap : Nat} {xs : List Int} {w w' : World} (h : EnvU W lo hi A s p cap xs w) {a b : Nat} (hk : Keep a b w w') (ha : A < a) : EnvU W lo hi A s p cap xs w' := by
  have hlt := h.box.lt
  have hhere := h.here
  have hlow := h.low
  refine ⟨h.inn.keep hk (.inl (by omega)), h.low, ?_, ?_, h.here⟩
  · have := h.box
    unfold OwnArr at *
    rw [hk.block A hlt (.inl ha)]; exact this
  · exact h.bel.trans ⟨hk.os, hk.tape, hk.output, hk.size, fun k hk' => hk.block k (by have := h.bel.size; omega) (.inl (by omega))⟩

/-- the copy of the Rule that the law hands to the program: its box X, its data in a block from lo on -/
structure CpyU (lo hi X : Nat) (s : Int) (b : Nat) (xs : List Int) (w : World) : Prop where
  box : OwnArr w X 27 [.int .i64 s, .slice (some ⟨b, 0, none⟩) xs.length xs.length]
  arr : OwnArr w b 3 (iv xs)
  h1 : lo ≤ b
  h2 : b < hi
  h3 : hi ≤ w.heap.size
theorem CpyU.next {lo hi X : Nat} {s : Int} {b : Nat} {xs : List Int} {w w' : World} (h : CpyU lo hi X s b xs w) (hb : Below w.heap.size w w') : CpyU lo hi X s b xs w' :=
  ⟨h.box.below hb h.box.lt, h.arr.below hb h.arr.lt, h.h1, h.h2, Nat.le_trans h.h3 hb.size⟩
theorem CpyU.ri {lo hi X : Nat} {s : Int} {b : Nat} {xs : List Int} {w : World} (h : CpyU lo hi X s b xs w) : Ri lo hi w (some ⟨b, 0, none⟩) xs := by
  have := Rd.of_own h.arr h.h1 h.h2 h.h3 xs.length
  rwa [List.take_of_length_le (by rw [iv_length]; exact Nat.le_refl _)] at this
theorem CpyU.own {lo hi X : Nat} {s : Int} {b : Nat} {xs : List Int} {w : World} (h : CpyU lo hi X s b xs w) : Own lo hi w 3 (some ⟨b, 0, none⟩) xs.length :=
  ⟨h.h3, fun _ => ⟨b, _, rfl, h.h1, h.h2, h.arr, by rw [iv_length]; exact Nat.le_refl _⟩⟩
/-- the copy just made, and its box, in one new block -/
theorem CpyU.made {w : World} {lo : Nat} {s : Int} {b : Nat} {xs : List Int} (h : OwnArr w b 3 (iv xs)) (h1 : lo ≤ b) :
    CpyU lo (w.heap.size + 1) w.heap.size s b xs (w.alloc (.cells #[.int .i64 s, .slice (some ⟨b, 0, none⟩) xs.length xs.length] 27)) :=
  ⟨OwnArr.made w _ [_, _], h.alloc _, h1, by have := h.lt; omega, by simp⟩
end Go.Proofs.Ytlknghghefiokaa
