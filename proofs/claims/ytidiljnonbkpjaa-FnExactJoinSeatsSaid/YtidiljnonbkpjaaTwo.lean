/- Two Rows among a law's arguments; szRow with what is left of the bound. Plain lemmas and one contract. -/
import Derived.Test.YtidiljnonbkpjaaRowLaw
namespace Go.Proofs.Ytidiljnonbkpjaa
open Go.RowKit

theorem Env.start2 {W : World} {s : Int} {ring : Bool} {p : Option Addr} {cap : Nat} {xs : List Int} {s2 : Int} {ring2 : Bool} {p2 : Option Addr} {cap2 : Nat} {xs2 : List Int} (h : Ri 0 W.heap.size W p xs) (h2 : Ri 0 W.heap.size W p2 xs2) :
    Env W 0 W.heap.size W.heap.size s ring p cap xs ((W.alloc (.cells #[.int .i64 s, .bool ring, .slice p xs.length cap] 24)).alloc (.cells #[.int .i64 s2, .bool ring2, .slice p2 xs2.length cap2] 24)) ∧
    Env W 0 W.heap.size (W.heap.size + 1) s2 ring2 p2 cap2 xs2 ((W.alloc (.cells #[.int .i64 s, .bool ring, .slice p xs.length cap] 24)).alloc (.cells #[.int .i64 s2, .bool ring2, .slice p2 xs2.length cap2] 24)) := by
  have hb : Below W.heap.size W ((W.alloc (.cells #[.int .i64 s, .bool ring, .slice p xs.length cap] 24)).alloc (.cells #[.int .i64 s2, .bool ring2, .slice p2 xs2.length cap2] 24)) := ((Below.refl _ _).alloc (Nat.le_refl _) _).alloc (by simp) _
  exact ⟨⟨h.bel hb, h.top, (OwnArr.made W _ [_, _, _]).alloc _, hb, Nat.le_refl _⟩, ⟨h2.bel hb, h2.top, OwnArr.mk' rfl (by simp), hb, Nat.le_succ _⟩⟩

theorem stayJ {w w' : World} {g lo hi : Nat} {e : TypeId} {xs : List Value} (h : OwnArr w g e xs) (hk : Keep lo hi w w') (hd : g < lo ∨ hi ≤ g) : OwnArr w' g e xs := by
  have hlt := h.lt
  unfold OwnArr at *
  rw [hk.block g hlt hd]; exact h
theorem Cpy.keep {lo hi X : Nat} {s : Int} {ring : Bool} {b : Nat} {xs : List Int} {w w' : World} (h : Cpy lo hi X s ring b xs w) {a c : Nat} (hk : Keep a c w w') (h1 : c ≤ lo) (h2 : c ≤ X) : Cpy lo hi X s ring b xs w' :=
  ⟨stayJ h.box hk (.inr h2), stayJ h.arr hk (.inr (Nat.le_trans h1 h.h1)), h.h1, h.h2, Nat.le_trans h.h3 hk.size⟩
set_option maxHeartbeats 400000 in
theorem szI2_any (p : Option Addr) (cap n : Nat) (left : Nat) (w : World) (hn : n ≤ 9223372036854775807) (hleft : left ≤ 1048576) :
    Calls Try.prog 36 #[.slice p n cap, .int .i64 left] w fun e w' => e = .returned (.int .i64 (if n ≤ left then (left : Int) - (n : Int) else -1)) ∧ w = w' := by
  by_cases h : n ≤ left
  · have h' : ¬ ((left : Int) - (n : Int) < 0) := by omega
    go_enter Try.func36, Try.ntmps36
    go_wp2
    go_ret
    exact ⟨rfl, rfl⟩
  · have h' : ((left : Int) - (n : Int) < 0) := by omega
    go_enter Try.func36, Try.ntmps36
    go_wp2
    go_ret
    exact ⟨rfl, rfl⟩

set_option maxHeartbeats 400000 in
theorem szRow2_any (s : Int) (ring : Bool) (p : Option Addr) (n cap left : Nat) (w : World) (hn : n ≤ 9223372036854775807) (hleft : left ≤ 1048576) :
    Calls Try.prog 9 #[rowV s ring p n cap, .int .i64 left] w fun e w' => e = .returned (.int .i64 (if n ≤ left then (left : Int) - (n : Int) else -1)) ∧ Below w.heap.size w w' := by
  by_cases h : n ≤ left
  · have h' : ¬ ((left : Int) - (n : Int) < 0) := by omega
    go_enter Try.func9, Try.ntmps9
    go_wp2_with fail
    refine (szI2_any p cap n left _ hn hleft).mono ?_
    rintro e w1 ⟨rfl, rfl⟩
    rw [if_pos h]
    go_wp2_with fail
    go_ret
    exact ⟨rfl, (Below.refl _ _).alloc (Nat.le_refl _) _⟩
  · go_enter Try.func9, Try.ntmps9
    go_wp2_with fail
    refine (szI2_any p cap n left _ hn hleft).mono ?_
    rintro e w1 ⟨rfl, rfl⟩
    rw [if_neg h]
    go_wp2_with fail
    go_ret
    exact ⟨rfl, (Below.refl _ _).alloc (Nat.le_refl _) _⟩
end Go.Proofs.Ytidiljnonbkpjaa
