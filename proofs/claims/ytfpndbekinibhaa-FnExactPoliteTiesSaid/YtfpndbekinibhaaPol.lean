/- Polite seats: impl.politeSeats and spec.l3Polite, for every valid Row. -/
import Derived.Test.YtfpndbekinibhaaFarth
import Derived.Test.YtfpndbekinibhaaFiltF
import Derived.Test.YtfpndbekinibhaaFar
import Derived.Maps.AppendAt
import Derived.StillTailTactics
namespace Go.Proofs.Ytfpndbekinibhaa
open Go.RowKit

set_option maxHeartbeats 800000 in
theorem freeI_ok (n : Nat) (ring : Bool) (p : Option Addr) (cap : Nat) (S : Nat → Bool) (w : World) (lo hi : Nat) (hin : Ri lo hi w p (ints (tk n S))) (h2 : 2 ≤ n) (hn : n ≤ 24) (h3 : ring = true → 3 ≤ n) :
    Calls Try.prog 68 #[rowV n ring p (ints (tk n S)).length cap] w fun e w' => ∃ v, e = .returned (.tuple #[v, .bool true]) ∧ Out w.heap.size w' v (ints (tk n fun q => !S q)) ∧ Below w.heap.size w w' := by
  have hlen := ints_tk_len n S
  have hb := box_below w n ring p (ints (tk n S)).length cap 31
  have R := Lib.hid (seatsFree_any n ring p cap S (fun q => !S q) _ lo hi (hin.below hb hin.top) h2 hn h3 (fun k hk w'' hb' => by
        have := isFree_any n ring p cap (ints (tk n S)) k w'' lo hi ((hin.below hb hin.top).bel hb') (by omega)
        rw [has_tk hk] at this
        exact this))
  have HB := Lib.hid hb
  clear hb hin hlen
  obtain ⟨m, hm⟩ : ∃ m, (ints (tk n S)).length = m := ⟨_, rfl⟩
  rw [hm] at R HB ⊢
  go_enter Try.func68, Try.ntmps68
  go_wp2_with fail
  refine R.out.mono ?_
  rintro e w1 ⟨v, rfl, hO, hb1⟩
  have HO := Lib.hid (hO.mono (by have := HB.out.size; omega : w.heap.size ≤ _))
  clear hO
  go_wp2_with fail
  go_ret2
  exact ⟨v, rfl, HO.out, HB.out.trans (hb1.mono HB.out.size)⟩

set_option maxHeartbeats 800000 in
theorem seatsFree_no (s : Int) (ring : Bool) (p : Option Addr) (cap : Nat) (xs : List Int) (fv : Value) (w : World) (lo hi : Nat) (hin : Ri lo hi w p xs) (hlen : xs.length ≤ 1048576) (hr : rowB s ring xs = false) :
    Calls Try.prog 82 #[rowV s ring p xs.length cap, fv] w fun e w' => ∃ v, e = .returned (.tuple #[v, .bool false]) ∧ Out w.heap.size w' v [] ∧ Below w.heap.size w w' := by
  have hb := box_below w s ring p xs.length cap 31
  have hst := ((Below.refl w.heap.size w).alloc (Nat.le_refl _) (.cells #[.int .i64 s, .bool ring, .slice p xs.length cap] 31)).alloc (by simp) (.cells #[] 3)
  have R := Lib.hid (isRow_any s ring p cap xs _ lo hi (hin.bel hst) hlen)
  rw [hr] at R
  have HB := Lib.hid hst
  have ho := (Out.nilLit (w.alloc (.cells #[.int .i64 s, .bool ring, .slice p xs.length cap] 31))).mono (by simp : w.heap.size ≤ _)
  have hs : (w.alloc (.cells #[.int .i64 s, .bool ring, .slice p xs.length cap] 31)).heap.size = w.heap.size + 1 := by simp
  rw [hs] at ho
  have HO := Lib.hid ho
  clear hb hin hr hst ho hs
  go_enter Try.func82, Try.ntmps82
  go_wp2_with fail
  refine R.out.mono ?_
  rintro e w1 ⟨rfl, hb1⟩
  have HO1 := Lib.hid (HO.out.below hb1)
  have HB1 := Lib.hid (HB.out.trans (hb1.mono HB.out.size))
  clear HO HB hb1 R
  go_wp2_with fail
  go_ret2
  exact ⟨_, rfl, HO1.out, HB1.out⟩
set_option maxHeartbeats 800000 in
theorem freeI_no (s : Int) (ring : Bool) (p : Option Addr) (cap : Nat) (xs : List Int) (w : World) (lo hi : Nat) (hin : Ri lo hi w p xs) (hlen : xs.length ≤ 1048576) (hr : rowB s ring xs = false) :
    Calls Try.prog 68 #[rowV s ring p xs.length cap] w fun e w' => ∃ v, e = .returned (.tuple #[v, .bool false]) ∧ Out w.heap.size w' v [] ∧ Below w.heap.size w w' := by
  have hb := box_below w s ring p xs.length cap 31
  have R := Lib.hid (fun fv => seatsFree_no s ring p cap xs fv _ lo hi (hin.below hb hin.top) hlen hr)
  have HB := Lib.hid hb
  clear hb hin hr
  go_enter Try.func68, Try.ntmps68
  go_wp2_with fail
  refine (R.out _).mono ?_
  rintro e w1 ⟨v, rfl, hO, hb1⟩
  have HO := Lib.hid (hO.mono (by have := HB.out.size; omega : w.heap.size ≤ _))
  clear hO
  go_wp2_with fail
  go_ret2
  exact ⟨v, rfl, HO.out, HB.out.trans (hb1.mono HB.out.size)⟩

set_option maxHeartbeats 1000000 in
theorem politeI_any (n : Nat) (ring : Bool) (p : Option Addr) (cap : Nat) (S : Nat → Bool) (least : Nat) (w : World) (lo hi : Nat) (hin : Ri lo hi w p (ints (tk n S))) (h2 : 2 ≤ n) (hn : n ≤ 24) (h3 : ring = true → 3 ≤ n) (hle : least ≤ 24) :
    Calls Try.prog 51 #[rowV n ring p (ints (tk n S)).length cap, .int .i64 least] w fun e w' => ∃ v, e = .returned v ∧ Out w.heap.size w' v (ints (polM n ring S least)) ∧ Below w.heap.size w w' := by
  have hlen := ints_tk_len n S
  have hb := box_below w n ring p (ints (tk n S)).length cap 31
  have FR := Lib.hid (freeI_ok n ring p cap S _ lo hi (hin.below hb hin.top) h2 hn h3)
  have FA := Lib.hid (fun (q : Option Addr) (c : Nat) (w' : World) (lo' hi' : Nat) (hb' : Below w.heap.size w w') (hq : Ri lo' hi' w' q (ints (tk n fun q => !S q))) => farthest_any (farM n ring (tk n S)) n (rowV n ring p (ints (tk n S)).length cap) (tk n fun q => !S q) q c least w' lo' hi' hq (fun x hx => (mem_tk.1 hx).1) (by have := tk_length_le n fun q => !S q; omega) (fun x => by have := farM_le n ring (tk n S) x; omega) hle
    (fun a ha w'' hb'' => by
      have h := farI_any n ring p cap (tk n S) a w'' lo hi (hin.below (hb'.trans (hb''.mono hb'.size)) hin.top) (fun x hx => (mem_tk.1 hx).1) (by have := tk_length_le n S; omega) hn ha
      rw [ints_length]; exact h))
  have HX := Lib.hid (OwnArr.made w 31 [.int .i64 n, .bool ring, .slice p (ints (tk n S)).length cap])
  have HB := Lib.hid hb
  have hel := ints_length (tk n fun q => !S q)
  obtain ⟨m, hm⟩ : ∃ m, (ints (tk n S)).length = m := ⟨_, rfl⟩
  rw [hm] at FR FA HX HB ⊢
  obtain ⟨F, hF⟩ : ∃ F, (tk n fun q => !S q) = F := ⟨_, rfl⟩
  have hpol : polM n ring S least = atM (farM n ring (tk n S)) F (mostM (farM n ring (tk n S)) F least) := by
    rw [← hF]; rfl
  rw [hpol]
  rw [hF] at FR FA hel
  clear hb hin hlen h3 hm hF hpol
  go_enter Try.func51, Try.ntmps51
  go_wp2_with fail
  refine FR.out.mono ?_
  rintro e w1 ⟨v, rfl, hO, hb1⟩
  obtain ⟨q, c, rfl, -, -, hq, -⟩ := hO.rd
  rw [hel]
  have HX1 := Lib.hid (HX.out.below hb1 HX.out.lt)
  have HB1 := Lib.hid (HB.out.trans (hb1.mono HB.out.size))
  have A := Lib.hid (FA.out q c w1 _ _ HB1.out hq)
  clear hO hq HX HB hb1 FR FA
  obtain ⟨c0, c1, c2, -⟩ := HX1.out.three
  go_wp2_with fail
  refine A.out.mono ?_
  rintro e w2 ⟨v, rfl, hO, hb2⟩
  have HO := Lib.hid (hO.mono (by have := HB1.out.size; omega : w.heap.size ≤ _))
  clear hO
  go_wp2_with fail
  go_ret
  exact ⟨v, rfl, HO.out, HB1.out.trans (hb2.mono HB1.out.size)⟩

set_option maxHeartbeats 1000000 in
theorem politeI_bad (s : Int) (ring : Bool) (p : Option Addr) (cap : Nat) (xs : List Int) (least : Nat) (w : World) (lo hi : Nat) (hin : Ri lo hi w p xs) (hlen : xs.length ≤ 1048576) (hr : rowB s ring xs = false) (hle : least ≤ 24) :
    Calls Try.prog 51 #[rowV s ring p xs.length cap, .int .i64 least] w fun e w' => ∃ v, e = .returned v ∧ Out w.heap.size w' v [] ∧ Below w.heap.size w w' := by
  have hb := box_below w s ring p xs.length cap 31
  have FR := Lib.hid (freeI_no s ring p cap xs _ lo hi (hin.below hb hin.top) hlen hr)
  have FA := Lib.hid (fun (q : Option Addr) (c : Nat) (w' : World) (lo' hi' : Nat) (hq : Ri lo' hi' w' q (ints [])) => farthest_any (fun _ => 0) 0 (rowV s ring p xs.length cap) [] q c least w' lo' hi' hq (fun x hx => by cases hx) (by simp) (fun x => by omega) hle
    (fun a ha w'' hb'' => by omega))
  have HX := Lib.hid (OwnArr.made w 31 [.int .i64 s, .bool ring, .slice p xs.length cap])
  have HB := Lib.hid hb
  clear hb hin hlen hr
  go_enter Try.func51, Try.ntmps51
  go_wp2_with fail
  refine FR.out.mono ?_
  rintro e w1 ⟨v, rfl, hO, hb1⟩
  obtain ⟨q, c, rfl, -, -, hq, -⟩ := hO.rd
  have HX1 := Lib.hid (HX.out.below hb1 HX.out.lt)
  have HB1 := Lib.hid (HB.out.trans (hb1.mono HB.out.size))
  have A := Lib.hid (FA.out q c w1 _ _ hq)
  clear hO hq HX HB hb1 FR FA
  obtain ⟨c0, c1, c2, -⟩ := HX1.out.three
  go_wp2_with fail
  refine A.out.mono ?_
  rintro e w2 ⟨v, rfl, hO, hb2⟩
  have HO := Lib.hid (hO.mono (by have := HB1.out.size; omega : w.heap.size ≤ _))
  clear hO
  go_wp2_with fail
  go_ret
  exact ⟨v, rfl, HO.out, HB1.out.trans (hb2.mono HB1.out.size)⟩
end Go.Proofs.Ytfpndbekinibhaa
