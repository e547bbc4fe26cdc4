/- spec.l2Made; spec.OtherSeats and impl.OtherSeats, for every Row: both give the same Row. -/
import Derived.Test.YtdlegjmmidkjnaaFreeS
import Derived.Test.YtdlegjmmidkjnaaRowOf
import Derived.Deep.RegionWith
namespace Go.Proofs.Ytdlegjmmidkjnaa
open Go.RowKit

/-- what a function that makes a Row gives: the Row and a flag -/
def MadeRow (w : World) (s : Int) (ring : Bool) (L : List Int) (B : Bool) (e : Ending) (w' : World) : Prop :=
  ∃ v, e = .returned (.tuple #[.agg #[.int .i64 s, .bool ring, v], .bool B]) ∧ Out w.heap.size w' v L ∧ Below w.heap.size w w'
theorem Out.none (B : Nat) (w : World) : Out B w (.slice none 0 0) [] := ⟨rfl, .inl ⟨rfl, rfl⟩⟩

set_option maxHeartbeats 800000 in
theorem l2Made_any (s : Int) (ring : Bool) (p : Option Addr) (m cap : Nat) (q : Option Addr) (k c : Nat) (w : World) :
    Calls Try.prog 27 #[rowV s ring p m cap, .slice q k c] w fun e w' => e = .returned (rowV s ring q k c) ∧ Below w.heap.size w w' := by
  have HZ : OwnArr ((w.alloc (.cells #[Value.int .i64 s, Value.bool ring, Value.slice p m cap] 26)).alloc (.cells #[Value.int .i64 s, Value.bool ring, Value.slice q k c] 26)) (w.heap.size + 1) 26 [.int .i64 s, .bool ring, .slice q k c] := OwnArr.mk' rfl (by simp)
  go_enter Try.func27, Try.ntmps27
  go_wp2_with fail
  refine ret_row Try.results27 rfl HZ rfl ⟨rfl, ?_⟩
  exact ((Below.refl _ _).alloc (Nat.le_refl _) _).alloc (by simp) _

set_option maxHeartbeats 800000 in
theorem otherS_bad (s : Int) (ring : Bool) (p : Option Addr) (cap : Nat) (xs : List Int) (w : World) (lo hi : Nat) (hin : Ri lo hi w p xs) (hlen : xs.length ≤ 1048576) (hr : rowB s ring xs = false) :
    Calls Try.prog 15 #[rowV s ring p xs.length cap] w (MadeRow w 0 false [] false) := by
  have hb := box_below w s ring p xs.length cap 26
  have hb2 : Below w.heap.size w ((w.alloc (.cells #[Value.int .i64 s, Value.bool ring, Value.slice p xs.length cap] 26)).alloc (.cells #[Value.int .i64 0, Value.bool false, Value.slice none 0 0] 26)) := hb.alloc hb.size _
  have R := Lib.hid (l2Row_any s ring p cap xs _ lo hi (hin.below hb2 hin.top) hlen)
  rw [hr] at R
  have HZ := Lib.hid (OwnArr.mk' (w := w.alloc (.cells #[Value.int .i64 s, Value.bool ring, Value.slice p xs.length cap] 26)) (n := w.heap.size + 1) (e := 26) (C := #[Value.int .i64 0, Value.bool false, Value.slice none 0 0]) (xs := [.int .i64 0, .bool false, .slice none 0 0]) rfl (by simp))
  have HB := Lib.hid hb2
  clear hb hb2 hin hr
  unfold MadeRow
  go_enter Try.func15, Try.ntmps15
  go_wp2_with fail
  refine R.out.mono ?_
  rintro e w1 ⟨rfl, hb1⟩
  have HZ1 := Lib.hid (HZ.out.below hb1 HZ.out.lt)
  have HB1 := Lib.hid (HB.out.trans (hb1.mono HB.out.size))
  clear HZ HB hb1 R
  obtain ⟨z0, z1, z2, y0, y1, y2⟩ := HZ1.out.three
  go_wp2_with fail
  refine ret_row2 Try.results15 rfl rfl (((HZ1.out.set 0 _).set 1 _).set 2 _) rfl ⟨_, rfl, Out.none _ _, ?_⟩
  exact ((HB1.out.setCell (by show _ ≤ w.heap.size + 1; omega) _).setCell (by show _ ≤ w.heap.size + 1; omega) _).setCell (by show _ ≤ w.heap.size + 1; omega) _

set_option maxRecDepth 4000 in
set_option maxHeartbeats 2000000 in
theorem otherS_any (n : Nat) (ring : Bool) (p : Option Addr) (cap : Nat) (S : Nat → Bool) (w : World) (lo hi : Nat) (hin : Ri lo hi w p (ints (tk n S))) (h2 : 2 ≤ n) (hn : n ≤ 24) (h3 : ring = true → 3 ≤ n) :
    Calls Try.prog 15 #[rowV n ring p (ints (tk n S)).length cap] w (MadeRow w n ring (ints (tk n fun q => !S q)) true) := by
  have hlen := ints_tk_len n S
  have hb := box_below w n ring p (ints (tk n S)).length cap 26
  have hb2 : Below w.heap.size w ((w.alloc (.cells #[Value.int .i64 n, Value.bool ring, Value.slice p (ints (tk n S)).length cap] 26)).alloc (.cells #[Value.int .i64 0, Value.bool false, Value.slice none 0 0] 26)) := hb.alloc hb.size _
  have R := Lib.hid (l2Row_any n ring p cap (ints (tk n S)) _ lo hi (hin.below hb2 hin.top) (by omega))
  rw [rowB_of h2 hn h3] at R
  have FR := Lib.hid (fun w' (h : Ri lo hi w' p (ints (tk n S))) => freeS_any n ring p cap S w' lo hi h hn)
  have HZ := Lib.hid (OwnArr.mk' (w := w.alloc (.cells #[Value.int .i64 n, Value.bool ring, Value.slice p (ints (tk n S)).length cap] 26)) (n := w.heap.size + 1) (e := 26) (C := #[Value.int .i64 0, Value.bool false, Value.slice none 0 0]) (xs := [.int .i64 0, .bool false, .slice none 0 0]) rfl (by simp))
  have HX := Lib.hid ((OwnArr.made w 26 [.int .i64 n, .bool ring, .slice p (ints (tk n S)).length cap]).alloc (.cells #[Value.int .i64 0, Value.bool false, Value.slice none 0 0] 26))
  have HI := Lib.hid (hin.below hb2 hin.top)
  have HB := Lib.hid hb2
  clear hb hb2 hin h3 hlen
  obtain ⟨m, hm⟩ : ∃ m, (ints (tk n S)).length = m := ⟨_, rfl⟩
  rw [hm] at R FR HX HI HB HZ ⊢
  clear hm
  unfold MadeRow
  go_enter Try.func15, Try.ntmps15
  go_wp2_with fail
  refine R.out.mono ?_
  rintro e w1 ⟨rfl, hb1⟩
  have HZ1 := Lib.hid (HZ.out.below hb1 HZ.out.lt).drew
  have HX1 := Lib.hid (HX.out.below hb1 (by simp; omega))
  have HI1 := Lib.hid ((HI.out.bel hb1).bel ((Below.refl _ w1).drew))
  have HB1 := Lib.hid (HB.out.trans (hb1.mono HB.out.size)).drew
  clear HZ HX HI HB hb1 R
  obtain ⟨c0, c1, c2, -⟩ := HX1.out.three
  have HX2 := Lib.hid HX1.out.drew
  clear HX1
  go_wp2_with fail
  go_region_with (first
    | (go_at_call 36; refine (FR.out _ HI1.out).mono ?_; rintro e w2 ⟨v, rfl, hO2, hb2⟩; obtain ⟨g, gc, rfl, -⟩ := hO2.rd; have HZ2 := Lib.hid (HZ1.out.below hb2 HZ1.out.lt); have HX3 := Lib.hid (HX2.out.below hb2 HX2.out.lt); have HB2 := Lib.hid (HB1.out.trans (hb2.mono HB1.out.size)); have HO2 := Lib.hid (hO2.mono (by have := HB1.out.size; omega : w.heap.size ≤ _)); obtain ⟨d0, d1, d2, -⟩ := HX3.out.three; clear hO2 hb2)
    | (go_at_call 27; refine (l2Made_any _ _ _ _ _ _ _ _ _).mono ?_; rintro e w3 ⟨rfl, hb3⟩; have HZ3 := Lib.hid (HZ2.out.below hb3 HZ2.out.lt); have HB3 := Lib.hid (HB2.out.trans (hb3.mono HB2.out.size)); have HO3 := Lib.hid (HO2.out.below hb3); obtain ⟨z0, z1, z2, y0, y1, y2⟩ := HZ3.out.three; clear hb3))
  all_goals
    go_wp2_with fail
    refine ret_row2 Try.results15 rfl rfl (((HZ3.out.set 0 _).set 1 _).set 2 _) rfl ⟨_, rfl, ?_, ?_⟩
    · have hne := own_ne HO3.out HZ3.out
      exact ((HO3.out.other (a := ⟨w.heap.size + 1, 0, none⟩) hne _).other (a := ⟨w.heap.size + 1, 1, none⟩) hne _).other (a := ⟨w.heap.size + 1, 2, none⟩) hne _
    · exact ((HB3.out.setCell (by show _ ≤ w.heap.size + 1; omega) _).setCell (by show _ ≤ w.heap.size + 1; omega) _).setCell (by show _ ≤ w.heap.size + 1; omega) _
end Go.Proofs.Ytdlegjmmidkjnaa
