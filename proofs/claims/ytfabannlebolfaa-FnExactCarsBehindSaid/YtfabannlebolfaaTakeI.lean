/- impl.TakeSeat, for every Row and all seats; both functions give the same Row. -/
import Derived.Test.YtfabannlebolfaaTake
import Derived.Test.YtfabannlebolfaaTakeF
namespace Go.Proofs.Ytfabannlebolfaa
open Go.RowKit

set_option maxRecDepth 4000 in
set_option maxHeartbeats 2000000 in
theorem takeI_bad (s : Int) (ring : Bool) (p : Option Addr) (cap : Nat) (xs : List Int) (k : Int) (w : World) (lo hi : Nat) (hin : Ri lo hi w p xs) (hlen : xs.length ≤ 1048576) (h : (seatB s ring xs k && !decide (k ∈ xs)) = false) :
    Calls Try.prog 39 #[rowV s ring p xs.length cap, .int .i64 k] w (MadeRow w 0 false [] false) := by
  have hE := Beg.start w s ring p xs.length cap
  have I := fun (w' : World) (h' : Below w.heap.size w w') => isSeatOf_any s ring p cap xs k w' lo hi (hin.below h' hin.top) hlen
  have J := fun (w' : World) (h' : Below w.heap.size w w') => isTaken_any s ring p cap xs k w' lo hi (hin.below h' hin.top) hlen
  have HE := Lib.hid hE
  replace I := Lib.hid I
  replace J := Lib.hid J
  clear hE hin
  unfold MadeRow
  cases hs : seatB s ring xs k with
  | false =>
    rw [hs] at I
    clear h hs J
    go_enter Try.func39, Try.ntmps39
    go_wp2_with fail
    refine (I.out _ HE.out.bel).mono ?_
    rintro e w1 ⟨rfl, hb1⟩
    have HE1 := Lib.hid (HE.out.next hb1)
    obtain ⟨z0, z1, z2, y0, y1, y2⟩ := HE1.out.res.three
    clear HE hb1 I
    go_wp2_with fail
    exact ret_row2 Try.results39 rfl rfl (HE1.out.out _ _ _).1 rfl ⟨_, rfl, Out.none _ _, (HE1.out.out _ _ _).2⟩
  | true =>
    rw [hs] at I h
    simp only [Bool.true_and] at h
    have h' : decide (k ∈ xs) = true := by simpa using h
    rw [h'] at J
    clear h h' hs
    go_enter Try.func39, Try.ntmps39
    go_wp2_with fail
    refine (I.out _ HE.out.bel).mono ?_
    rintro e w1 ⟨rfl, hb1⟩
    have HE1 := Lib.hid (HE.out.next hb1)
    clear HE hb1 I
    obtain ⟨c0, c1, c2, -⟩ := HE1.out.row.three
    go_wp2_with fail
    refine (J.out _ HE1.out.bel).mono ?_
    rintro e w2 ⟨rfl, hb2⟩
    have HE2 := Lib.hid (HE1.out.next hb2)
    clear HE1 hb2 J c0 c1 c2
    obtain ⟨z0, z1, z2, y0, y1, y2⟩ := HE2.out.res.three
    go_wp2_with fail
    exact ret_row2 Try.results39 rfl rfl (HE2.out.out _ _ _).1 rfl ⟨_, rfl, Out.none _ _, (HE2.out.out _ _ _).2⟩

end Go.Proofs.Ytfabannlebolfaa
