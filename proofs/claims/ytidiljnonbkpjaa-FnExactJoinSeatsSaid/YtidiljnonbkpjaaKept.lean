/- spec.l2Kept: a Row, if it is valid. -/
import Derived.Test.YtidiljnonbkpjaaMade
import Derived.Test.YtidiljnonbkpjaaIsRow
namespace Go.Proofs.Ytidiljnonbkpjaa
open Go.RowKit

set_option maxHeartbeats 1600000 in
theorem kept_any (s : Int) (ring : Bool) (p : Option Addr) (cap : Nat) (xs : List Int) (w : World) (lo hi : Nat) (hin : Ri lo hi w p xs) (hlen : xs.length ≤ 1048576) (m : Nat) (hm : xs.length = m) (B : Bool) (hB : rowB s ring xs = B) :
    Calls Try.prog 39 #[rowV s ring p m cap] w fun e w' => e = .returned (.tuple #[if B then rowV s ring p m cap else .agg #[.int .i64 0, .bool false, .slice none 0 0], .bool B]) ∧ Below w.heap.size w w' := by
  subst hm
  have hE := Beg.start w s ring p xs.length cap
  have R := fun (w' : World) (h' : Below w.heap.size w w') => l2Row_any s ring p cap xs w' lo hi (hin.below h' hin.top) hlen
  rw [hB] at R
  have HE := Lib.hid hE
  replace R := Lib.hid R
  clear hE hin
  obtain ⟨m, hm⟩ : ∃ m, xs.length = m := ⟨_, rfl⟩
  rw [hm] at HE R ⊢
  clear hm hB
  cases B with
  | true =>
    go_enter Try.func39, Try.ntmps39
    go_wp2_with fail
    refine (R.out _ HE.out.bel).mono ?_
    rintro e w1 ⟨rfl, hb1⟩
    have HE1 := Lib.hid (HE.out.next hb1)
    obtain ⟨z0, z1, z2, y0, y1, y2⟩ := HE1.out.res.three
    obtain ⟨c0, c1, c2, -⟩ := HE1.out.row.three
    clear HE hb1 R
    go_wp2_with fail
    exact ret_row2 Try.results39 rfl rfl (HE1.out.out _ _ _).1 rfl ⟨rfl, (HE1.out.out _ _ _).2⟩
  | false =>
    go_enter Try.func39, Try.ntmps39
    go_wp2_with fail
    refine (R.out _ HE.out.bel).mono ?_
    rintro e w1 ⟨rfl, hb1⟩
    have HE1 := Lib.hid (HE.out.next hb1)
    obtain ⟨z0, z1, z2, y0, y1, y2⟩ := HE1.out.res.three
    clear HE hb1 R
    go_wp2_with fail
    exact ret_row2 Try.results39 rfl rfl (HE1.out.out _ _ _).1 rfl ⟨rfl, (HE1.out.out _ _ _).2⟩
end Go.Proofs.Ytidiljnonbkpjaa
