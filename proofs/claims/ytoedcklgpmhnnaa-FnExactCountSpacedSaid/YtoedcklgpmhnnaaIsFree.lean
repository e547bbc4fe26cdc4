/- impl's isFree, for every Row. -/
import Derived.Test.YtoedcklgpmhnnaaHasI
namespace Go.Proofs.Ytoedcklgpmhnnaa
open Go.RowKit

theorem isFree_any (s : Int) (ring : Bool) (p : Option Addr) (cap : Nat) (xs : List Int) (x : Int) (w : World) (lo hi : Nat) (hin : Ri lo hi w p xs) (hlen : xs.length ≤ 1048576) :
    Calls Try.prog 79 #[rowV s ring p xs.length cap, .int .i64 x] w fun e w' => e = .returned (.bool (!decide (x ∈ xs))) ∧ Below w.heap.size w w' := by
  have hb := box_below w s ring p xs.length cap 28
  have I := Lib.hid (isTaken_any s ring p cap xs x _ lo hi (hin.bel hb) hlen)
  replace hb := Lib.hid hb
  clear hin
  obtain ⟨B, hB⟩ : ∃ B, decide (x ∈ xs) = B := ⟨_, rfl⟩
  rw [hB] at I ⊢
  clear hB
  go_enter Try.func79, Try.ntmps79
  go_wp2_with fail
  refine I.out.mono ?_
  rintro e w' ⟨rfl, hb2⟩
  go_wp2_with fail
  go_ret
  exact ⟨rfl, hb.out.trans (hb2.mono hb.out.size)⟩
end Go.Proofs.Ytoedcklgpmhnnaa
