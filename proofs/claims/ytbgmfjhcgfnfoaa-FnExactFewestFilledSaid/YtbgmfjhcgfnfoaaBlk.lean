/- spec.BlocksOf and impl.BlocksOf, for every Row. -/
import Derived.Test.YtbgmfjhcgfnfoaaBlkS
import Derived.Test.YtbgmfjhcgfnfoaaBlkI
namespace Go.Proofs.Ytbgmfjhcgfnfoaa
open Go.RowKit

theorem blocksOf_both (s : Int) (ring : Bool) (xs : List Int) : ∃ (L : List (Int × Int)) (B : Bool), L.length ≤ 24 ∧
    (∀ (p : Option Addr) (cap : Nat) (w : World) (lo hi : Nat), Ri lo hi w p xs → xs.length ≤ 1048576 → Calls Try.prog 23 #[rowV s ring p xs.length cap] w fun e w' => ∃ v, e = .returned (.tuple #[v, .bool B]) ∧ OutP w.heap.size w' v L ∧ Below w.heap.size w w') ∧
    (∀ (p : Option Addr) (cap : Nat) (w : World) (lo hi : Nat), Ri lo hi w p xs → xs.length ≤ 1048576 → Calls Try.prog 24 #[rowV s ring p xs.length cap] w fun e w' => ∃ v, e = .returned (.tuple #[v, .bool B]) ∧ OutP w.heap.size w' v L ∧ Below w.heap.size w w') := by
  cases h : fillB s ring xs with
  | true =>
    obtain ⟨n, S, rfl, rfl, h2, hn, h3⟩ := fillB_is h
    refine ⟨prs (runsM n ring fun k => !lonM n ring S k), true, ?_, fun p cap w lo hi hin _ => blocksS_ok n ring p cap S w lo hi hin h2 hn h3, fun p cap w lo hi hin _ => blocksI_ok n ring p cap S w lo hi hin h2 hn h3⟩
    unfold prs runsM
    rw [List.length_map, List.length_map]
    have := tk_length_le n (startM n ring fun k => !lonM n ring S k)
    omega
  | false =>
    exact ⟨[], false, by simp, fun p cap w lo hi hin hl => blocksS_no s ring p cap xs w lo hi hin hl h, fun p cap w lo hi hin hl => blocksI_no s ring p cap xs w lo hi hin hl h⟩
end Go.Proofs.Ytbgmfjhcgfnfoaa
