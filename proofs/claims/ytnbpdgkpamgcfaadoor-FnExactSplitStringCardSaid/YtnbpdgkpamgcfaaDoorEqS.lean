/- The laws' own eqStringS on two slices that hold the same strings. -/
import Derived.Test.YtnbpdgkpamgcfaaDoorInStrs
import Derived.Test.YtnbpdgkpamgcfaaDoorOwnArr
import Derived.Test.YtnbpdgkpamgcfaaDoorSum
import Derived.Deep.QuietTactic
import Derived.BigQuiet
import Derived.Deep.OwnRows
namespace Go.Proofs.YtnbpdgkpamgcfaaDoor
open Go.RowKit

set_option maxHeartbeats 400000 in
theorem eqS_same (p p' : Option Addr) (cap cap' : Nat) (ss : List ByteArray) (w : World) (hin : InStrs w p ss) (hin' : InStrs w p' ss) :
    Calls Tryd.prog 31 #[.slice p ss.length cap, .slice p' ss.length cap'] w fun e w' => e = .returned (.bool true) ∧ Below w.heap.size w w' := by
  have hlen := hin.len
  by_cases hn : 0 < ss.length
  · obtain ⟨b, off, rfl, hb, hc⟩ := hin.cells hn
    obtain ⟨b', off', rfl, hb', hc'⟩ := hin'.cells hn
    clear hin hin'
    go_enter Tryd.func31, Tryd.ntmps31
    have HC : Hid (∀ i, i < ss.length → w.cell? ⟨b, off + i, none⟩ = some (.string (ss[i]?.getD ByteArray.empty))) := hc
    have HC' : Hid (∀ i, i < ss.length → w.cell? ⟨b', off' + i, none⟩ = some (.string (ss[i]?.getD ByteArray.empty))) := hc'
    clear hc hc'
    go_wp2
    go_loopw [5] (fun i wr => ∃ (k : Nat), k ≤ ss.length ∧ i = .int .i64 k ∧ Below w.heap.size w wr) (fun i _ => ss.length - (intOf i).toNat)
    case atStart => exact ⟨0, Nat.zero_le _, rfl, Below.refl _ _⟩
    case round =>
      obtain ⟨k, hk, rfl, hbl⟩ := hrel
      by_cases hlt : k < ss.length
      · have hcell := (hbl.cell (p := ⟨b, off + k, none⟩) hb).trans (HC.out k hlt)
        have hcell' := (hbl.cell (p := ⟨b', off' + k, none⟩) hb').trans (HC'.out k hlt)
        obtain ⟨s, hs⟩ : ∃ s, s = ss[k]?.getD ByteArray.empty := ⟨_, rfl⟩
        rw [← hs] at hcell hcell'
        clear hs
        have hk0 : (0 : Int) ≤ (k : Int) := by omega
        have hk1 : (k : Int) < (ss.length : Int) := by omega
        go_wp2
        go_quiet (fail)
        go_wp2
        go_roundw
        case rel => exact ⟨k + 1, by omega, by go_num, bel_drewN hbl _⟩
        case measure => simp [intOf]; omega
      · go_wp2
        go_ret
        exact ⟨rfl, hbl⟩
  · have hz : ss = [] := List.length_eq_zero_iff.1 (by omega)
    subst hz
    clear hin hin' hlen hn
    go_enter Tryd.func31, Tryd.ntmps31
    go_wp2
    refine wp_loop_rounds 1 ?_
    rw [rounds_succ]
    go_wp2
    go_ret
    exact ⟨rfl, Below.refl _ _⟩
end Go.Proofs.YtnbpdgkpamgcfaaDoor
