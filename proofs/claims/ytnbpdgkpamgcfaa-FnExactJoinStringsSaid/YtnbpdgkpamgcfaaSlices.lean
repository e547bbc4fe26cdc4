/- The laws' own helpers on slices of strings: szStringS, toStringS, eqStringS, for every slice within the lengths that are named. -/
import Derived.Test.YtnbpdgkpamgcfaaInStrs
import Derived.Test.YtnbpdgkpamgcfaaOwnArr
import Derived.Test.YtnbpdgkpamgcfaaSum
import Derived.Deep.QuietTactic
import Derived.BigQuiet
import Derived.Deep.OwnRows
namespace Go.Proofs.Ytnbpdgkpamgcfaa
open Go.RowKit

/-- what szStringS leaves -/
def szR (ss : List ByteArray) (left : Int) : Int := if (ss.length : Int) + (sizes ss : Int) ≤ left then left - ((ss.length : Int) + (sizes ss : Int)) else -1

set_option maxHeartbeats 400000 in
theorem sz_any (p : Option Addr) (cap : Nat) (ss : List ByteArray) (left : Int) (w : World) (hin : InStrs w p ss) (h0 : 0 ≤ left) (h1 : left ≤ 1048576) :
    Calls Try.prog 6 #[.slice p ss.length cap, .int .i64 left] w fun e w' => e = .returned (.int .i64 (szR ss left)) ∧ w = w' := by
  have hlen := hin.len
  by_cases hl : (ss.length : Int) ≤ left
  · by_cases hn : 0 < ss.length
    · obtain ⟨b, off, rfl, hb, hc⟩ := hin.cells hn
      have hmem := hin.each
      clear hin
      go_enter Try.func6, Try.ntmps6
      have hnn : ¬ left - (ss.length : Int) < 0 := by omega
      have HC : Hid (∀ i, i < ss.length → w.cell? ⟨b, off + i, none⟩ = some (.string (ss[i]?.getD ByteArray.empty))) := hc
      have HM : Hid (∀ s ∈ ss, s.size ≤ 9223372036854775807) := hmem
      clear hc hmem
      go_wp2
      go_loop [1, 5] (fun l i => ∃ (k : Nat) (q : Int), k ≤ ss.length ∧ i = .int .i64 k ∧ l = .int .i64 q ∧ Hid (q = left - (ss.length : Int) - (sizes (ss.take k) : Int)) ∧ 0 ≤ q ∧ q ≤ left) (fun _ i => ss.length - (intOf i).toNat)
      case atStart => exact ⟨0, _, Nat.zero_le _, rfl, rfl, by show _ = _; simp [sizes], by omega, by omega⟩
      case round =>
        obtain ⟨k, q, hk, rfl, rfl, HQ, hq0, hq1⟩ := hrel
        by_cases hlt : k < ss.length
        · obtain ⟨s, hs⟩ : ∃ s, s = ss[k]?.getD ByteArray.empty := ⟨_, rfl⟩
          have hcell := HC.out k hlt
          have hsz := HM.out _ (getD_mem ss k hlt)
          have hst := sizes_take ss k hlt
          have hle := sizes_le ss (k + 1)
          rw [← hs] at hcell hsz hst
          have HS : Hid (q - (s.size : Int) = left - (ss.length : Int) - (sizes (ss.take (k + 1)) : Int)) := by
            show _ = _
            have := HQ.out
            omega
          have HL : Hid (left - (ss.length : Int) - (sizes ss : Int) ≤ q - (s.size : Int)) := by
            show _ ≤ _
            have := HS.out
            omega
          clear hst hle hs
          by_cases hneg : q - (s.size : Int) < 0
          · go_wp2
            go_ret
            have := HL.out
            exact ⟨ret_int (by unfold szR; rw [if_neg (by omega)]), rfl⟩
          · go_wp2
            go_round
            case rel => exact ⟨k + 1, _, by omega, by go_num, rfl, HS, by omega, by omega⟩
            case measure => simp [intOf]; omega
        · have HE : Hid (q = left - (ss.length : Int) - (sizes ss : Int)) := by
            have := HQ.out
            rwa [sizes_all ss k (by omega)] at this
          go_wp2
          go_ret
          have := HE.out
          exact ⟨ret_int (by unfold szR; rw [if_pos (by omega)]; omega), rfl⟩
    · have hz : ss = [] := List.length_eq_zero_iff.1 (by omega)
      subst hz
      clear hin hlen hn hl
      go_enter Try.func6, Try.ntmps6
      go_wp2
      refine wp_loop_rounds 1 ?_
      rw [rounds_succ]
      go_wp2
      go_ret
      exact ⟨ret_int (by simp [szR, sizes]; omega), rfl⟩
  · clear hin
    have hneg : left - (ss.length : Int) < 0 := by omega
    go_enter Try.func6, Try.ntmps6
    go_wp2
    go_ret
    exact ⟨ret_int (by unfold szR; rw [if_neg (by omega)]), rfl⟩

set_option maxHeartbeats 400000 in
theorem eqS_same (p p' : Option Addr) (cap cap' : Nat) (ss : List ByteArray) (w : World) (hin : InStrs w p ss) (hin' : InStrs w p' ss) :
    Calls Try.prog 10 #[.slice p ss.length cap, .slice p' ss.length cap'] w fun e w' => e = .returned (.bool true) ∧ Below w.heap.size w w' := by
  have hlen := hin.len
  by_cases hn : 0 < ss.length
  · obtain ⟨b, off, rfl, hb, hc⟩ := hin.cells hn
    obtain ⟨b', off', rfl, hb', hc'⟩ := hin'.cells hn
    clear hin hin'
    go_enter Try.func10, Try.ntmps10
    have HC : Hid (∀ i, i < ss.length → w.cell? ⟨b, off + i, none⟩ = some (.string (ss[i]?.getD ByteArray.empty))) := hc
    have HC' : Hid (∀ i, i < ss.length → w.cell? ⟨b', off' + i, none⟩ = some (.string (ss[i]?.getD ByteArray.empty))) := hc'
    clear hc hc'
    go_wp2
    go_loopw [5] (fun i wr => ∃ (k : Nat), k ≤ ss.length ∧ i = .int .i64 k ∧ Below w.heap.size w wr) (fun i _ => ss.length - (intOf i).toNat)
    case atStart => exact ⟨0, Nat.zero_le _, rfl, Below.refl _ _⟩
    case round =>
      obtain ⟨k, hk, rfl, hbl⟩ := hrel
      by_cases hlt : k < ss.length
      · have hcell := (hbl.cell (p := ⟨b, off + k, none⟩) hb).trans (HC.out k hlt)
        have hcell' := (hbl.cell (p := ⟨b', off' + k, none⟩) hb').trans (HC'.out k hlt)
        obtain ⟨s, hs⟩ : ∃ s, s = ss[k]?.getD ByteArray.empty := ⟨_, rfl⟩
        rw [← hs] at hcell hcell'
        clear hs
        have hk0 : (0 : Int) ≤ (k : Int) := by omega
        have hk1 : (k : Int) < (ss.length : Int) := by omega
        go_wp2
        go_quiet (fail)
        go_wp2
        go_roundw
        case rel => exact ⟨k + 1, by omega, by go_num, bel_drewN hbl _⟩
        case measure => simp [intOf]; omega
      · go_wp2
        go_ret
        exact ⟨rfl, hbl⟩
  · have hz : ss = [] := List.length_eq_zero_iff.1 (by omega)
    subst hz
    clear hin hin' hlen hn
    go_enter Try.func10, Try.ntmps10
    go_wp2
    refine wp_loop_rounds 1 ?_
    rw [rounds_succ]
    go_wp2
    go_ret
    exact ⟨rfl, Below.refl _ _⟩

theorem info9 : (Try.prog.info? 9).map (fun i => (i.zero, i.size, i.bytes)) = some (some (.string ⟨#[]⟩), 1, 16) := by kernel_rfl

set_option maxHeartbeats 400000 in
theorem toS_any (p : Option Addr) (cap : Nat) (ss : List ByteArray) (w : World) (hin : InStrs w p ss) (hreach : ss.length ≤ 1048576) :
    Calls Try.prog 8 #[.slice p ss.length cap] w fun e w' => ∃ b, w.heap.size ≤ b ∧ e = .returned (.slice (some ⟨b, 0, none⟩) ss.length ss.length) ∧ InStrs w' (some ⟨b, 0, none⟩) ss ∧ Below w.heap.size w w' := by
  have hmk0 := @run_make_row' Try.prog 22 9 (.string ⟨#[]⟩) 16 Try.underlying22 info9 rfl .i64 .i64 ss.length (by omega) (by omega)
  rw [madeCells_one, ← filled_zero (fun i => .string (ss[i]?.getD ByteArray.empty)) (.string ⟨#[]⟩) ss.length] at hmk0
  obtain ⟨w1, hw1⟩ : ∃ w1, w1 = w.alloc (.cells (filled (fun i => .string (ss[i]?.getD ByteArray.empty)) (.string ⟨#[]⟩) ss.length 0).toArray 9) := ⟨_, rfl⟩
  have hown1 : OwnArr w1 w.heap.size 9 (filled (fun i => .string (ss[i]?.getD ByteArray.empty)) (.string ⟨#[]⟩) ss.length 0) := by rw [hw1]; exact OwnArr.made _ _ _
  have hbel1 : Below w.heap.size w w1 := by rw [hw1]; exact (Below.refl _ _).alloc (Nat.le_refl _) _
  have hmk := hmk0 w
  rw [← hw1] at hmk
  have hmem := hin.each
  have hn0 := hin.len
  have hcells := hin.cells
  clear hmk0 hw1 hin
  have HCE : Hid (0 < ss.length → ∃ b off, p = some ⟨b, off, none⟩ ∧ b < w.heap.size ∧ ∀ i, i < ss.length → w.cell? ⟨b, off + i, none⟩ = some (.string (ss[i]?.getD ByteArray.empty))) := hcells
  have HM : Hid (∀ s ∈ ss, s.size ≤ 9223372036854775807) := hmem
  have HO : Hid (OwnArr w1 w.heap.size 9 (filled (fun i => .string (ss[i]?.getD ByteArray.empty)) (.string ⟨#[]⟩) ss.length 0)) := hown1
  clear hcells hmem hown1
  go_enter Try.func8, Try.ntmps8
  go_wp2
  clear hmk
  go_loopw [4] (fun i wr => ∃ (k : Nat), k ≤ ss.length ∧ i = .int .i64 k ∧ OwnArr wr w.heap.size 9 (filled (fun i => .string (ss[i]?.getD ByteArray.empty)) (.string ⟨#[]⟩) ss.length k) ∧ Below w.heap.size w wr) (fun i _ => ss.length - (intOf i).toNat)
  case atStart => exact ⟨0, Nat.zero_le _, rfl, HO.out, hbel1⟩
  case round =>
    obtain ⟨k, hk, rfl, hown, hbl⟩ := hrel
    by_cases hlt : k < ss.length
    · obtain ⟨b, off, rfl, hb, hc⟩ := HCE.out (by omega)
      have hcell := (hbl.cell (p := ⟨b, off + k, none⟩) hb).trans (hc k hlt)
      have hold := hown.cell k
      rw [filled_get _ _ _ _ _ hlt, if_neg (by omega)] at hold
      have hfree := hown.free k
      have hset := hown.set k (.string (ss[k]?.getD ByteArray.empty))
      rw [filled_set (fun i => .string (ss[i]?.getD ByteArray.empty))] at hset
      obtain ⟨s, hs⟩ : ∃ s, s = ss[k]?.getD ByteArray.empty := ⟨_, rfl⟩
      rw [← hs] at hcell hset
      have HS : Hid (OwnArr (wr.setCell ⟨w.heap.size, k, none⟩ (.string s)) w.heap.size 9 (filled (fun i => .string (ss[i]?.getD ByteArray.empty)) (.string ⟨#[]⟩) ss.length (k + 1))) := hset
      have HO2 : Hid (OwnArr wr w.heap.size 9 (filled (fun i => .string (ss[i]?.getD ByteArray.empty)) (.string ⟨#[]⟩) ss.length k)) := hown
      clear hs hset hc hown HO
      go_wp2
      go_roundw
      case rel => exact ⟨k + 1, by omega, by go_num, HS.out, hbl.setCell (p := ⟨w.heap.size, k, none⟩) (Nat.le_refl _) _⟩
      case measure => simp [intOf]; omega
    · have HO2 : Hid (OwnArr wr w.heap.size 9 (filled (fun i => .string (ss[i]?.getD ByteArray.empty)) (.string ⟨#[]⟩) ss.length k)) := hown
      have hlt2 := hown.lt
      clear hown HO
      go_wp2
      go_ret
      refine ⟨w.heap.size, Nat.le_refl _, rfl, ⟨by omega, HM.out, fun h0 => ⟨w.heap.size, 0, rfl, hlt2, fun i hi => ?_⟩⟩, hbl⟩
      rw [Nat.zero_add, HO2.out.cell i, filled_get _ _ _ _ _ hi, if_pos (by omega)]
end Go.Proofs.Ytnbpdgkpamgcfaa
