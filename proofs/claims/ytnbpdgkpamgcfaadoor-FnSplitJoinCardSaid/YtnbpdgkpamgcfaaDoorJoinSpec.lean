/- spec.JoinStrings: the join and true where it is allowed, the empty text and false elsewhere, for every slice of strings of at most 1048576 bytes together and every separator. -/
import Derived.Test.YtnbpdgkpamgcfaaDoorJoinMath
import Derived.Test.YtnbpdgkpamgcfaaDoorSum
import Derived.Deep.QuietTactic
import Derived.BigQuiet
namespace Go.Proofs.YtnbpdgkpamgcfaaDoor
open Go.RowKit

def NoJoin (e : Ending) : Prop := e = .returned (.tuple #[.string ⟨#[]⟩, .bool false])

set_option maxHeartbeats 400000 in
theorem joinS_sep (p : Option Addr) (n cap : Nat) (sep : ByteArray) (w : World) (h : sep.size ≠ 1) (_hs : sep.size ≤ 9223372036854775807) :
    Calls Tryd.prog 26 #[.slice p n cap, .string sep] w fun e w' => NoJoin e ∧ w = w' := by
  have h1 : ((sep.size : Int) != 1) = true := by simp; omega
  have h2 : ((sep.size : Int) == 1) = false := by simp; omega
  clear h
  go_enter Tryd.func26, Tryd.ntmps26
  go_wp2
  go_ret2
  exact ⟨rfl, rfl⟩

set_option maxHeartbeats 400000 in
theorem joinS_none (p : Option Addr) (cap : Nat) (c : UInt8) (w : World) :
    Calls Tryd.prog 26 #[.slice p 0 cap, .string ⟨#[c]⟩] w fun e w' => NoJoin e ∧ w = w' := by
  go_enter Tryd.func26, Tryd.ntmps26
  go_wp2
  go_ret2
  exact ⟨rfl, rfl⟩

/-- what either function gives -/
def JoinEnd (c : UInt8) (ss : List ByteArray) (w : World) (e : Ending) (w' : World) : Prop :=
  (joinGood c ss = true → e = .returned (.tuple #[.string (joinP c ss ss.length), .bool true])) ∧ (joinGood c ss = false → NoJoin e) ∧ Below w.heap.size w w'

/-- the loop's own word: what the round k finds -/
def OkSo (c : UInt8) (ss : List ByteArray) (k : Nat) : Prop := (∀ j, j < k → hasB (ss[j]?.getD ByteArray.empty).data.toList c = false) ∧ sizes (ss.take k) + (k - 1) ≤ 4000

theorem OkSo.next {c : UInt8} {ss : List ByteArray} {k : Nat} (h : OkSo c ss k) (hc : hasB (ss[k]?.getD ByteArray.empty).data.toList c = false) (hl : sizes (ss.take (k + 1)) + k ≤ 4000) : OkSo c ss (k + 1) := by
  refine ⟨fun j hj => ?_, by simpa using hl⟩
  rcases Nat.lt_or_ge j k with h' | h'
  · exact h.1 j h'
  · rw [show j = k by omega]; exact hc
theorem OkSo.good {c : UInt8} {ss : List ByteArray} (h : OkSo c ss ss.length) : joinGood c ss = true :=
  joinGood_mk h.1 (by have := h.2; rwa [List.take_length] at this)
theorem good_next {c : UInt8} {ss : List ByteArray} (h : joinGood c ss = true) (k : Nat) (hk : k < ss.length) : hasB (ss[k]?.getD ByteArray.empty).data.toList c = false ∧ sizes (ss.take (k + 1)) + k ≤ 4000 := by
  refine ⟨joinGood_each h _ (getD_mem ss k hk), ?_⟩
  have h1 := joinGood_len h
  have h2 := sizes_le ss (k + 1)
  omega

set_option maxHeartbeats 800000 in
theorem joinS_some (p : Option Addr) (cap : Nat) (ss : List ByteArray) (c : UInt8) (w : World) (hin : InStrs w p ss) (hn : 0 < ss.length) (htot : sizes ss ≤ 1048576) :
    Calls Tryd.prog 26 #[.slice p ss.length cap, .string ⟨#[c]⟩] w (JoinEnd c ss w) := by
  have hlen := hin.len
  obtain ⟨b, off, rfl, hb, hc⟩ := hin.cells hn
  have hmem := hin.each
  clear hin
  have HC : Hid (∀ i, i < ss.length → w.cell? ⟨b, off + i, none⟩ = some (.string (ss[i]?.getD ByteArray.empty))) := hc
  clear hc hmem
  have hne : ((ss.length : Int) == 0) = false := by rw [beq_eq_false_iff_ne]; omega
  go_enter Tryd.func26, Tryd.ntmps26
  go_wp2
  go_loopw [6, 7] (fun o i wr => ∃ (k : Nat) (out : ByteArray), k ≤ ss.length ∧ i = .int .i64 k ∧ o = .string out ∧ Hid (out = joinP c ss k) ∧ Hid (OkSo c ss k) ∧ Below w.heap.size w wr) (fun _ i _ => ss.length - (intOf i).toNat)
  case atStart => exact ⟨0, _, Nat.zero_le _, rfl, rfl, joinP_zero c ss, ⟨fun _ h => absurd h (Nat.not_lt_zero _), by simp [sizes]⟩, Below.refl _ _⟩
  case round =>
    obtain ⟨k, out, hk, rfl, rfl, HO, HK, hbl⟩ := hrel
    by_cases hlt : k < ss.length
    · obtain ⟨s, hs⟩ : ∃ s, s = ss[k]?.getD ByteArray.empty := ⟨_, rfl⟩
      have hcell := (hbl.cell (p := ⟨b, off + k, none⟩) hb).trans (HC.out k hlt)
      rw [← hs] at hcell
      have hsz1 : s.size ≤ 1048576 := by
        have := size_le_sizes ss _ (getD_mem ss k hlt)
        rw [← hs] at this; omega
      have hosz : out.size ≤ 4000 := by
        rw [HO.out, joinP_size c ss k (by omega)]; exact HK.out.2
      have hosz2 : Hid (out.size = sizes (ss.take k) + (k - 1)) := by
        show _ = _
        rw [HO.out, joinP_size c ss k (by omega)]
      have hst : Hid (sizes (ss.take (k + 1)) = sizes (ss.take k) + s.size) := by
        show _ = _
        rw [hs]; exact sizes_take ss k hlt
      have HS : Hid (s = ss[k]?.getD ByteArray.empty) := hs
      clear hs
      have hk0' : (0 : Int) ≤ (k : Int) := by omega
      have hk1' : (k : Int) < (ss.length : Int) := by omega
      by_cases hh : hasB s.data.toList c = true
      · have HB : Hid (joinGood c ss = false) := by
          show _ = _
          rw [Bool.eq_false_iff]
          intro hg
          have := (good_next hg k hlt).1
          rw [← HS.out, hh] at this
          cases this
        have HHB : Hid (hasB s.data.toList c = true) := hh
        clear hh
        go_wp2
        go_quiet ((go_at_call 47; exact Calls.quiet_of_same (l1Stands_is s c true HHB.out _ (by omega))))
        go_wp2
        go_ret2
        have := HB.out
        exact ⟨fun h => (by rw [this] at h; cases h), fun _ => rfl, bel_drewN hbl _⟩
      · have hh : hasB s.data.toList c = false := by simpa using hh
        have HH : Hid (hasB (ss[k]?.getD ByteArray.empty).data.toList c = false) := by
          show _ = _
          rw [← HS.out]; exact hh
        have HHB : Hid (hasB s.data.toList c = false) := hh
        clear hh
        by_cases hkz : 0 < k
        · have HO2 : Hid (out ++ ⟨#[c]⟩ ++ s = joinP c ss (k + 1)) := by
            show _ = _
            rw [joinP_succ c ss k hlt hkz, ← HO.out, ← HS.out]
          by_cases hbig : out.size + 1 + s.size ≤ 4000
          · have HK2 : Hid (OkSo c ss (k + 1)) := HK.out.next HH.out (by have := hst.out; have := hosz2.out; omega)
            go_wp2
            go_quiet ((go_at_call 47; exact Calls.quiet_of_same (l1Stands_is s c false HHB.out _ (by omega))))
            go_wp2
            go_roundw
            case rel => exact ⟨k + 1, _, by omega, by go_num, rfl, HO2, HK2, bel_drewN hbl _⟩
            case measure => simp [intOf]; omega
          · have HB : Hid (joinGood c ss = false) := by
              show _ = _
              rw [Bool.eq_false_iff]
              intro hg
              have h1 := (good_next hg k hlt).2
              have := hst.out
              have := hosz2.out
              omega
            go_wp2
            go_quiet ((go_at_call 47; exact Calls.quiet_of_same (l1Stands_is s c false HHB.out _ (by omega))))
            go_wp2
            go_ret2
            have := HB.out
            exact ⟨fun h => (by rw [this] at h; cases h), fun _ => rfl, bel_drewN hbl _⟩
        · obtain rfl : k = 0 := by omega
          have hcell0 : wr.cell? ⟨b, off, none⟩ = some (.string s) := by simpa using hcell
          clear hcell
          have HO2 : Hid (out ++ s = joinP c ss (0 + 1)) := by
            show _ = _
            rw [joinP_one c ss hn, ← HS.out, HO.out, joinP_zero]
          by_cases hbig : out.size + s.size ≤ 4000
          · have HK2 : Hid (OkSo c ss (0 + 1)) := HK.out.next HH.out (by have := hst.out; have := hosz2.out; omega)
            go_wp2
            go_quiet ((go_at_call 47; exact Calls.quiet_of_same (l1Stands_is s c false HHB.out _ (by omega))))
            go_wp2
            go_roundw
            case rel => exact ⟨0 + 1, _, by omega, by go_num, rfl, HO2, HK2, bel_drewN hbl _⟩
            case measure => simp [intOf]; omega
          · have HB : Hid (joinGood c ss = false) := by
              show _ = _
              rw [Bool.eq_false_iff]
              intro hg
              have h1 := (good_next hg 0 hlt).2
              have := hst.out
              have := hosz2.out
              omega
            go_wp2
            go_quiet ((go_at_call 47; exact Calls.quiet_of_same (l1Stands_is s c false HHB.out _ (by omega))))
            go_wp2
            go_ret2
            have := HB.out
            exact ⟨fun h => (by rw [this] at h; cases h), fun _ => rfl, bel_drewN hbl _⟩
    · have HG : Hid (joinGood c ss = true) := by
        have := HK.out
        rw [show k = ss.length by omega] at this
        exact this.good
      have HE : Hid (out = joinP c ss ss.length) := by
        have := HO.out
        rwa [show k = ss.length by omega] at this
      go_wp2
      go_ret2
      have h1 := HG.out
      exact ⟨fun _ => (by rw [← HE.out]; rfl), fun h => (by rw [h1] at h; cases h), hbl⟩
end Go.Proofs.YtnbpdgkpamgcfaaDoor
