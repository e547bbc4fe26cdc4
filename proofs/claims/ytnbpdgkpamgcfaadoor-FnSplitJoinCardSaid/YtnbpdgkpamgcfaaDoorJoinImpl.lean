/- impl.JoinStrings: the join and true where it is allowed, the empty text and false elsewhere, for every slice of strings of at most 1048576 bytes together and every separator. -/
import Derived.Test.YtnbpdgkpamgcfaaDoorJoinSpec
import Derived.Test.YtnbpdgkpamgcfaaDoorLibStr
namespace Go.Proofs.YtnbpdgkpamgcfaaDoor
open Go.RowKit

set_option maxHeartbeats 400000 in
theorem joinI_sep (p : Option Addr) (n cap : Nat) (sep : ByteArray) (w : World) (h : sep.size ≠ 1) (_hs : sep.size ≤ 9223372036854775807) :
    Calls Tryd.prog 25 #[.slice p n cap, .string sep] w fun e w' => NoJoin e ∧ w = w' := by
  have h1 : ((sep.size : Int) != 1) = true := by simp; omega
  have h2 : ((sep.size : Int) == 1) = false := by simp; omega
  clear h
  by_cases hn : n = 0
  · subst hn
    go_enter Tryd.func25, Tryd.ntmps25
    go_wp2
    go_ret2
    exact ⟨rfl, rfl⟩
  · have hne : ((n : Int) == 0) = false := by rw [beq_eq_false_iff_ne]; omega
    go_enter Tryd.func25, Tryd.ntmps25
    go_wp2
    go_ret2
    exact ⟨rfl, rfl⟩

set_option maxHeartbeats 400000 in
theorem joinI_none (p : Option Addr) (cap : Nat) (c : UInt8) (w : World) :
    Calls Tryd.prog 25 #[.slice p 0 cap, .string ⟨#[c]⟩] w fun e w' => NoJoin e ∧ w = w' := by
  go_enter Tryd.func25, Tryd.ntmps25
  go_wp2
  go_ret2
  exact ⟨rfl, rfl⟩

/-- the loop's own word: what the round k has found -/
def OkI (c : UInt8) (ss : List ByteArray) (k : Nat) : Prop := ∀ j, j < k → hasB (ss[j]?.getD ByteArray.empty).data.toList c = false
theorem OkI.next {c : UInt8} {ss : List ByteArray} {k : Nat} (h : OkI c ss k) (hc : hasB (ss[k]?.getD ByteArray.empty).data.toList c = false) : OkI c ss (k + 1) := by
  intro j hj
  rcases Nat.lt_or_ge j k with h' | h'
  · exact h j h'
  · rw [show j = k by omega]; exact hc

set_option maxHeartbeats 800000 in
theorem joinI_some (p : Option Addr) (cap : Nat) (ss : List ByteArray) (c : UInt8) (w : World) (hin : InStrs w p ss) (hn : 0 < ss.length) (hcap : ss.length ≤ cap) (htot : (ss.length : Int) + sizes ss ≤ 1048576) :
    Calls Tryd.prog 25 #[.slice p ss.length cap, .string ⟨#[c]⟩] w (JoinEnd c ss w) := by
  have hlen := hin.len
  obtain ⟨b, off, rfl, hb, hc⟩ := hin.cells hn
  clear hin
  have HC : Hid (∀ i, i < ss.length → w.cell? ⟨b, off + i, none⟩ = some (.string (ss[i]?.getD ByteArray.empty))) := hc
  clear hc
  have hne : ((ss.length : Int) == 0) = false := by rw [beq_eq_false_iff_ne]; omega
  go_enter Tryd.func25, Tryd.ntmps25
  go_wp2
  go_loop [6, 22] (fun l i => ∃ (k : Nat) (q : Int), k ≤ ss.length ∧ i = .int .i64 k ∧ l = .int .i64 q ∧ Hid (q = (ss.length : Int) - 1 + (sizes (ss.take k) : Int)) ∧ 0 ≤ q ∧ q ≤ 1048576 ∧ (0 < k → q ≤ 4000) ∧ Hid (OkI c ss k)) (fun _ i => ss.length - (intOf i).toNat)
  case atStart => exact ⟨0, _, Nat.zero_le _, rfl, rfl, (by show _ = _; simp [sizes]), by omega, by omega, fun h => absurd h (Nat.lt_irrefl _), fun _ h => absurd h (Nat.not_lt_zero _)⟩
  case round =>
    obtain ⟨k, q, hk, rfl, rfl, HQ, hq0, hq1, hq2, HK⟩ := hrel
    by_cases hlt : k < ss.length
    · have HQ2 : Hid (0 < k → q ≤ 4000) := hq2
      clear hq2
      obtain ⟨s, hs⟩ : ∃ s, s = ss[k]?.getD ByteArray.empty := ⟨_, rfl⟩
      have hcell := HC.out k hlt
      rw [← hs] at hcell
      have hst := sizes_take ss k hlt
      have hle := sizes_le ss (k + 1)
      rw [← hs] at hst
      have hq3 : q + (s.size : Int) ≤ 1048576 := by
        have := HQ.out
        omega
      have HN : Hid (q + (s.size : Int) = (ss.length : Int) - 1 + (sizes (ss.take (k + 1)) : Int)) := by
        show _ = _
        have := HQ.out
        omega
      have HS : Hid (s = ss[k]?.getD ByteArray.empty) := hs
      clear hs hst hle
      have HB : q + (s.size : Int) > 4000 → joinGood c ss = false := by
        intro hbig
        rw [Bool.eq_false_iff]
        intro hg
        have h1 := joinGood_len hg
        have h2 := sizes_le ss (k + 1)
        have h3 := HN.out
        omega
      by_cases hbig : q + (s.size : Int) > 4000
      · have HB2 : Hid (joinGood c ss = false) := HB hbig
        clear HB
        go_wp2
        go_ret2
        have := HB2.out
        exact ⟨fun h => (by rw [this] at h; cases h), fun _ => rfl, Below.refl _ _⟩
      · clear HB
        by_cases hh : hasB s.data.toList c = true
        · have HB2 : Hid (joinGood c ss = false) := by
            show _ = _
            rw [Bool.eq_false_iff]
            intro hg
            have := (good_next hg k hlt).1
            rw [← HS.out, hh] at this
            cases this
          have HHB : Hid (hasB s.data.toList c = true) := hh
          clear hh
          go_wp2_with (go_at_call 46; refine (contains_is s c true HHB.out _).mono ?_; rintro e w' ⟨rfl, rfl⟩)
          go_ret2
          have := HB2.out
          exact ⟨fun h => (by rw [this] at h; cases h), fun _ => rfl, Below.refl _ _⟩
        · have hh : hasB s.data.toList c = false := by simpa using hh
          have HK2 : Hid (OkI c ss (k + 1)) := HK.out.next (by rw [← HS.out]; exact hh)
          have HHB : Hid (hasB s.data.toList c = false) := hh
          clear hh
          have hq4 : q + (s.size : Int) ≤ 4000 := by omega
          clear hbig
          go_wp2_with (go_at_call 46; refine (contains_is s c false HHB.out _).mono ?_; rintro e w' ⟨rfl, rfl⟩)
          go_round
          case rel => exact ⟨k + 1, _, by omega, by go_num, rfl, HN, by omega, by omega, fun _ => hq4, HK2⟩
          case measure => simp [intOf]; omega
    · have hke : k = ss.length := by omega
      have HG : Hid (joinGood c ss = true) := by
        refine joinGood_mk (fun j hj => HK.out j (by omega)) ?_
        have h1 := HQ.out
        have h2 := hq2 (by omega)
        rw [hke, List.take_length] at h1
        omega
      have HL : Hid ((Lib.join (ss.map (·.data.toList)) [c]).length ≤ 4000) := by
        show _ ≤ _
        have h1 := joinGood_len HG.out
        have h2 := joinP_size c ss ss.length (Nat.le_refl _)
        rw [Lib.size_eq] at h2
        simp only [joinP, List.take_length, List.toList_toArray] at h2
        omega
      have HJ : Hid (joinP c ss ss.length = ⟨(Lib.join (ss.map (·.data.toList)) [c]).toArray⟩) := by
        show _ = _
        simp only [joinP, List.take_length]
      have HCx : ∀ (j : Nat) x, ss[j]? = some x → w.cell? ⟨b, off + j, none⟩ = some (.string x) := by
        intro j x hx
        have hj : j < ss.length := by
          rcases Nat.lt_or_ge j ss.length with h | h
          · exact h
          · rw [List.getElem?_eq_none h] at hx; cases hx
        have := HC.out j hj
        rwa [hx] at this
      have HCH : Hid (∀ (j : Nat) x, ss[j]? = some x → w.cell? ⟨b, off + j, none⟩ = some (.string x)) := HCx
      clear HCx hke hq2 HC
      have HSZ : Hid ((⟨(Lib.join (ss.map (·.data.toList)) [c]).toArray⟩ : ByteArray).size ≤ 4000) := by
        show _ ≤ _
        have := HL.out
        rw [Lib.size_eq]
        simpa using this
      go_wp2_with (first
        | (go_at_call 52; refine (Tryd.strings_Join b off cap ss ⟨#[c]⟩ w HCH.out hb (by omega) hcap (Nat.le_trans HL.out (by omega))).mono ?_; rintro e w1 ⟨rfl, hb1⟩)
        | (go_at_call 50; refine (clone_any _ _ (Nat.le_trans HSZ.out (by omega))).mono ?_; rintro e w2 ⟨rfl, hb2⟩))
      go_ret2
      have h1 := HG.out
      exact ⟨fun _ => (by rw [HJ.out]; rfl), fun h => (by rw [h1] at h; cases h), hb1.trans (hb2.mono hb1.size)⟩
end Go.Proofs.YtnbpdgkpamgcfaaDoor
