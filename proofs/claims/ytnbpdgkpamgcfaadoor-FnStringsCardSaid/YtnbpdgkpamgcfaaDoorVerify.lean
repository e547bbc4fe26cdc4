/- spec.VerifyChecksum and impl.VerifyChecksum give the same answer for every text of at most 1048576 bytes. -/
import Derived.Test.YtnbpdgkpamgcfaaDoorCut
import Derived.Test.YtnbpdgkpamgcfaaDoorSeal
import Derived.Test.YtnbpdgkpamgcfaaDoorSplitSpec
namespace Go.Proofs.YtnbpdgkpamgcfaaDoor
open Go.RowKit

/-- s is the sealed form of its first piece -/
def VOk (s : ByteArray) : Prop := s.size ≤ 4000 ∧ sealS (firstT 35 s) = s
def VYes (s : ByteArray) (w : World) (e : Ending) (w' : World) : Prop := e = .returned (.tuple #[.string (firstT 35 s), .bool true]) ∧ Below w.heap.size w w'
def VNo (w : World) (e : Ending) (w' : World) : Prop := e = .returned (.tuple #[.string ⟨#[]⟩, .bool false]) ∧ Below w.heap.size w w'

theorem firstT_size (c : UInt8) (s : ByteArray) : (firstT c s).size ≤ s.size := by
  by_cases h : 0 ≤ Lib.indexByte s.data.toList c
  · obtain ⟨n, _, hn, hl, h0⟩ := index_split c s.data.toList h
    rw [← firstT_some c s n (by rwa [Lib.size_eq]) hl h0, ByteArray.size_extract]
    omega
  · rw [← firstT_none c s (index_none c _ h)]
    exact Nat.le_refl _
theorem firstT_free (c : UInt8) (s : ByteArray) : hasB (firstT c s).data.toList c = false := by
  have key : c ∉ (firstT c s).data.toList := by
    by_cases h : 0 ≤ Lib.indexByte s.data.toList c
    · obtain ⟨n, _, hn, hl, h0⟩ := index_split c s.data.toList h
      rw [← firstT_some c s n (by rwa [Lib.size_eq]) hl h0, Lib.extract_data]
      simpa using h0
    · rw [← firstT_none c s (index_none c _ h)]
      exact index_none c _ h
  simp only [hasB, List.contains_eq_mem, decide_eq_false_iff_not]
  exact key
theorem vOk_ap {s : ByteArray} (h : VOk s) : ApOk (firstT 35 s) := by
  obtain ⟨h1, h2⟩ := h
  refine ⟨Nat.le_trans (firstT_size 35 s) h1, firstT_free 35 s, by rw [h2]; exact h1⟩

set_option maxHeartbeats 400000 in
theorem verS_yes (s : ByteArray) (w : World) (h : VOk s) :
    Calls Tryd.prog 34 #[.string s] w (VYes s w) := by
  obtain ⟨h1, h2⟩ := h
  obtain ⟨t, ht⟩ : ∃ t, t = firstT 35 s := ⟨_, rfl⟩
  have htz : t.size ≤ 1048576 := by have := firstT_size 35 s; rw [ht]; omega
  have HT := Lib.hid ht
  have H2 : Hid (sealS t = s) := by show _ = _; rw [ht]; exact h2
  clear h2 ht
  go_enter Tryd.func34, Tryd.ntmps34
  go_wp2_with fail
  refine (l1Split_any s 35 _ (by omega)).mono ?_
  rintro e w1 ⟨v, rfl, ⟨g, cap, rfl, hcap, hg, hin⟩, hb⟩
  obtain ⟨b, off, e1, hlt, hc⟩ := hin.cells (spTexts_pos 35 s)
  have hc0 := hc 0 (spTexts_pos 35 s)
  rw [firstT_texts, ← HT.out] at hc0
  simp only [Option.some.injEq, Addr.mk.injEq, and_true] at e1
  obtain ⟨rfl, rfl⟩ := e1
  have hpos := spTexts_pos 35 s
  obtain ⟨n, hn⟩ : ∃ n, n = (spTexts 35 s).length := ⟨_, rfl⟩
  rw [← hn] at hpos ⊢
  clear hc hin hn
  go_wp2_with fail
  refine (l1Seal_any t _ htz).mono ?_
  rintro e w2 ⟨rfl, q, rfl⟩
  rw [H2.out]
  go_wp2_with fail
  go_ret2
  exact ⟨by rw [← HT.out]; rfl, bel_drewN hb q⟩

set_option maxHeartbeats 400000 in
theorem verS_no (s : ByteArray) (w : World) (h : ¬ VOk s) (hs : s.size ≤ 1048576) :
    Calls Tryd.prog 34 #[.string s] w (VNo w) := by
  by_cases h1 : s.size ≤ 4000
  · obtain ⟨t, ht⟩ : ∃ t, t = firstT 35 s := ⟨_, rfl⟩
    have htz : t.size ≤ 1048576 := by have := firstT_size 35 s; rw [ht]; omega
    have HT := Lib.hid ht
    have H2 : Hid ((!(sealS t).toList == s.toList) = true) := by
      refine str_ne (fun e => h ⟨h1, ?_⟩)
      rw [← ht]; exact e
    clear h ht
    go_enter Tryd.func34, Tryd.ntmps34
    go_wp2_with fail
    refine (l1Split_any s 35 _ (by omega)).mono ?_
    rintro e w1 ⟨v, rfl, ⟨g, cap, rfl, hcap, hg, hin⟩, hb⟩
    obtain ⟨b, off, e1, hlt, hc⟩ := hin.cells (spTexts_pos 35 s)
    have hc0 := hc 0 (spTexts_pos 35 s)
    rw [firstT_texts, ← HT.out] at hc0
    simp only [Option.some.injEq, Addr.mk.injEq, and_true] at e1
    obtain ⟨rfl, rfl⟩ := e1
    have hpos := spTexts_pos 35 s
    obtain ⟨n, hn⟩ : ∃ n, n = (spTexts 35 s).length := ⟨_, rfl⟩
    rw [← hn] at hpos ⊢
    clear hc hin hn
    go_wp2_with fail
    refine (l1Seal_any t _ htz).mono ?_
    rintro e w2 ⟨rfl, q, rfl⟩
    have hq := H2.out
    go_wp2_with fail
    go_ret2
    exact ⟨rfl, bel_drewN hb q⟩
  · clear h
    go_enter Tryd.func34, Tryd.ntmps34
    go_wp2_with fail
    go_ret2
    exact ⟨rfl, Below.refl _ _⟩

set_option maxHeartbeats 400000 in
theorem verI_yes (s : ByteArray) (w : World) (h : VOk s) (hT : TabOk w) :
    Calls Tryd.prog 20 #[.string s] w (VYes s w) := by
  have hap := vOk_ap h
  obtain ⟨h1, h2⟩ := h
  obtain ⟨t, ht⟩ : ∃ t, firstT 35 s = t := ⟨_, rfl⟩
  have htz : t.size ≤ 1048576 := by have := firstT_size 35 s; rw [← ht]; omega
  rw [ht] at hap
  have HT := Lib.hid ht
  have H2 : Hid (sealS t = s) := by show _ = _; rw [← ht]; exact h2
  clear h2 ht
  go_enter Tryd.func20, Tryd.ntmps20
  go_wp2_with fail
  refine (cut_one s 35 _ (by omega)).mono ?_
  rintro e w1 ⟨r, b, rfl, hb1⟩
  rw [HT.out]
  go_wp2_with fail
  refine (appI_yes t _ hap (hT.below hb1)).mono ?_
  rintro e w2 ⟨rfl, hb2⟩
  rw [H2.out]
  go_wp2_with fail
  refine (clone_any t _ (by omega)).mono ?_
  rintro e w3 ⟨rfl, hb3⟩
  go_wp2_with fail
  go_ret2
  exact ⟨by rw [HT.out]; rfl, (hb1.trans (hb2.mono hb1.size)).trans (hb3.mono (Nat.le_trans hb1.size hb2.size))⟩

set_option maxHeartbeats 400000 in
theorem verI_no (s : ByteArray) (w : World) (h : ¬ VOk s) (hs : s.size ≤ 1048576) (hT : TabOk w) :
    Calls Tryd.prog 20 #[.string s] w (VNo w) := by
  obtain ⟨t, ht⟩ : ∃ t, firstT 35 s = t := ⟨_, rfl⟩
  have htz : t.size ≤ 1048576 := by have := firstT_size 35 s; rw [← ht]; omega
  have HT := Lib.hid ht
  by_cases hap : ApOk t
  · have H2 : Hid ((!(sealS t).toList == s.toList) = true) := by
      refine str_ne (fun e => h ⟨?_, ?_⟩)
      · rw [← e]; exact hap.whole
      · rw [ht]; exact e
    clear h ht
    go_enter Tryd.func20, Tryd.ntmps20
    go_wp2_with fail
    refine (cut_one s 35 _ (by omega)).mono ?_
    rintro e w1 ⟨r, b, rfl, hb1⟩
    rw [HT.out]
    go_wp2_with fail
    refine (appI_yes t _ hap (hT.below hb1)).mono ?_
    rintro e w2 ⟨rfl, hb2⟩
    have hq := H2.out
    go_wp2_with fail
    go_ret2
    exact ⟨rfl, hb1.trans (hb2.mono hb1.size)⟩
  · have HA := Lib.hid hap
    clear h ht hap
    go_enter Tryd.func20, Tryd.ntmps20
    go_wp2_with fail
    refine (cut_one s 35 _ (by omega)).mono ?_
    rintro e w1 ⟨r, b, rfl, hb1⟩
    rw [HT.out]
    go_wp2_with fail
    refine (appI_no t _ HA.out (by omega) (hT.below hb1)).mono ?_
    rintro e w2 ⟨rfl, hb2⟩
    go_wp2_with fail
    go_ret2
    exact ⟨rfl, hb1.trans (hb2.mono hb1.size)⟩
end Go.Proofs.YtnbpdgkpamgcfaaDoor
