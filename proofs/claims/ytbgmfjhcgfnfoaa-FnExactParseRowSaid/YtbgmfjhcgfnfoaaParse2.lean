/- spec.ParseRow and impl.ParseRow give the same, for every text of at most 1048576 bytes. -/
import Derived.Test.YtbgmfjhcgfnfoaaParseI
import Derived.Test.YtbgmfjhcgfnfoaaParseS
namespace Go.Proofs.Ytbgmfjhcgfnfoaa
open Go.RowKit

theorem textT_head (ring : Bool) (S : Nat → Bool) (k : Nat) : (textT ring S k).data.toList.take 5 = (preT ring).data.toList := by
  induction k with
  | zero => cases ring <;> rfl
  | succ k ih =>
    have hl : 5 ≤ (textT ring S k).data.toList.length := by rw [← Lib.size_eq, textT_size]; omega
    rw [textT, ByteArray.data_append, Array.toList_append, List.take_append_of_le_length hl, ih]
theorem head_text {s : ByteArray} {ring : Bool} {S : Nat → Bool} {k : Nat} (h : ((textT ring S k).toList == s.toList) = true) : has5 s (preT ring) = true := by
  have e : (textT ring S k).toList = s.toList := by simpa using h
  rw [Lib.toList_data, Lib.toList_data] at e
  unfold has5
  rw [Lib.extract_toList, Lib.toList_data, ← e, List.drop_zero, textT_head]
  simp
theorem okT_parts (s : ByteArray) : okT s = true ↔ 5 ≤ s.size ∧ rowB ((s.size - 5 : Nat) : Int) (ringT s) (ints (tk (s.size - 5) (sgnT s 5))) = true ∧ ((textT (ringT s) (sgnT s 5) (s.size - 5)).toList == s.toList) = true := by
  unfold okT
  rw [Bool.and_eq_true, Bool.and_eq_true, decide_eq_true_eq, and_assoc]
theorem okT_nopre {s : ByteArray} (h1 : pre5 s (preT true) = false) (h2 : pre5 s (preT false) = false) : okT s = false := by
  cases h : okT s with
  | false => rfl
  | true =>
    obtain ⟨a, -, c⟩ := (okT_parts s).1 h
    have hr : ringT s = false := h1
    rw [hr] at c
    have := head_text c
    unfold pre5 at h2
    rw [this] at h2
    simp at h2
    omega
theorem ext_get (s : ByteArray) (p : Nat) (h : p < (s.extract 5 s.size).size) : (((s.extract 5 s.size)[p].toNat : Int) == 120) = sgnT s 5 p := by
  have h5 : 5 + p < s.size := by rw [ByteArray.size_extract] at h; omega
  rw [sgnT_get h5, ByteArray.getElem_extract]
theorem all_get (s : ByteArray) (p : Nat) (h : p < s.size) : ((s[p].toNat : Int) == 120) = sgnT s 0 p := by
  have h5 : 0 + p < s.size := by omega
  rw [sgnT_get h5]
  simp

theorem parseRow_both (s : ByteArray) (hs : s.size ≤ 1048576) : ∃ (s' : Int) (ring' : Bool) (L : List Int) (R : Bool), L.length ≤ 24 ∧
    (∀ (w : World), Calls Try.prog 30 #[.string s] w (MadeRow w s' ring' L R)) ∧
    (∀ (w : World), Calls Try.prog 31 #[.string s] w (MadeRow w s' ring' L R)) := by
  obtain ⟨N, hN⟩ : ∃ N, s.size - 5 = N := ⟨_, rfl⟩
  have hP := okT_parts s
  rw [hN] at hP
  have key : ∃ (s' : Int) (ring' : Bool) (L : List Int) (R : Bool), L.length ≤ 24 ∧ (okT s = true → s' = N ∧ ring' = ringT s ∧ L = ints (tk N (sgnT s 5)) ∧ R = true) ∧ (okT s = false → s' = 0 ∧ ring' = false ∧ L = [] ∧ R = false) := by
    cases h : okT s with
    | true =>
      have h24 := (rowB_lim (hP.1 h).2.1).2.1
      exact ⟨N, ringT s, _, true, by have := ints_tk_len N (sgnT s 5); omega, fun _ => ⟨rfl, rfl, rfl, rfl⟩, fun h' => by cases h'⟩
    | false => exact ⟨0, false, [], false, by simp, fun h' => (by cases h'), fun _ => ⟨rfl, rfl, rfl, rfl⟩⟩
  obtain ⟨s', ring', L, R, hL, hyes, hno⟩ := key
  refine ⟨s', ring', L, R, hL, fun w => ?_, fun w => ?_⟩
  · by_cases h5 : s.size < 5
    · have hf : okT s = false := by
        cases h : okT s with
        | false => rfl
        | true => have := (hP.1 h).1; omega
      obtain ⟨rfl, rfl, rfl, rfl⟩ := hno hf
      exact parseS_short s w h5
    · by_cases h29 : 29 < s.size
      · have hf : okT s = false := by
          cases h : okT s with
          | false => rfl
          | true => have := (rowB_lim (hP.1 h).2.1).2.1; omega
        obtain ⟨rfl, rfl, rfl, rfl⟩ := hno hf
        exact parseS_long s w h29
      · have hr : has5 s (preT true) = ringT s := by
          unfold ringT pre5
          rw [decide_eq_true (by omega : 5 ≤ s.size), Bool.true_and]
        refine parseS_mid s w N (ringT s) (sgnT s 5) (by omega) (by omega) hr _ rfl (fun p h => (sgnT_get h).symm) s' ring' L R (Lib.hid fun hb hc => hyes (hP.2 ⟨by omega, hb, hc⟩)) (Lib.hid fun h => hno ?_)
        cases hk : okT s with
        | false => rfl
        | true =>
          obtain ⟨-, b, c⟩ := hP.1 hk
          rcases h with h | h
          · rw [h] at b; cases b
          · rw [h] at c; cases c
  · cases h1 : pre5 s (preT true) with
    | true =>
      have hr : ringT s = true := h1
      have h5 : 5 ≤ s.size := by unfold pre5 at h1; simp at h1; exact h1.1
      rw [hr] at hyes hP
      refine parseI_ring s (s.extract 5 s.size) (sgnT s 5) w N hs (by omega) (Lib.hid (by rw [ByteArray.size_extract]; omega)) _ rfl s' ring' L R (Lib.hid (ext_get s)) (Lib.hid fun hb hc => hyes (hP.2 ⟨h5, hb, hc⟩)) (Lib.hid fun h => hno ?_) h1 (by unfold cutT; rw [if_pos h1])
      cases hk : okT s with
      | false => rfl
      | true =>
        obtain ⟨-, b, c⟩ := hP.1 hk
        rcases h with h | h
        · rw [h] at b; cases b
        · rw [h] at c; cases c
    | false =>
      have hr : ringT s = false := h1
      rw [hr] at hyes hP
      cases h2 : pre5 s (preT false) with
      | true =>
        have h5 : 5 ≤ s.size := by unfold pre5 at h2; simp at h2; exact h2.1
        refine parseI_line s (s.extract 5 s.size) (sgnT s 5) w N hs (by omega) (Lib.hid (by rw [ByteArray.size_extract]; omega)) _ rfl s' ring' L R (Lib.hid (ext_get s)) (Lib.hid fun hb hc => hyes (hP.2 ⟨h5, hb, hc⟩)) (Lib.hid fun h => hno ?_) h1 (by unfold cutT; rw [if_pos h2])
        cases hk : okT s with
        | false => rfl
        | true =>
          obtain ⟨-, b, c⟩ := hP.1 hk
          rcases h with h | h
          · rw [h] at b; cases b
          · rw [h] at c; cases c
      | false =>
        have hf := okT_nopre h1 h2
        refine parseI_line s s (sgnT s 0) w s.size hs hs (Lib.hid rfl) _ rfl s' ring' L R (Lib.hid (all_get s)) (Lib.hid fun _ hc => ?_) (Lib.hid fun _ => hno hf) h1 (by unfold cutT; rw [if_neg (by rw [h2]; simp)])
        have := toList_size hc
        rw [textT_size] at this
        omega
end Go.Proofs.Ytbgmfjhcgfnfoaa
