/- The pieces of a text, joined with the separator, are the text; LessString on both sides. -/
import Derived.Test.YtnbpdgkpamgcfaaDoorSplitAll
import Derived.Test.YtnbpdgkpamgcfaaDoorJoinAll
namespace Go.Proofs.YtnbpdgkpamgcfaaDoor
open Go.RowKit

theorem spAll_ne (c : UInt8) (l : List UInt8) : spAll c l ≠ [] := by simp [spAll]
theorem sp_join (c : UInt8) : ∀ (n : Nat) (l : List UInt8), l.length ≤ n → Lib.join (spAll c l) [c] = l ∧ ∀ p ∈ spAll c l, c ∉ p := by
  intro n
  induction n with
  | zero =>
    intro l hl
    have : l = [] := List.length_eq_zero_iff.1 (by omega)
    subst this
    rw [spAll_plain c [] (by simp)]
    exact ⟨Lib.join_one _ _, by simp⟩
  | succ n ih =>
    intro l hl
    by_cases h : 0 ≤ Lib.indexByte l c
    · obtain ⟨k, _, hlt, hsp, hnot⟩ := index_split c l h
      obtain ⟨a, ha⟩ : ∃ a, l.take k = a := ⟨_, rfl⟩
      obtain ⟨b, hb⟩ : ∃ b, l.drop (k + 1) = b := ⟨_, rfl⟩
      rw [ha, hb] at hsp
      rw [ha] at hnot
      have hbl : b.length ≤ n := by rw [← hb, List.length_drop]; omega
      obtain ⟨i1, i2⟩ := ih b hbl
      rw [hsp, spAll_cut c a b hnot]
      refine ⟨?_, ?_⟩
      · cases hx : spAll c b with
        | nil => exact absurd hx (spAll_ne c b)
        | cons y ys =>
          rw [hx] at i1
          rw [Lib.join_cons] at i1 ⊢
          have : Lib.joinTail [c] (y :: ys) = [c] ++ (y ++ Lib.joinTail [c] ys) := by simp [Lib.joinTail]
          rw [this, i1]
          simp
      · intro p hp
        rcases List.mem_cons.1 hp with rfl | hp
        · exact hnot
        · exact i2 p hp
    · have hn := index_none c l h
      rw [spAll_plain c l hn]
      refine ⟨Lib.join_one _ _, fun p hp => ?_⟩
      rw [List.mem_singleton.1 hp]; exact hn

theorem texts_lists (c : UInt8) (s : ByteArray) : (spTexts c s).map (·.data.toList) = spAll c s.data.toList := by
  unfold spTexts
  rw [List.map_map]
  have : ((fun x : ByteArray => x.data.toList) ∘ fun l : List UInt8 => (⟨l.toArray⟩ : ByteArray)) = id := by
    funext l
    simp
  rw [this, List.map_id]

theorem join_back (c : UInt8) (s : ByteArray) : joinP c (spTexts c s) (spTexts c s).length = s := by
  unfold joinP
  rw [List.take_length, texts_lists, (sp_join c _ _ (Nat.le_refl _)).1]

theorem good_back (c : UInt8) (s : ByteArray) (h : s.size ≤ 4000) : joinGood c (spTexts c s) = true := by
  refine joinGood_mk (fun k hk => ?_) ?_
  · have hm := getD_mem (spTexts c s) k hk
    have h2 : ((spTexts c s)[k]?.getD ByteArray.empty).data.toList ∈ spAll c s.data.toList := by
      rw [← texts_lists]
      exact List.mem_map_of_mem hm
    have := (sp_join c _ _ (Nat.le_refl _)).2 _ h2
    unfold hasB
    simpa using this
  · have := joinP_size c (spTexts c s) (spTexts c s).length (Nat.le_refl _)
    rw [join_back, List.take_length] at this
    omega

theorem back_out (c : UInt8) (s : ByteArray) (h : s.size ≤ 4000) : joinOut ⟨#[c]⟩ (spTexts c s) = s ∧ joinFlag ⟨#[c]⟩ (spTexts c s) = true := by
  have ed : (⟨#[c]⟩ : ByteArray).data.toList = [c] := rfl
  have hp := spTexts_pos c s
  have hg := good_back c s h
  unfold joinOut joinFlag
  rw [ed]
  simp only [hp, hg, and_self, if_true]
  exact ⟨join_back c s, trivial⟩
theorem back_size (c : UInt8) (s : ByteArray) : sizes (spTexts c s) ≤ s.size := by
  have := joinP_size c (spTexts c s) (spTexts c s).length (Nat.le_refl _)
  rw [join_back, List.take_length] at this
  omega

theorem less_asym : ∀ (x y : List UInt8), Op.bytesLess x y = true → Op.bytesLess y x = false := by
  intro x
  induction x with
  | nil => intro y h; cases y <;> simp [Op.bytesLess] at h ⊢
  | cons a x ih =>
    intro y h
    cases y with
    | nil => simp [Op.bytesLess] at h
    | cons b y =>
      simp only [Op.bytesLess, Bool.or_eq_true, Bool.and_eq_true, decide_eq_true_eq, beq_iff_eq] at h
      simp only [Op.bytesLess, Bool.or_eq_false_iff, Bool.and_eq_false_iff, decide_eq_false_iff_not, beq_eq_false_iff_ne]
      rcases h with h | ⟨rfl, h⟩
      · exact ⟨fun h' => absurd (UInt8.lt_trans h h') (UInt8.lt_irrefl a), Or.inl (fun e => absurd h (by rw [e]; exact UInt8.lt_irrefl a))⟩
      · exact ⟨UInt8.lt_irrefl a, Or.inr (ih y h)⟩

set_option maxHeartbeats 400000 in
theorem lessI_is (a b : ByteArray) (v : Bool) (h : Op.bytesLess a.toList b.toList = v) (w : World) :
    Calls Tryd.prog 28 #[.string a, .string b] w fun e w' => e = .returned (.bool v) ∧ w = w' := by
  have H := Lib.hid h
  clear h
  go_enter Tryd.func28, Tryd.ntmps28
  go_wp2
  go_ret
  exact ⟨by rw [← H.out]; rfl, rfl⟩
set_option maxHeartbeats 400000 in
theorem lessS_is (a b : ByteArray) (v : Bool) (h : Op.bytesLess a.toList b.toList = v) (w : World) :
    Calls Tryd.prog 29 #[.string a, .string b] w fun e w' => e = .returned (.bool v) ∧ w = w' := by
  have H := Lib.hid h
  clear h
  go_enter Tryd.func29, Tryd.ntmps29
  go_wp2
  go_ret
  exact ⟨by rw [← H.out]; rfl, rfl⟩
end Go.Proofs.YtnbpdgkpamgcfaaDoor
