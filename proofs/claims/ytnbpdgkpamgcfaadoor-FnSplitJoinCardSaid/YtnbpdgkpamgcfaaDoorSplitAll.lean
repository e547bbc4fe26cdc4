/- Both SplitString give one and the same answer, for every text of at most 1048576 bytes and every separator. -/
import Derived.Test.YtnbpdgkpamgcfaaDoorSplitImpl
import Derived.Test.YtnbpdgkpamgcfaaDoorJoinMath
namespace Go.Proofs.YtnbpdgkpamgcfaaDoor
open Go.RowKit

/-- the answer of both functions -/
def spOut (s sep : ByteArray) : List ByteArray := match sep.data.toList with
  | [c] => if s.size ≤ 4000 then spTexts c s else []
  | _ => []
def spFlag (s sep : ByteArray) : Bool := match sep.data.toList with
  | [_] => if s.size ≤ 4000 then true else false
  | _ => false
theorem sep_one' {sep : ByteArray} (h : sep.size = 1) : ∃ c, sep = ⟨#[c]⟩ := by
  obtain ⟨⟨l⟩⟩ := sep
  match l, h with
  | [c], _ => exact ⟨c, rfl⟩
  | [], h => cases h
  | a :: b :: r, h => simp [ByteArray.size] at h
theorem sp_good (s : ByteArray) (c : UInt8) (h : s.size ≤ 4000) : spOut s ⟨#[c]⟩ = spTexts c s ∧ spFlag s ⟨#[c]⟩ = true := by
  have ed : (⟨#[c]⟩ : ByteArray).data.toList = [c] := rfl
  unfold spOut spFlag
  rw [ed]
  simp [h]
theorem sp_bad (s sep : ByteArray) (h : sep.size ≠ 1 ∨ 4000 < s.size) : spOut s sep = [] ∧ spFlag s sep = false := by
  unfold spOut spFlag
  by_cases h1 : sep.size = 1
  · obtain ⟨c, rfl⟩ := sep_one' h1
    have ed : (⟨#[c]⟩ : ByteArray).data.toList = [c] := rfl
    rw [ed]
    have hn : ¬ s.size ≤ 4000 := by
      rcases h with h | h
      · exact absurd h1 h
      · omega
    simp [hn]
  · have h2 : sep.data.toList.length ≠ 1 := by rwa [← Lib.size_eq]
    revert h2
    cases sep.data.toList with
    | nil => intro _; exact ⟨rfl, rfl⟩
    | cons a l =>
      cases l with
      | nil => intro h2; exact absurd rfl h2
      | cons b r => intro _; exact ⟨rfl, rfl⟩

theorem w_none (w : World) : WStrs w.heap.size (w.alloc (.cells #[] 9)) (.slice (some ⟨w.heap.size, 0, none⟩) 0 0) [] :=
  ⟨w.heap.size, 0, [], rfl, Nat.le_refl _, Nat.le_refl _, OwnArr.made w _ [], Nat.le_refl _, ⟨by simp, by simp, fun h => absurd h (Nat.lt_irrefl _)⟩⟩

set_option maxHeartbeats 400000 in
theorem splitI_none (s sep : ByteArray) (w : World) (h : sep.size ≠ 1 ∨ 4000 < s.size) (h1 : s.size ≤ 1048576) (_h2 : sep.size ≤ 1048576) :
    Calls Tryd.prog 23 #[.string s, .string sep] w fun e w' => e = .returned (.tuple #[.slice (some ⟨w.heap.size, 0, none⟩) 0 0, .bool false]) ∧ w' = w.alloc (.cells #[] 9) := by
  by_cases hs : 4000 < s.size
  · clear h
    go_enter Tryd.func23, Tryd.ntmps23
    go_wp2
    go_ret2
    exact ⟨rfl, rfl⟩
  · have hne : ¬ sep.size = 1 := by
      rcases h with h | h
      · exact h
      · exact absurd h hs
    have hb : ((sep.size : Int) != 1) = true := by simp; omega
    clear h
    go_enter Tryd.func23, Tryd.ntmps23
    go_wp2
    go_ret2
    exact ⟨rfl, rfl⟩

set_option maxHeartbeats 400000 in
theorem splitS_none (s sep : ByteArray) (w : World) (h : sep.size ≠ 1 ∨ 4000 < s.size) (h1 : s.size ≤ 1048576) (_h2 : sep.size ≤ 1048576) :
    Calls Tryd.prog 30 #[.string s, .string sep] w fun e w' => e = .returned (.tuple #[.slice (some ⟨w.heap.size, 0, none⟩) 0 0, .bool false]) ∧ w' = w.alloc (.cells #[] 9) := by
  by_cases hne : sep.size = 1
  · have hs : 4000 < s.size := by
      rcases h with h | h
      · exact absurd hne h
      · exact h
    clear h
    go_enter Tryd.func30, Tryd.ntmps30
    go_wp2
    go_ret2
    exact ⟨rfl, rfl⟩
  · clear h
    go_enter Tryd.func30, Tryd.ntmps30
    go_wp2
    go_ret2
    exact ⟨rfl, rfl⟩

set_option maxHeartbeats 400000 in
theorem splitS_some (s : ByteArray) (c : UInt8) (w : World) (hs : s.size ≤ 4000) :
    Calls Tryd.prog 30 #[.string s, .string ⟨#[c]⟩] w fun e w' => ∃ v, e = .returned (.tuple #[v, .bool true]) ∧ OwnStrs w.heap.size w' v (spTexts c s) ∧ Below w.heap.size w w' := by
  go_enter Tryd.func30, Tryd.ntmps30
  go_wp2_with fail
  refine (l1Split_any s c w (by omega)).mono ?_
  rintro e w' ⟨v, rfl, hv, hb⟩
  go_wp2_with fail
  go_ret2
  exact ⟨v, rfl, hv, hb⟩

theorem own_of_w {B : Nat} {w : World} {v : Value} {ss : List ByteArray} (h : WStrs B w v ss) : OwnStrs B w v ss := by
  obtain ⟨g, cap, xs, e1, e2, e3, _, _, e4⟩ := h
  exact ⟨g, cap, e1, e2, e3, e4⟩

theorem splitI_all (s sep : ByteArray) (w : World) (h1 : s.size ≤ 1048576) (h2 : sep.size ≤ 1048576) :
    Calls Tryd.prog 23 #[.string s, .string sep] w fun e w' => ∃ v, e = .returned (.tuple #[v, .bool (spFlag s sep)]) ∧ WStrs w.heap.size w' v (spOut s sep) ∧ Below w.heap.size w w' := by
  by_cases h : sep.size ≠ 1 ∨ 4000 < s.size
  · rw [(sp_bad s sep h).1, (sp_bad s sep h).2]
    refine (splitI_none s sep w h h1 h2).mono ?_
    rintro e w' ⟨rfl, rfl⟩
    exact ⟨_, rfl, w_none w, (Below.refl _ _).alloc (Nat.le_refl _) _⟩
  · obtain ⟨c, rfl⟩ := sep_one' (sep := sep) (by omega)
    have hs : s.size ≤ 4000 := by omega
    rw [(sp_good s c hs).1, (sp_good s c hs).2]
    exact splitI_some s c w hs
theorem splitS_all (s sep : ByteArray) (w : World) (h1 : s.size ≤ 1048576) (h2 : sep.size ≤ 1048576) :
    Calls Tryd.prog 30 #[.string s, .string sep] w fun e w' => ∃ v, e = .returned (.tuple #[v, .bool (spFlag s sep)]) ∧ OwnStrs w.heap.size w' v (spOut s sep) ∧ Below w.heap.size w w' := by
  by_cases h : sep.size ≠ 1 ∨ 4000 < s.size
  · rw [(sp_bad s sep h).1, (sp_bad s sep h).2]
    refine (splitS_none s sep w h h1 h2).mono ?_
    rintro e w' ⟨rfl, rfl⟩
    exact ⟨_, rfl, own_of_w (w_none w), (Below.refl _ _).alloc (Nat.le_refl _) _⟩
  · obtain ⟨c, rfl⟩ := sep_one' (sep := sep) (by omega)
    have hs : s.size ≤ 4000 := by omega
    rw [(sp_good s c hs).1, (sp_good s c hs).2]
    exact splitS_some s c w hs
theorem spOut_len (s sep : ByteArray) : (spOut s sep).length ≤ 4001 := by
  by_cases h : sep.size ≠ 1 ∨ 4000 < s.size
  · rw [(sp_bad s sep h).1]; simp
  · obtain ⟨c, rfl⟩ := sep_one' (sep := sep) (by omega)
    have hs : s.size ≤ 4000 := by omega
    rw [(sp_good s c hs).1]
    have := spTexts_len c s
    omega
end Go.Proofs.YtnbpdgkpamgcfaaDoor
