/- spec.l1Split: the pieces of a text at one byte, for every text of at most 1048576 bytes and every byte, in memory of the call's own. -/
import Derived.Test.YtnbpdgkpamgcfaaDoorSplitMath
import Derived.Test.YtnbpdgkpamgcfaaDoorOwnArr
import Derived.Test.YtnbpdgkpamgcfaaDoorSum
namespace Go.Proofs.YtnbpdgkpamgcfaaDoor
open Go.RowKit

theorem infoStr : (Tryd.prog.info? 9).map (fun i => (i.zero, i.size, i.bytes)) = some (some (.string ⟨#[]⟩), 1, 16) := by kernel_rfl

/-- the strings of a list of lists of bytes, as values -/
def strVals (ps : List (List UInt8)) : List Value := ps.map fun l => Value.string ⟨l.toArray⟩
theorem strVals_snoc (ps : List (List UInt8)) (p : List UInt8) : strVals (ps ++ [p]) = strVals ps ++ [Value.string ⟨p.toArray⟩] := by simp [strVals]
theorem piece_eq (s : ByteArray) (fr k : Nat) (c : UInt8) (h : spCur c (s.data.toList.take k) = (s.data.toList.drop fr).take (k - fr)) : (s.extract fr k) = ⟨(spCur c (s.data.toList.take k)).toArray⟩ := by
  apply ByteArray.ext
  apply Array.ext'
  rw [Lib.extract_data, h]

/-- a result of the call's own: a slice of strings behind block B -/
def OwnStrs (B : Nat) (w : World) (v : Value) (ss : List ByteArray) : Prop := ∃ g cap, v = .slice (some ⟨g, 0, none⟩) ss.length cap ∧ ss.length ≤ cap ∧ B ≤ g ∧ InStrs w (some ⟨g, 0, none⟩) ss

theorem own_strs {B : Nat} {w : World} {v : Value} {ps : List (List UInt8)} (h : w.ownsRow B 9 1 v ps.length (strVals ps)) (h0 : 0 < ps.length) (hl : ps.length ≤ 9223372036854775807) (he : ∀ p ∈ ps, p.length ≤ 9223372036854775807) :
    OwnStrs B w v (ps.map fun l => ⟨l.toArray⟩) := by
  obtain ⟨hlen, hr⟩ := h
  rcases hr with ⟨_, hz⟩ | ⟨g, cap, cur, hv, hB, hh, hn, hcap, hcur, htake⟩
  · omega
  · refine ⟨g, cap, by rw [hv]; simp, by simpa using hn, hB, ⟨by simpa using hl, ?_, fun _ => ⟨g, 0, rfl, ?_, fun i hi => ?_⟩⟩⟩
    · intro s hs
      obtain ⟨l, hm, rfl⟩ := List.mem_map.1 hs
      rw [Lib.size_eq]
      simpa using he l hm
    · rcases Nat.lt_or_ge g w.heap.size with h' | h'
      · exact h'
      · rw [Array.getElem?_eq_none h'] at hh; cases hh
    · have hi' : i < ps.length := by simpa using hi
      have e1 : cur[i]? = (strVals ps)[i]? := by
        rw [← htake, Nat.mul_one, List.getElem?_take, if_pos hi', Array.getElem?_toList]
      have e2 : (strVals ps)[i]? = some (Value.string ⟨(ps[i]).toArray⟩) := by simp [strVals, hi']
      have e3 : (ps.map fun l => (⟨l.toArray⟩ : ByteArray))[i]?.getD ByteArray.empty = ⟨(ps[i]).toArray⟩ := by simp [hi']
      rw [e3, Nat.zero_add]
      simp only [World.cell?, hh, Option.isSome_none, Bool.false_eq_true, if_false]
      rw [e1, e2]

theorem own_block {w : World} {B : Nat} {e : TypeId} {v : Value} {n : Nat} {xs : List Value} (h : w.ownsRow B e 1 v n xs) : ∀ k, v.ownBlock = some k → B ≤ k := by
  intro k hk
  obtain ⟨_, hr⟩ := h
  rcases hr with ⟨hv, _⟩ | ⟨g, cap, cur, hv, hB, _⟩
  · subst hv; simp [Value.ownBlock] at hk
  · subst hv; simp [Value.ownBlock] at hk; omega
theorem spAll_len (c : UInt8) (s : ByteArray) (hs : s.size ≤ 1048576) : ∀ p ∈ spAll c s.data.toList, p.length ≤ 9223372036854775807 := by
  have key : ∀ (l : List UInt8) (st : List (List UInt8) × List UInt8) (N : Nat), (∀ p ∈ st.1, p.length ≤ N) → st.2.length + l.length ≤ N → (∀ p ∈ (l.foldl (spStep c) st).1, p.length ≤ N) ∧ (l.foldl (spStep c) st).2.length ≤ N := by
    intro l
    induction l with
    | nil => intro st N h1 h2; exact ⟨h1, by simpa using h2⟩
    | cons a l ih =>
      intro st N h1 h2
      simp only [List.foldl_cons]
      simp only [List.length_cons] at h2
      by_cases h : a = c
      · have e1 : spStep c st a = (st.1 ++ [st.2], []) := by simp [spStep, h]
        rw [e1]
        refine ih _ N ?_ (by simp; omega)
        intro p hp
        rcases List.mem_append.1 hp with hp | hp
        · exact h1 p hp
        · rw [List.mem_singleton.1 hp]; omega
      · have e1 : spStep c st a = (st.1, st.2 ++ [a]) := by simp [spStep, h]
        rw [e1]
        exact ih _ N h1 (by simp; omega)
  have h := key s.data.toList ([], []) 1048576 (by simp) (by rw [← Lib.size_eq]; simpa using hs)
  intro p hp
  unfold spAll at hp
  rcases List.mem_append.1 hp with hp | hp
  · have := h.1 p hp; omega
  · rw [List.mem_singleton.1 hp]; have := h.2; show (spCur c s.data.toList).length ≤ _; unfold spCur; omega

set_option maxHeartbeats 1000000 in
theorem l1Split_any (s : ByteArray) (c : UInt8) (w : World) (hs : s.size ≤ 1048576) :
    Calls Tryd.prog 53 #[.string s, .int .u8 (c.toNat : Int)] w fun e w' => ∃ v, e = .returned v ∧ OwnStrs w.heap.size w' v (spTexts c s) ∧ Below w.heap.size w w' := by
  obtain ⟨i0, hi, hz0, hz1, hz2⟩ := info_parts infoStr
  go_enter Tryd.func53, Tryd.ntmps53
  go_wp2
  go_loopw [5, 6, 7] (fun v fr i wr => ∃ (k f n : Nat) (xs : List Value), k ≤ s.size ∧ f ≤ k ∧ i = .int .i64 k ∧ fr = .int .i64 f ∧ wr.ownsRow w.heap.size 9 1 v n xs ∧ n ≤ k ∧ Hid (n = (spDone c (s.data.toList.take k)).length ∧ xs = strVals (spDone c (s.data.toList.take k))) ∧ Below w.heap.size w wr ∧ Hid (spCur c (s.data.toList.take k) = (s.data.toList.drop f).take (k - f))) (fun _ _ i _ => s.size - (intOf i).toNat)
  case atStart =>
    exact ⟨0, 0, 0, [], Nat.zero_le _, Nat.le_refl _, rfl, rfl, ⟨rfl, Or.inr ⟨w.heap.size, 0, #[], rfl, Nat.le_refl _, OwnArr.made w _ [], Nat.le_refl _, by unfold maxLen; omega, rfl, rfl⟩⟩, Nat.le_refl _, ⟨rfl, rfl⟩, (Below.refl _ _).alloc (Nat.le_refl _) _, by show _ = _; simp [spCur]⟩
  case round =>
    obtain ⟨k, f, n, xs, hk, hf, rfl, rfl, hown, hnk, HN, hbl, HC⟩ := hrel
    have hsize := hbl.size
    have hblk := own_block hown
    by_cases hlt : k < s.size
    · by_cases hc : s[k] = c
      · have he := byte_eq _ _ hc
        have HP : Hid (s.extract f k = ⟨(spCur c (s.data.toList.take k)).toArray⟩) := piece_eq s f k c HC.out
        have HD : Hid (spDone c (s.data.toList.take (k + 1)) = spDone c (s.data.toList.take k) ++ [spCur c (s.data.toList.take k)]) := by
          show _ = _
          rw [take_snoc s k hlt, hc, spDone_snoc_sep]
        have HC2 : Hid (spCur c (s.data.toList.take (k + 1)) = (s.data.toList.drop (k + 1)).take (k + 1 - (k + 1))) := by
          show _ = _
          rw [take_snoc s k hlt, hc, spCur_snoc_sep]
          simp
        clear hc
        have HB := Lib.hid hblk
        clear hblk
        go_wp2_with (at_builtin; refine wpList_append_own _ rfl _ _ 34 rfl w.heap.size 9 i0 (.string ⟨#[]⟩) 1 16 Tryd.underlying34 hi hz0 hz1 hz2 rfl (by decide) _ _ _ rfl (hown.alloc _) ⟨wr.heap.size, 0, none⟩ 1 1 [.string (s.extract f k)] rfl rfl (cell_one_new _ _ _) (fun x hx => by simp at hx; subst hx; rfl) (by unfold maxLen; omega) (by omega) (by simp; omega) ?_; intro v' w3 hown' hgrow3 hnil3)
        have hbl3 : Below w.heap.size w w3 := (hbl.alloc hsize _).grown hgrow3 (by simp; omega) HB.out
        have HX : Hid (n + 1 = (spDone c (s.data.toList.take (k + 1))).length ∧ xs ++ [.string (s.extract f k)] = strVals (spDone c (s.data.toList.take (k + 1)))) := by
          show _ ∧ _
          rw [HD.out, strVals_snoc, ← HP.out, ← HN.out.2]
          exact ⟨by rw [List.length_append, ← HN.out.1]; rfl, rfl⟩
        have HO : Hid (w3.ownsRow w.heap.size 9 1 v' (n + 1) (xs ++ [.string (s.extract f k)])) := hown'
        clear hown' hgrow3 hnil3 hown
        go_wp2
        go_roundw
        case rel => exact ⟨k + 1, k + 1, n + 1, _, by omega, Nat.le_refl _, by go_num, by go_num, HO.out, by omega, HX, hbl3, HC2⟩
        case measure => simp [intOf]; omega
      · have he := byte_ne _ _ hc
        have HX : Hid (n = (spDone c (s.data.toList.take (k + 1))).length ∧ xs = strVals (spDone c (s.data.toList.take (k + 1)))) := by
          show _ ∧ _
          rw [take_snoc s k hlt, spDone_snoc_other c _ _ hc]
          exact HN.out
        have HC2 : Hid (spCur c (s.data.toList.take (k + 1)) = (s.data.toList.drop f).take (k + 1 - f)) := by
          show _ = _
          rw [take_snoc s k hlt, spCur_snoc_other c _ _ hc, HC.out]
          have e : k + 1 - f = (k - f) + 1 := by omega
          have hl : k - f < (s.data.toList.drop f).length := by rw [List.length_drop, ← Lib.size_eq]; omega
          have e2 : f + (k - f) = k := by omega
          have hx : (s.data.toList.drop f)[k - f]'hl = s[k] := by
            simp only [List.getElem_drop, e2]
            rfl
          rw [e, List.take_succ_eq_append_getElem hl, hx]
        have HO := Lib.hid hown
        clear hc hown hblk
        go_wp2
        go_roundw
        case rel => exact ⟨k + 1, f, n, xs, by omega, by omega, by go_num, rfl, HO.out, by omega, HX, hbl, HC2⟩
        case measure => simp [intOf]; omega
    · have hke : k = s.size := by omega
      have hall : s.data.toList.take k = s.data.toList := List.take_of_length_le (by rw [← Lib.size_eq]; omega)
      have HP : Hid (s.extract f s.size = ⟨(spCur c s.data.toList).toArray⟩) := by
        have := piece_eq s f k c HC.out
        rw [hall, hke] at this
        exact this
      have HX : Hid (n + 1 = (spAll c s.data.toList).length ∧ xs ++ [.string (s.extract f s.size)] = strVals (spAll c s.data.toList)) := by
        show _ ∧ _
        have := HN.out
        rw [hall] at this
        unfold spAll
        rw [strVals_snoc, ← HP.out, ← this.2]
        exact ⟨by rw [List.length_append, ← this.1]; rfl, rfl⟩
      have HB := Lib.hid hblk
      have HL : Hid (∀ p ∈ spAll c s.data.toList, p.length ≤ 9223372036854775807) := spAll_len c s (by omega)
      clear hke hall hblk
      go_wp2_with (at_builtin; refine wpList_append_own _ rfl _ _ 34 rfl w.heap.size 9 i0 (.string ⟨#[]⟩) 1 16 Tryd.underlying34 hi hz0 hz1 hz2 rfl (by decide) _ _ _ rfl (hown.alloc _) ⟨wr.heap.size, 0, none⟩ 1 1 [.string (s.extract f s.size)] rfl rfl (cell_one_new _ _ _) (fun x hx => by simp at hx; subst hx; rfl) (by unfold maxLen; omega) (by omega) (by simp; omega) ?_; intro v' w3 hown' hgrow3 hnil3)
      have hbl3 : Below w.heap.size w w3 := (hbl.alloc hsize _).grown hgrow3 (by simp; omega) HB.out
      have HO : Hid (w3.ownsRow w.heap.size 9 1 v' (n + 1) (xs ++ [.string (s.extract f s.size)])) := hown'
      clear hown' hgrow3 hnil3 hown
      go_wp2
      go_ret
      refine ⟨v', rfl, ?_, hbl3⟩
      have h1 := HO.out
      rw [HX.out.2, HX.out.1] at h1
      exact own_strs h1 (by simp [spAll]) (by have := HX.out.1; omega) HL.out
end Go.Proofs.YtnbpdgkpamgcfaaDoor
