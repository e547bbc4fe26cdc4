/- The table of choices by their last seats: mathematics. Plain lemmas: no function of the program. -/
import Derived.Test.YtoedcklgpmhnnaaEndM9
import Derived.Test.YtoedcklgpmhnnaaMidA9
namespace Go.Proofs.Ytoedcklgpmhnnaa

/-- what is known of the seat of index t when those before j have been gone through -/
def knA (d : Nat) (rest : List Nat) (t j : Nat) : Nat → Nat := if t = 0 then knF else knP d rest j (rest[t - 1]?.getD 0)
theorem knA_self (d : Nat) (rest : List Nat) (j : Nat) : knA d rest j j = knE d rest j := rfl
theorem knA_le {d : Nat} {rest : List Nat} {t j k : Nat} (hl : rest.length ≤ 24) : knA d rest t j k ≤ 16777216 := by
  unfold knA
  by_cases h : t = 0
  · rw [if_pos h]; unfold knF; split <;> omega
  · rw [if_neg h]; exact knP_le hl
/-- a first seat and those that may follow it -/
structure Ends (n : Nat) (ring : Bool) (d first : Nat) (rest : List Nat) : Prop where
  sorted : (first :: rest).Pairwise (· < ·)
  lt : ∀ y ∈ first :: rest, y < n
  far : ∀ y ∈ rest, d ≤ gapM n ring first y
  steps : Steps n ring d rest
theorem ends_of {n : Nat} {ring : Bool} {d : Nat} {l : List Nat} {i : Nat} (hs : l.Pairwise (· < ·)) (hn : ∀ y ∈ l, y < n) (hi : i < l.length) : Ends n ring d (l[i]?.getD 0) (restM n ring d (l[i]?.getD 0) (l.drop (i + 1))) := by
  have e : l.drop i = l[i]?.getD 0 :: l.drop (i + 1) := by
    rw [List.drop_eq_getElem_cons hi, List.getElem?_eq_getElem hi]; rfl
  have h1 : (l[i]?.getD 0 :: l.drop (i + 1)).Pairwise (· < ·) := by rw [← e]; exact hs.sublist (List.drop_sublist _ _)
  have h2 : ∀ y ∈ l[i]?.getD 0 :: l.drop (i + 1), y < n := fun y hy => hn y (by rw [← e] at hy; exact List.mem_of_mem_drop hy)
  rw [List.pairwise_cons] at h1
  refine ⟨List.pairwise_cons.2 ⟨fun y hy => h1.1 y (List.mem_filter.1 hy).1, h1.2.filter _⟩, fun y hy => ?_, fun y hy => by simpa using (List.mem_filter.1 hy).2, rest_steps fun y hy => ⟨h1.1 y hy, h2 y (by simp [hy])⟩⟩
  rcases List.mem_cons.1 hy with h | h
  · exact h2 y (by simp [h])
  · exact h2 y (by simp [(List.mem_filter.1 h).1])
theorem Ends.mono {n : Nat} {ring : Bool} {d first : Nat} {rest : List Nat} (h : Ends n ring d first rest) {s t : Nat} (hst : s < t) (ht : t < rest.length + 1) : (first :: rest)[s]?.getD 0 < (first :: rest)[t]?.getD 0 := by
  have hp := List.pairwise_iff_getElem.1 h.sorted s t (by simp; omega) (by simp; omega) hst
  rw [List.getElem?_eq_getElem (by simp; omega), List.getElem?_eq_getElem (by simp; omega)]
  exact hp
theorem Ends.inj {n : Nat} {ring : Bool} {d first : Nat} {rest : List Nat} (h : Ends n ring d first rest) {s t : Nat} (hs : s < rest.length + 1) (ht : t < rest.length + 1) (e : (first :: rest)[s]?.getD 0 = (first :: rest)[t]?.getD 0) : s = t := by
  rcases Nat.lt_trichotomy s t with h1 | h1 | h1
  · have := h.mono h1 ht; omega
  · exact h1
  · have := h.mono h1 hs; omega
theorem Ends.at_lt {n : Nat} {ring : Bool} {d first : Nat} {rest : List Nat} (h : Ends n ring d first rest) {t : Nat} (ht : t < rest.length + 1) : (first :: rest)[t]?.getD 0 < n := by
  rw [List.getElem?_eq_getElem (by simpa using ht)]
  exact h.lt _ (List.getElem_mem _)
/-- those that may follow the seat of index j -/
def folA (n : Nat) (ring : Bool) (d first : Nat) (rest : List Nat) (j : Nat) : List Nat := restM n ring d ((first :: rest)[j]?.getD 0) ((first :: rest).drop (j + 1))
theorem mem_folA {n : Nat} {ring : Bool} {d first : Nat} {rest : List Nat} {j t : Nat} (h : Ends n ring d first rest) (hjt : j < t) (ht : t < rest.length + 1) : (first :: rest)[t]?.getD 0 ∈ folA n ring d first rest j ↔ (j = 0 ∨ rest[j - 1]?.getD 0 + d ≤ rest[t - 1]?.getD 0) := by
  unfold folA restM
  rw [List.mem_filter, decide_eq_true_eq]
  obtain ⟨t, rfl⟩ : ∃ t', t = t' + 1 := ⟨t - 1, by omega⟩
  have hm : (first :: rest)[t + 1]?.getD 0 ∈ (first :: rest).drop (j + 1) := by
    rw [List.getElem?_eq_getElem (by simpa using ht)]
    refine List.mem_iff_getElem.2 ⟨t - j, by simp; omega, ?_⟩
    rw [List.getElem_drop]
    congr 1
    omega
  have e1 : (first :: rest)[t + 1]?.getD 0 = rest[t]?.getD 0 := by rw [List.getElem?_cons_succ]
  have e3 : rest[t]?.getD 0 ∈ rest := by rw [List.getElem?_eq_getElem (by omega)]; exact List.getElem_mem _
  rw [e1] at hm ⊢
  show _ ↔ (j = 0 ∨ rest[j - 1]?.getD 0 + d ≤ rest[t]?.getD 0)
  match j with
  | 0 => exact ⟨fun _ => .inl rfl, fun _ => ⟨hm, h.far _ e3⟩⟩
  | j + 1 =>
    have e2 : (first :: rest)[j + 1]?.getD 0 = rest[j]?.getD 0 := by rw [List.getElem?_cons_succ]
    have e4 : rest[j]?.getD 0 ∈ rest := by rw [List.getElem?_eq_getElem (by omega)]; exact List.getElem_mem _
    have hlt := h.mono (s := j + 1) (t := t + 1) hjt ht
    rw [e1, e2] at hlt
    have hs := h.steps _ e4 _ e3 hlt
    rw [e2]
    constructor
    · rintro ⟨-, h2⟩; exact .inr (hs.1 h2)
    · rintro (h2 | h2)
      · omega
      · exact ⟨hm, hs.2 h2⟩
theorem folA_of {n : Nat} {ring : Bool} {d first : Nat} {rest : List Nat} {j q : Nat} (hq : q ∈ folA n ring d first rest j) : ∃ t, j < t ∧ t < rest.length + 1 ∧ (first :: rest)[t]?.getD 0 = q := by
  unfold folA restM at hq
  obtain ⟨i, hi, e⟩ := List.mem_iff_getElem.1 (List.mem_filter.1 hq).1
  rw [List.length_drop, List.length_cons] at hi
  rw [List.getElem_drop] at e
  exact ⟨j + 1 + i, by omega, by omega, by rw [List.getElem?_eq_getElem (by simp; omega)]; exact e⟩
theorem knA_no {n : Nat} {ring : Bool} {d first : Nat} {rest : List Nat} {j t : Nat} (h : Ends n ring d first rest) (hjt : j < t) (ht : t < rest.length + 1) (hm : (first :: rest)[t]?.getD 0 ∉ folA n ring d first rest j) (k : Nat) : knA d rest t (j + 1) k = knA d rest t j k := by
  rw [mem_folA h hjt ht] at hm
  unfold knA
  rw [if_neg (by omega), if_neg (by omega)]
  exact knP_skip (by omega) (by omega) (by omega) k
theorem knA_yes {n : Nat} {ring : Bool} {d first : Nat} {rest : List Nat} {j t : Nat} (h : Ends n ring d first rest) (hjt : j < t) (ht : t < rest.length + 1) (hm : (first :: rest)[t]?.getD 0 ∈ folA n ring d first rest j) (k : Nat) : adA (knE d rest j) (knA d rest t j) k = knA d rest t (j + 1) k := by
  rw [mem_folA h hjt ht] at hm
  unfold knA
  rw [if_neg (by omega), if_neg (by omega)]
  match k with
  | 0 => rfl
  | k + 1 => exact (knP_step (by omega) hm k).symm
/-- what the table holds of the seats from index lo on -/
structure TbA (first : Nat) (rest : List Nat) (L : List Value) (lo : Nat) (F : Nat → Nat → Nat) : Prop where
  len : L.length = 600
  val : ∀ t, lo ≤ t → t < rest.length + 1 → ∀ k, k < 25 → L[(first :: rest)[t]?.getD 0 * 25 + k]? = some (.int .i64 ((F t k : Nat) : Int))
/-- the empty choice -/
def oneA (k : Nat) : Nat := if k = 0 then 1 else 0
theorem adA_one (k : Nat) : adA oneA (fun _ => 0) k = knF k := by
  match k with
  | 0 => rfl
  | 1 => rfl
  | k + 2 => rfl
theorem TbA.start {n : Nat} {ring : Bool} {d first : Nat} {rest : List Nat} {Z L : List Value} (h : Ends n ring d first rest) (hn : n ≤ 24) (hz : Z.length = 600) (hZ : ∀ i, i < 600 → Z[i]? = some (.int .i64 0)) (hA : AddT (first * 25) Z L (adA oneA fun _ => 0)) : TbA first rest L 0 (fun t => knA d rest t 0) := by
  obtain ⟨h1, h2, h3⟩ := hA
  refine ⟨by rw [h1, hz], fun t _ ht k hk => ?_⟩
  have htn := h.at_lt ht
  match t with
  | 0 =>
    show L[first * 25 + k]? = _
    rw [h2 k hk, adA_one]
    rfl
  | t + 1 =>
    have hlt := h.mono (s := 0) (t := t + 1) (by omega) ht
    have e0 : (first :: rest)[0]?.getD 0 = first := rfl
    rw [e0] at hlt
    rw [h3 _ (by omega), hZ _ (by omega)]
    unfold knA
    rw [if_neg (by omega), knP_zero]
    rfl
/-- .. while those that may follow the seat of index j are gone through -/
def F3 (d first : Nat) (rest R : List Nat) (j u t : Nat) : Nat → Nat := if t ≤ j then knA d rest t j else if (first :: rest)[t]?.getD 0 ∈ R.drop u then knA d rest t j else knA d rest t (j + 1)
theorem TbA.begin {n : Nat} {ring : Bool} {d first : Nat} {rest : List Nat} {L : List Value} {j : Nat} (h : Ends n ring d first rest) (hT : TbA first rest L j (fun t => knA d rest t j)) : TbA first rest L j (F3 d first rest (folA n ring d first rest j) j 0) := by
  refine ⟨hT.len, fun t h1 h2 k hk => ?_⟩
  rw [hT.val t h1 h2 k hk]
  unfold F3
  by_cases h3 : t ≤ j
  · rw [if_pos h3]
  · rw [if_neg h3, List.drop_zero]
    by_cases h4 : (first :: rest)[t]?.getD 0 ∈ folA n ring d first rest j
    · rw [if_pos h4]
    · rw [if_neg h4, knA_no h (by omega) h2 h4]
theorem TbA.fin {n : Nat} {ring : Bool} {d first : Nat} {rest : List Nat} {L : List Value} {j : Nat} (hT : TbA first rest L j (F3 d first rest (folA n ring d first rest j) j (folA n ring d first rest j).length)) : TbA first rest L (j + 1) (fun t => knA d rest t (j + 1)) := by
  refine ⟨hT.len, fun t h1 h2 k hk => ?_⟩
  rw [hT.val t (by omega) h2 k hk]
  unfold F3
  rw [if_neg (by omega), if_neg (by rw [List.drop_length]; simp)]
theorem fol_sorted {n : Nat} {ring : Bool} {d first : Nat} {rest : List Nat} (h : Ends n ring d first rest) (j : Nat) : (folA n ring d first rest j).Pairwise (· < ·) := by
  unfold folA restM
  exact (h.sorted.sublist (List.drop_sublist _ _)).filter _
theorem TbA.step {n : Nat} {ring : Bool} {d first : Nat} {rest : List Nat} {L L' : List Value} {j u t : Nat} (h : Ends n ring d first rest) (hn : n ≤ 24) (hj : j < rest.length + 1) (hjt : j < t) (ht : t < rest.length + 1) (hu : u < (folA n ring d first rest j).length) (hq : (folA n ring d first rest j)[u]?.getD 0 = (first :: rest)[t]?.getD 0) (hT : TbA first rest L j (F3 d first rest (folA n ring d first rest j) j u))
    (hA : AddT ((first :: rest)[t]?.getD 0 * 25) L L' (adA (knE d rest j) (knA d rest t j))) : TbA first rest L' j (F3 d first rest (folA n ring d first rest j) j (u + 1)) := by
  obtain ⟨h1, h2, h3⟩ := hA
  have hmem : (folA n ring d first rest j)[u]?.getD 0 ∈ folA n ring d first rest j := by rw [List.getElem?_eq_getElem hu]; exact List.getElem_mem _
  have hsrt := fol_sorted h j
  have hdr : (folA n ring d first rest j).drop u = (folA n ring d first rest j)[u]?.getD 0 :: (folA n ring d first rest j).drop (u + 1) := by
    rw [List.drop_eq_getElem_cons hu, List.getElem?_eq_getElem hu]; rfl
  have hnot : (folA n ring d first rest j)[u]?.getD 0 ∉ (folA n ring d first rest j).drop (u + 1) := by
    intro hm
    have := hsrt.sublist (List.drop_sublist u _)
    rw [hdr, List.pairwise_cons] at this
    have := this.1 _ hm
    omega
  refine ⟨by rw [h1, hT.len], fun s hs1 hs2 k hk => ?_⟩
  by_cases e : s = t
  · subst e
    rw [h2 k hk]
    unfold F3
    rw [if_neg (by omega), if_neg (by rw [← hq]; exact hnot), knA_yes h hjt ht (by rw [← hq]; exact hmem)]
  · have hne : (first :: rest)[s]?.getD 0 ≠ (first :: rest)[t]?.getD 0 := fun e2 => e (h.inj hs2 ht e2)
    have hsn := h.at_lt hs2
    have htn := h.at_lt ht
    rw [h3 _ (by omega), hT.val s hs1 hs2 k hk]
    unfold F3
    by_cases h4 : s ≤ j
    · rw [if_pos h4, if_pos h4]
    · rw [if_neg h4, if_neg h4]
      have : (first :: rest)[s]?.getD 0 ∈ (folA n ring d first rest j).drop u ↔ (first :: rest)[s]?.getD 0 ∈ (folA n ring d first rest j).drop (u + 1) := by
        rw [hdr, List.mem_cons]
        constructor
        · rintro (h5 | h5)
          · rw [hq] at h5; exact absurd h5 hne
          · exact h5
        · exact .inr
      by_cases h5 : (first :: rest)[s]?.getD 0 ∈ (folA n ring d first rest j).drop u
      · rw [if_pos h5, if_pos (this.1 h5)]
      · rw [if_neg h5, if_neg (fun h6 => h5 (this.2 h6))]
/-- what is read of a seat -/
theorem TbA.read {first : Nat} {rest : List Nat} {L : List Value} {lo : Nat} {F : Nat → Nat → Nat} (h : TbA first rest L lo F) {t : Nat} (h1 : lo ≤ t) (h2 : t < rest.length + 1) : ∀ i, i < (cv (F t)).length → L[(first :: rest)[t]?.getD 0 * 25 + i]? = (cv (F t))[i]? := by
  intro i hi
  rw [cv_len] at hi
  rw [h.val t h1 h2 i hi, cv_get hi]
theorem F3_self (d first : Nat) (rest R : List Nat) (j u : Nat) : F3 d first rest R j u j = knE d rest j := by
  unfold F3
  rw [if_pos (Nat.le_refl _)]
  rfl
theorem F3_next {d first : Nat} {rest R : List Nat} {j u t : Nat} (hjt : j < t) (hu : u < R.length) (hq : R[u]?.getD 0 = (first :: rest)[t]?.getD 0) : F3 d first rest R j u t = knA d rest t j := by
  unfold F3
  rw [if_neg (by omega), if_pos]
  have hd := List.drop_eq_getElem_cons hu
  rw [← hq, List.getElem?_eq_getElem hu, hd]
  exact List.mem_cons_self
end Go.Proofs.Ytoedcklgpmhnnaa
