/- One changed byte of a sealed text is found: the plain mathematics. -/
import Derived.Test.YtnbpdgkpamgcfaaDoorVerify
import Derived.Test.YtnbpdgkpamgcfaaDoorParse
namespace Go.Proofs.YtnbpdgkpamgcfaaDoor
open Go.RowKit

/-- the fold of the checksum from a state -/
def sumFrom (h : Int) (l : List UInt8) : Int := l.foldl (fun h c => (41 * h + (c.toNat : Int) + 1) % 999979) h
theorem sumB_from (l : List UInt8) : sumB l = sumFrom 7 l := rfl
theorem sumFrom_append (h : Int) (a b : List UInt8) : sumFrom h (a ++ b) = sumFrom (sumFrom h a) b := by simp [sumFrom]
theorem sumFrom_inj (l : List UInt8) : ∀ (h1 h2 : Int), 0 ≤ h1 → h1 < 999979 → 0 ≤ h2 → h2 < 999979 → sumFrom h1 l = sumFrom h2 l → h1 = h2 := by
  induction l with
  | nil => intro h1 h2 _ _ _ _ e; exact e
  | cons c l ih =>
    intro h1 h2 a1 a2 b1 b2 e
    have e2 : (41 * h1 + (c.toNat : Int) + 1) % 999979 = (41 * h2 + (c.toNat : Int) + 1) % 999979 :=
      ih _ _ (Int.emod_nonneg _ (by decide)) (Int.emod_lt_of_pos _ (by decide)) (Int.emod_nonneg _ (by decide)) (Int.emod_lt_of_pos _ (by decide)) e
    have e3 : 999979 ∣ 41 * (h1 - h2) := by
      have h : (41 * h1 + (c.toNat : Int) + 1) - (41 * h2 + (c.toNat : Int) + 1) = 41 * (h1 - h2) := by omega
      rw [← h]
      exact Int.dvd_of_emod_eq_zero (Int.emod_eq_emod_iff_emod_sub_eq_zero.1 e2)
    obtain ⟨q, hq⟩ := e3
    omega
theorem sum_changed (a b : List UInt8) (c d : UInt8) (h : c ≠ d) : sumB (a ++ c :: b) ≠ sumB (a ++ d :: b) := by
  intro e
  rw [sumB_from, sumB_from, sumFrom_append, sumFrom_append] at e
  have hb := sumB_bd a
  rw [sumB_from] at hb
  have e1 : (41 * sumFrom 7 a + (c.toNat : Int) + 1) % 999979 = (41 * sumFrom 7 a + (d.toNat : Int) + 1) % 999979 :=
    sumFrom_inj b _ _ (Int.emod_nonneg _ (by decide)) (Int.emod_lt_of_pos _ (by decide)) (Int.emod_nonneg _ (by decide)) (Int.emod_lt_of_pos _ (by decide)) e
  have h1 := byte_bd c
  have h2 := byte_bd d
  have e2 : ((c.toNat : Int) - (d.toNat : Int)) % 999979 = 0 := by
    have := Int.emod_eq_emod_iff_emod_sub_eq_zero.1 e1
    have h : (41 * sumFrom 7 a + (c.toNat : Int) + 1) - (41 * sumFrom 7 a + (d.toNat : Int) + 1) = (c.toNat : Int) - (d.toNat : Int) := by omega
    rwa [h] at this
  exact h (UInt8.toNat_inj.1 (by omega))
theorem numS_inj {m n : Int} (h0 : 0 ≤ m) (h1 : 0 ≤ n) (e : numS m = numS n) : m = n := by
  obtain ⟨u, rfl⟩ : ∃ u : Nat, m = (u : Int) := ⟨m.toNat, by omega⟩
  obtain ⟨v, rfl⟩ : ∃ v : Nat, n = (v : Int) := ⟨n.toNat, by omega⟩
  have e1 := numS_list_nat u
  have e2 := numS_list_nat v
  rw [e, e2] at e1
  have := dec_val u
  rw [← e1, dec_val v] at this
  exact this.symm
theorem num_free (m : Int) (h0 : 0 ≤ m) : (35 : UInt8) ∉ (numS m).data.toList := by
  obtain ⟨u, rfl⟩ : ∃ u : Nat, m = (u : Int) := ⟨m.toNat, by omega⟩
  rw [numS_list_nat]
  intro hm
  have := dec_digit u
  unfold digL at this
  rw [List.all_eq_true] at this
  have := this _ hm
  revert this
  decide
theorem seal_list (s : ByteArray) : (sealS s).data.toList = s.data.toList ++ 35 :: (numS (sumB s.data.toList)).data.toList := by
  unfold sealS
  simp
/-- the first piece of a list with the byte in it -/
theorem firstT_list (c : UInt8) (s : ByteArray) (a b : List UInt8) (h : s.data.toList = a ++ c :: b) (hn : c ∉ a) : (firstT c s).data.toList = a := by
  unfold firstT
  rw [h, spAll_cut c a b hn]
  rfl
theorem not_mem_of_hasB {l : List UInt8} {c : UInt8} (h : hasB l c = false) : c ∉ l := by
  simpa [hasB] using h

/-- A sealed text is the sealed form of its first piece, and that piece is the text. -/
theorem sealed_first {x : ByteArray} (h : ApOk x) : firstT 35 (sealS x) = x := by
  apply ByteArray.ext
  apply Array.ext'
  exact firstT_list 35 (sealS x) _ _ (seal_list x) (not_mem_of_hasB h.mark)
theorem sealed_ok {x : ByteArray} (h : ApOk x) : VOk (sealS x) := ⟨h.whole, by rw [sealed_first h]⟩

/-- ████ One byte changed: it is no sealed text any more. ████ -/
theorem changed_not_ok {x y : ByteArray} (h : ApOk x) (a b : List UInt8) (c d : UInt8) (hx : (sealS x).data.toList = a ++ c :: b) (hy : y.data.toList = a ++ d :: b) (hcd : c ≠ d) : ¬ VOk y := by
  rintro ⟨_, hv⟩
  have hfree := not_mem_of_hasB h.mark
  have hl := seal_list x
  rw [hx] at hl
  have hv' : (firstT 35 y).data.toList ++ 35 :: (numS (sumB (firstT 35 y).data.toList)).data.toList = a ++ d :: b := by
    rw [← seal_list, hv, hy]
  have hmid : ∀ (N : List UInt8), c = 35 → a = x.data.toList → b = N → (35 : UInt8) ∉ N → False := by
    intro N h1 h2 h3 h4
    have hy35 : (35 : UInt8) ∉ y.data.toList := by
      rw [hy, h2, h3]
      intro hm
      rcases List.mem_append.1 hm with hm | hm
      · exact hfree hm
      · rcases List.mem_cons.1 hm with hm | hm
        · exact hcd (h1.trans hm)
        · exact h4 hm
    have hf : firstT 35 y = y := (firstT_none 35 y hy35).symm
    rw [hf, hy] at hv'
    have := congrArg List.length hv'
    simp at this
  have hN := num_free (sumB x.data.toList) (sumB_bd x.data.toList).1
  rcases List.append_eq_append_iff.1 hl with ⟨a', hX, hr⟩ | ⟨c', hA, hr⟩
  · cases a' with
    | nil =>
      simp only [List.append_nil, List.nil_append, List.cons.injEq] at hX hr
      exact hmid _ hr.1 hX.symm hr.2 hN
    | cons c0 r =>
      simp only [List.cons_append, List.cons.injEq] at hr
      obtain ⟨rfl, hb⟩ := hr
      have ha35 : (35 : UInt8) ∉ a := fun hm => hfree (by rw [hX]; simp [hm])
      have hr35 : (35 : UInt8) ∉ r := fun hm => hfree (by rw [hX]; simp [hm])
      by_cases hd : d = 35
      · have hf := firstT_list 35 y a b (by rw [hy, hd]) ha35
        rw [hf, hd, hb] at hv'
        have e := List.append_cancel_left hv'
        simp only [List.cons.injEq, true_and] at e
        have := num_free (sumB a) (sumB_bd a).1
        rw [e] at this
        exact this (by simp)
      · have hf := firstT_list 35 y (a ++ d :: r) (numS (sumB x.data.toList)).data.toList (by rw [hy, hb]; simp) (by
          intro hm
          rcases List.mem_append.1 hm with hm | hm
          · exact ha35 hm
          · rcases List.mem_cons.1 hm with hm | hm
            · exact hd hm.symm
            · exact hr35 hm)
        rw [hf, hb] at hv'
        have e : (a ++ d :: r) ++ 35 :: (numS (sumB (a ++ d :: r))).data.toList = (a ++ d :: r) ++ 35 :: (numS (sumB x.data.toList)).data.toList := by
          rw [hv']; simp
        have e2 := List.append_cancel_left e
        simp only [List.cons.injEq, true_and] at e2
        have e3 : numS (sumB (a ++ d :: r)) = numS (sumB x.data.toList) := ByteArray.ext (Array.ext' e2)
        have e4 := numS_inj (sumB_bd _).1 (sumB_bd _).1 e3
        rw [hX] at e4
        exact sum_changed a r c d hcd e4.symm
  · cases c' with
    | nil =>
      simp only [List.append_nil, List.nil_append, List.cons.injEq] at hA hr
      exact hmid _ hr.1.symm hA hr.2.symm hN
    | cons c0 t =>
      simp only [List.cons_append, List.cons.injEq] at hr
      obtain ⟨rfl, hb⟩ := hr
      have hf := firstT_list 35 y x.data.toList (t ++ d :: b) (by rw [hy, hA]; simp) hfree
      rw [hf, hb, hA] at hv'
      have e : x.data.toList ++ 35 :: (t ++ c :: b) = x.data.toList ++ 35 :: (t ++ d :: b) := by rw [hv']; simp
      have e2 := List.append_cancel_left e
      simp only [List.cons.injEq, true_and] at e2
      have e3 := List.append_cancel_left e2
      simp only [List.cons.injEq, and_true] at e3
      exact hcd e3
end Go.Proofs.YtnbpdgkpamgcfaaDoor
