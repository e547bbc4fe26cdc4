/- spec.ParseInt and impl.ParseInt: the number and true for a number's own text, 0 and false for every other text. -/
import Derived.Test.YtnbpdgkpamgcfaaDoorReadImpl
namespace Go.Proofs.YtnbpdgkpamgcfaaDoor
open Go.RowKit

/-- s is the text of the number m -/
structure IsNum (s : ByteArray) (m : Int) : Prop where
  text : numS m = s
  lo : -999999 ≤ m
  hi : m ≤ 999999
def PYes (m : Int) (w : World) (e : Ending) (w' : World) : Prop := e = .returned (.tuple #[.int .i64 m, .bool true]) ∧ Below w.heap.size w w'
def PNo (w : World) (e : Ending) (w' : World) : Prop := e = .returned (.tuple #[.int .i64 0, .bool false]) ∧ Below w.heap.size w w'

theorem numS_list_nat (u : Nat) : (numS (u : Int)).data.toList = Lib.decDigits u := by rw [numS_nat]; simp [decS]
theorem numS_list_neg (u : Nat) (h : 1 ≤ u) : (numS (-(u : Int))).data.toList = 45 :: Lib.decDigits u := by
  unfold numS
  rw [Lib.itoa_neg u h]
theorem extract_one (s : ByteArray) : (s.extract 1 s.size).data.toList = s.data.toList.drop 1 := by
  rw [Lib.extract_data]
  rw [List.take_of_length_le]
  rw [List.length_drop, ← Lib.size_eq]
  exact Nat.le_refl _
theorem dec_head (u : Nat) : (Lib.decDigits u)[0]?.getD 0 ≠ 45 := by
  have h1 := dec_pos u
  have h2 := dec_digit u
  match h : Lib.decDigits u with
  | [] => rw [h] at h1; simp at h1
  | c :: l =>
    rw [h] at h2
    have := digL_head c l h2
    simp only [List.getElem?_cons_zero, Option.getD_some]
    intro e
    rw [e] at this
    revert this
    decide
theorem valid_plain {s : ByteArray} (hneg : ¬ (1 < s.size ∧ s.data.toList[0]?.getD 0 = 45)) {m : Int} (h : IsNum s m) : (1 ≤ s.size ∧ s.size ≤ 6) ∧ digL s.data.toList = true ∧ valL s.data.toList = m := by
  obtain ⟨ht, hlo, hhi⟩ := h
  by_cases hm : 0 ≤ m
  · obtain ⟨u, rfl⟩ : ∃ u : Nat, m = (u : Int) := ⟨m.toNat, by omega⟩
    have hl : s.data.toList = Lib.decDigits u := by rw [← ht]; exact numS_list_nat u
    refine ⟨?_, by rw [hl]; exact dec_digit u, by rw [hl]; exact dec_val u⟩
    rw [Lib.size_eq, hl]
    exact ⟨dec_pos u, dec_len6 u (by omega)⟩
  · obtain ⟨u, rfl⟩ : ∃ u : Nat, m = -(u : Int) := ⟨m.natAbs, by omega⟩
    have hl : s.data.toList = 45 :: Lib.decDigits u := by rw [← ht]; exact numS_list_neg u (by omega)
    refine absurd ⟨?_, ?_⟩ hneg
    · rw [Lib.size_eq, hl, List.length_cons]
      have := dec_pos u
      omega
    · rw [hl]; rfl
theorem valid_neg {s : ByteArray} (h45 : s.data.toList[0]?.getD 0 = 45) {m : Int} (h : IsNum s m) :
    (1 ≤ (s.extract 1 s.size).size ∧ (s.extract 1 s.size).size ≤ 6) ∧ digL (s.extract 1 s.size).data.toList = true ∧ -valL (s.extract 1 s.size).data.toList = m := by
  obtain ⟨ht, hlo, hhi⟩ := h
  by_cases hm : 0 ≤ m
  · obtain ⟨u, rfl⟩ : ∃ u : Nat, m = (u : Int) := ⟨m.toNat, by omega⟩
    have hl : s.data.toList = Lib.decDigits u := by rw [← ht]; exact numS_list_nat u
    rw [hl] at h45
    exact absurd h45 (dec_head u)
  · obtain ⟨u, rfl⟩ : ∃ u : Nat, m = -(u : Int) := ⟨m.natAbs, by omega⟩
    have hl : s.data.toList = 45 :: Lib.decDigits u := by rw [← ht]; exact numS_list_neg u (by omega)
    have hd : (s.extract 1 s.size).data.toList = Lib.decDigits u := by rw [extract_one, hl]; rfl
    refine ⟨?_, by rw [hd]; exact dec_digit u, by rw [hd, dec_val]⟩
    rw [Lib.size_eq, hd]
    exact ⟨dec_pos u, dec_len6 u (by omega)⟩

theorem read_plain_yes {s : ByteArray} {m : Int} (hneg : ¬ (1 < s.size ∧ s.data.toList[0]?.getD 0 = 45)) (h : IsNum s m) {w w' : World} {e : Ending} (hr : ReadAns s s (valL s.data.toList) w e w') : PYes m w e w' := by
  have hv := valid_plain hneg h
  refine ⟨?_, hr.2.2⟩
  rw [hr.1 ⟨hv.1, hv.2.1, by rw [hv.2.2]; exact h.text⟩, hv.2.2]
theorem read_plain_no {s : ByteArray} (h : ∀ m, ¬ IsNum s m) {w w' : World} {e : Ending} (hr : ReadAns s s (valL s.data.toList) w e w') : PNo w e w' := by
  refine ⟨hr.2.1 (fun hc => ?_), hr.2.2⟩
  have h1 := valL_ge _ hc.2.1
  have h2 := valL_lt6 _ hc.2.1 (by rw [← Lib.size_eq]; exact hc.1.2)
  exact h _ ⟨hc.2.2, by omega, h2⟩
theorem read_neg_yes {s : ByteArray} {m : Int} (h45 : s.data.toList[0]?.getD 0 = 45) (h : IsNum s m) {w w' : World} {e : Ending} (hr : ReadAns s (s.extract 1 s.size) (-valL (s.extract 1 s.size).data.toList) w e w') : PYes m w e w' := by
  have hv := valid_neg h45 h
  refine ⟨?_, hr.2.2⟩
  rw [hr.1 ⟨hv.1, hv.2.1, by rw [hv.2.2]; exact h.text⟩, hv.2.2]
theorem read_neg_no {s : ByteArray} (h : ∀ m, ¬ IsNum s m) {w w' : World} {e : Ending} (hr : ReadAns s (s.extract 1 s.size) (-valL (s.extract 1 s.size).data.toList) w e w') : PNo w e w' := by
  refine ⟨hr.2.1 (fun hc => ?_), hr.2.2⟩
  have h1 := valL_ge _ hc.2.1
  have h2 := valL_lt6 _ hc.2.1 (by rw [← Lib.size_eq]; exact hc.1.2)
  exact h _ ⟨hc.2.2, by omega, by omega⟩

theorem l1Read_yes (s : ByteArray) (m : Int) (h : IsNum s m) (w : World) (hs : s.size ≤ 9223372036854775807) :
    Calls Tryd.prog 43 #[.string s] w (PYes m w) := by
  by_cases hneg : 1 < s.size ∧ s.data.toList[0]?.getD 0 = 45
  · exact (l1Read_neg s w hs hneg.1 hneg.2).mono fun _ _ hr => read_neg_yes hneg.2 h hr
  · exact (l1Read_plain s w hs hneg).mono fun _ _ hr => read_plain_yes hneg h hr
theorem l1Read_no (s : ByteArray) (h : ∀ m, ¬ IsNum s m) (w : World) (hs : s.size ≤ 9223372036854775807) :
    Calls Tryd.prog 43 #[.string s] w (PNo w) := by
  by_cases hneg : 1 < s.size ∧ s.data.toList[0]?.getD 0 = 45
  · exact (l1Read_neg s w hs hneg.1 hneg.2).mono fun _ _ hr => read_neg_no h hr
  · exact (l1Read_plain s w hs hneg).mono fun _ _ hr => read_plain_no h hr

set_option maxHeartbeats 400000 in
theorem parseS_yes (s : ByteArray) (m : Int) (h : IsNum s m) (w : World) (hs : s.size ≤ 9223372036854775807) :
    Calls Tryd.prog 16 #[.string s] w (PYes m w) := by
  go_enter Tryd.func16, Tryd.ntmps16
  go_wp2_with (go_at_call 43; refine (l1Read_yes s m h _ hs).mono ?_; rintro e w' ⟨rfl, hb⟩)
  go_ret2
  exact ⟨rfl, hb⟩
set_option maxHeartbeats 400000 in
theorem parseS_no (s : ByteArray) (h : ∀ m, ¬ IsNum s m) (w : World) (hs : s.size ≤ 9223372036854775807) :
    Calls Tryd.prog 16 #[.string s] w (PNo w) := by
  have H := Lib.hid h
  clear h
  go_enter Tryd.func16, Tryd.ntmps16
  go_wp2_with (go_at_call 43; refine (l1Read_no s H.out _ hs).mono ?_; rintro e w' ⟨rfl, hb⟩)
  go_ret2
  exact ⟨rfl, hb⟩

theorem readDec_num (s : ByteArray) (m : Int) (h : IsNum s m) (w : World) :
    Calls Tryd.prog 42 #[.string s] w fun e w' => e = .returned (.int .i64 m) ∧ w = w' := by
  obtain ⟨ht, hlo, hhi⟩ := h
  by_cases hm : 0 ≤ m
  · obtain ⟨u, rfl⟩ : ∃ u : Nat, m = (u : Int) := ⟨m.toNat, by omega⟩
    exact readDec_nat s u w (by rw [← ht]; exact numS_list_nat u) (by omega)
  · obtain ⟨u, rfl⟩ : ∃ u : Nat, m = -(u : Int) := ⟨m.natAbs, by omega⟩
    exact readDec_neg s (decS u) u w (by rw [← ht]; exact numS_neg u (by omega)) (by simp [decS]) (by omega)

set_option maxHeartbeats 400000 in
theorem parseI_yes (s : ByteArray) (m : Int) (h : IsNum s m) (w : World) (hT : TabOk w) :
    Calls Tryd.prog 15 #[.string s] w (PYes m w) := by
  have hr : -999999 ≤ m ∧ m ≤ 999999 := ⟨h.lo, h.hi⟩
  have H1 := Lib.hid ((fmtS_in hr).trans h.text)
  have H2 := Lib.hid (fmtIn_in hr)
  clear hr
  go_enter Tryd.func15, Tryd.ntmps15
  go_wp2_with fail
  refine (readDec_num s m h _).mono ?_
  rintro e w' ⟨rfl, rfl⟩
  go_wp2_with fail
  refine (formatI_any m w hT).mono ?_
  rintro e w1 ⟨rfl, hb⟩
  rw [H1.out, H2.out]
  go_wp2_with fail
  go_ret2
  exact ⟨rfl, hb⟩
set_option maxHeartbeats 400000 in
theorem parseI_no (s : ByteArray) (h : ∀ m, ¬ IsNum s m) (w : World) (hs : s.size ≤ 9223372036854775807) (hT : TabOk w) :
    Calls Tryd.prog 15 #[.string s] w (PNo w) := by
  have H := Lib.hid h
  clear h
  go_enter Tryd.func15, Tryd.ntmps15
  go_wp2_with fail
  refine (readDec_some s _ hs).mono ?_
  rintro e w' ⟨v, rfl, rfl⟩
  go_wp2_with fail
  refine (formatI_any v w hT).mono ?_
  rintro e w1 ⟨rfl, hb⟩
  by_cases hr : -999999 ≤ v ∧ v ≤ 999999
  · have hne : ¬ numS v = s := fun e => H.out v ⟨e, hr.1, hr.2⟩
    have hq := str_ne hne
    rw [fmtS_in hr, fmtIn_in hr]
    clear hr hne
    go_wp2_with fail
    go_ret2
    exact ⟨rfl, hb⟩
  · rw [fmtS_out hr, fmtIn_out hr]
    clear hr
    go_wp2_with fail
    go_ret2
    exact ⟨rfl, hb⟩
end Go.Proofs.YtnbpdgkpamgcfaaDoor
