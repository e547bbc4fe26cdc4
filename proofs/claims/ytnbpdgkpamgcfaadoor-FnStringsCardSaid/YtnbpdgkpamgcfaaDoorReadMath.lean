/- What reading decimal texts gives: the value of a list of digits, that of a number's own text. Plain lemmas. -/
import Derived.Test.YtnbpdgkpamgcfaaDoorFmt
import Derived.Lib.Strings
namespace Go.Proofs.YtnbpdgkpamgcfaaDoor
open Go.RowKit

theorem snoc_ind {P : List UInt8 → Prop} (h0 : P []) (h1 : ∀ l c, P l → P (l ++ [c])) (l : List UInt8) : P l := by
  have : ∀ n (m : List UInt8), m.length = n → P m := by
    intro n
    induction n with
    | zero => intro m hm; rw [List.length_eq_zero_iff.1 hm]; exact h0
    | succ n ih =>
      intro m hm
      rcases List.eq_nil_or_concat m with h | ⟨l, c, h⟩
      · subst h; cases hm
      · subst h
        rw [List.concat_eq_append] at hm ⊢
        exact h1 l c (ih l (by simpa using hm))
  exact this _ l rfl

/-- the value of a list of digits -/
def valL (l : List UInt8) : Int := l.foldl (fun n c => 10 * n + ((c.toNat : Int) - 48)) 0
/-- all bytes are digits -/
def digL (l : List UInt8) : Bool := l.all fun c => decide (48 ≤ c.toNat ∧ c.toNat ≤ 57)
theorem valL_nil : valL [] = 0 := rfl
theorem valL_snoc (l : List UInt8) (c : UInt8) : valL (l ++ [c]) = 10 * valL l + ((c.toNat : Int) - 48) := by simp [valL]
theorem digL_snoc (l : List UInt8) (c : UInt8) : digL (l ++ [c]) = (digL l && decide (48 ≤ c.toNat ∧ c.toNat ≤ 57)) := by simp [digL]
theorem digL_append (a b : List UInt8) : digL (a ++ b) = (digL a && digL b) := by simp [digL]
theorem valL_ge (l : List UInt8) : digL l = true → 0 ≤ valL l := by
  refine snoc_ind (P := fun l => digL l = true → 0 ≤ valL l) ?_ ?_ l
  · intro _; simp [valL]
  · intro l c ih h
    rw [digL_snoc, Bool.and_eq_true, decide_eq_true_eq] at h
    rw [valL_snoc]
    have := ih h.1
    omega
theorem valL_lt (l : List UInt8) : digL l = true → valL l < (10 : Int) ^ l.length := by
  refine snoc_ind (P := fun l => digL l = true → valL l < (10 : Int) ^ l.length) ?_ ?_ l
  · intro _; simp [valL]
  · intro l c ih h
    rw [digL_snoc, Bool.and_eq_true, decide_eq_true_eq] at h
    have h1 := ih h.1
    rw [valL_snoc, List.length_append, List.length_singleton, Int.pow_succ]
    omega
theorem valL_lt6 (l : List UInt8) (h : digL l = true) (hl : l.length ≤ 6) : valL l ≤ 999999 := by
  have h1 := valL_lt l h
  have h2 : (10 : Int) ^ l.length ≤ 10 ^ 6 := by
    match l.length, hl with
    | 0, _ => decide
    | 1, _ => decide
    | 2, _ => decide
    | 3, _ => decide
    | 4, _ => decide
    | 5, _ => decide
    | 6, _ => decide
    | n + 7, h => omega
  have h3 : (10 : Int) ^ 6 = 1000000 := by decide
  omega
theorem digL_take (l : List UInt8) (k : Nat) (h : digL l = true) : digL (l.take k) = true := by
  unfold digL at *
  rw [List.all_eq_true] at *
  intro c hc
  exact h c (List.mem_of_mem_take hc)
theorem valL_prefix (a b : List UInt8) : digL (a ++ b) = true → valL a ≤ valL (a ++ b) := by
  refine snoc_ind (P := fun b => digL (a ++ b) = true → valL a ≤ valL (a ++ b)) ?_ ?_ b
  · intro _; simp
  · intro b c ih h
    rw [← List.append_assoc, digL_snoc, Bool.and_eq_true, decide_eq_true_eq] at h
    have h1 := ih h.1
    have h2 := valL_ge _ h.1
    rw [← List.append_assoc, valL_snoc]
    omega
theorem valL_take_le (l : List UInt8) (k : Nat) (h : digL l = true) : valL (l.take k) ≤ valL l := by
  have := valL_prefix (l.take k) (l.drop k) (by rw [List.take_append_drop]; exact h)
  rwa [List.take_append_drop] at this

theorem dec_digit (u : Nat) : digL (Lib.decDigits u) = true := by
  induction u using Nat.strongRecOn with
  | _ u ih =>
    rw [Lib.decDigits]
    split
    · rename_i h
      simp [digL]
      omega
    · rename_i h
      rw [digL_snoc, ih (u / 10) (by omega)]
      simp
      omega
theorem dec_val (u : Nat) : valL (Lib.decDigits u) = (u : Int) := by
  induction u using Nat.strongRecOn with
  | _ u ih =>
    rw [Lib.decDigits]
    split
    · rename_i h
      simp [valL]
      omega
    · rename_i h
      rw [valL_snoc, ih (u / 10) (by omega)]
      have : (UInt8.ofNat (48 + u % 10)).toNat = 48 + u % 10 := by simp; omega
      rw [this]
      omega
theorem dec_len (k : Nat) : ∀ u : Nat, u < 10 ^ (k + 1) → (Lib.decDigits u).length ≤ k + 1 := by
  induction k with
  | zero =>
    intro u hu
    rw [Lib.decDigits, dif_pos (by simpa using hu)]
    simp
  | succ k ih =>
    intro u hu
    rw [Lib.decDigits]
    split
    · simp
    · have := ih (u / 10) (by rw [Nat.pow_succ] at hu; omega)
      rw [List.length_append, List.length_singleton]
      omega
theorem dec_pos (u : Nat) : 1 ≤ (Lib.decDigits u).length := by
  rw [Lib.decDigits]
  split
  · simp
  · simp
theorem dec_len6 (u : Nat) (h : u ≤ 999999) : (Lib.decDigits u).length ≤ 6 := dec_len 5 u (by omega)
theorem digL_head (c : UInt8) (l : List UInt8) (h : digL (c :: l) = true) : 48 ≤ c.toNat ∧ c.toNat ≤ 57 := by
  simp [digL] at h
  omega
end Go.Proofs.YtnbpdgkpamgcfaaDoor
