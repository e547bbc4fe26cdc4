/- spec.l1Stands says whether a byte stands in a text, for every text and byte. -/
import Derived.Test.YtnbpdgkpamgcfaaDoorInStrs
import Derived.Test.YtnbpdgkpamgcfaaDoorSum
namespace Go.Proofs.YtnbpdgkpamgcfaaDoor
open Go.RowKit

/-- the byte stands in the list (a plain definition: the walk leaves it alone) -/
def hasB (l : List UInt8) (c : UInt8) : Bool := l.contains c
theorem contains_snoc (l : List UInt8) (a c : UInt8) : hasB (l ++ [a]) c = (hasB l c || (c == a)) := by
  simp only [hasB, List.contains_eq_mem, List.mem_append, Bool.decide_or, List.mem_singleton]
  rfl
theorem byte_eq (a c : UInt8) (h : a = c) : ((a.toNat : Int) == (c.toNat : Int)) = true := by subst h; simp
theorem byte_ne (a c : UInt8) (h : ¬ a = c) : ((a.toNat : Int) == (c.toNat : Int)) = false := by
  rw [beq_eq_false_iff_ne]
  intro e
  exact h (UInt8.toNat_inj.1 (by omega))
theorem contains_take (s : ByteArray) (c : UInt8) (k : Nat) (h : k < s.size) (e : s[k] = c) : hasB s.data.toList c = true := by
  have h1 := take_snoc s k h
  have h2 : c ∈ s.data.toList.take (k + 1) := by rw [h1, e]; simp
  simpa [hasB, List.contains_eq_mem] using List.mem_of_mem_take h2

set_option maxHeartbeats 400000 in
theorem l1Stands_any (s : ByteArray) (c : UInt8) (w : World) (hs : s.size ≤ 9223372036854775807) :
    Calls Tryd.prog 47 #[.string s, .int .u8 (c.toNat : Int)] w fun e w' => e = .returned (.bool (hasB s.data.toList c)) ∧ w' = w := by
  go_enter Tryd.func47, Tryd.ntmps47
  go_wp2
  go_loop [5] (fun i => ∃ k : Nat, k ≤ s.size ∧ i = .int .i64 k ∧ Hid (hasB (s.data.toList.take k) c = false)) (fun i => s.size - (intOf i).toNat)
  case atStart => exact ⟨0, Nat.zero_le _, rfl, rfl⟩
  case round =>
    obtain ⟨k, hk, rfl, HN⟩ := hrel
    by_cases hlt : k < s.size
    · by_cases hc : s[k] = c
      · have HC : Hid (hasB s.data.toList c = true) := contains_take s c k hlt hc
        have he := byte_eq _ _ hc
        clear hc
        go_wp2
        go_ret
        exact ⟨ret_bool HC.out.symm, rfl⟩
      · have he := byte_ne _ _ hc
        have HS : Hid (hasB (s.data.toList.take (k + 1)) c = false) := by
          show _ = false
          rw [take_snoc s k hlt, contains_snoc, HN.out]
          simp [Ne.symm hc]
        clear hc
        go_wp2
        go_round
        case rel => exact ⟨k + 1, by omega, by go_num, HS⟩
        case measure => simp [intOf]; omega
    · go_wp2
      go_ret
      refine ⟨ret_bool ?_, rfl⟩
      have := HN.out
      rw [List.take_of_length_le (by simp; omega)] at this
      exact this.symm

/-- .. with the answer named: a walk takes this one where it knows the answer -/
theorem l1Stands_is (s : ByteArray) (c : UInt8) (b : Bool) (h : hasB s.data.toList c = b) (w : World) (hs : s.size ≤ 9223372036854775807) :
    Calls Tryd.prog 47 #[.string s, .int .u8 (c.toNat : Int)] w fun e w' => e = .returned (.bool b) ∧ w' = w :=
  (l1Stands_any s c w hs).mono fun _ _ ⟨he, hw⟩ => ⟨by rw [he, h], hw⟩
end Go.Proofs.YtnbpdgkpamgcfaaDoor
