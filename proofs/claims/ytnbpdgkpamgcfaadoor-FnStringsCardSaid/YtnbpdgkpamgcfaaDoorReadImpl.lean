/- impl.readDecimal: it gives some number for every text, and the number itself for a number's own text. -/
import Derived.Test.YtnbpdgkpamgcfaaDoorReadSpec
import Derived.WalkMore
namespace Go.Proofs.YtnbpdgkpamgcfaaDoor
open Go.RowKit

def SomeInt (w : World) (e : Ending) (w' : World) : Prop := ∃ v : Int, e = .returned (.int .i64 v) ∧ w = w'
theorem someInt_mk {w w' : World} {e : Ending} {v : Int} (h : e = .returned (.int .i64 v)) (hw : w = w') : SomeInt w e w' := ⟨v, h, hw⟩

set_option maxHeartbeats 1000000 in
theorem readDec_some (s : ByteArray) (w : World) (hs : s.size ≤ 9223372036854775807) :
    Calls Tryd.prog 42 #[.string s] w (SomeInt w) := by
  go_enter Tryd.func42, Tryd.ntmps42
  go_wp2
  go_step3
  go_wp2
  go_step3
  go_wp2
  go_loop [3, 4, 9] (fun n g i => ∃ (k : Nat) (q sg : Int), k ≤ s.size ∧ i = .int .i64 k ∧ n = .int .i64 q ∧ g = .int .i64 sg ∧ Hid (sg = 1 ∨ sg = -1) ∧ 0 ≤ q ∧ q ≤ 10000008) (fun _ _ i => s.size - (intOf i).toNat)
  case atStart => exact ⟨0, 0, 1, Nat.zero_le _, rfl, rfl, rfl, Or.inl rfl, by omega, by omega⟩
  case round =>
    obtain ⟨k, q, sg, hk, rfl, rfl, rfl, HG, hq0, hq1⟩ := hrel
    rcases HG.out with rfl | rfl
    all_goals
      by_cases hlt : k < s.size
      · have hb := byte_bd s[k]
        obtain ⟨hb1, hb2⟩ := hb
        by_cases hlo : (s[k].toNat : Int) < 48
        · by_cases hm : (s[k].toNat : Int) = 45
          · by_cases hk0 : k = 0
            · subst hk0
              have hc : ((s[0].toNat : Int) == 45) = true := by rw [beq_iff_eq]; exact hm
              clear hm hb1 hb2 hlo
              go_wp2
              go_round
              case rel => exact ⟨1, q, -1, by omega, by go_num, rfl, rfl, Or.inr rfl, by omega, by omega⟩
              case measure => simp [intOf]; omega
            · have hc : ((s[k].toNat : Int) == 45) = true := by rw [beq_iff_eq]; exact hm
              have hz : ((k : Int) == 0) = false := by rw [beq_eq_false_iff_ne]; omega
              clear hm
              go_wp2
              try rw [Exit.noGoto_ret]
              go_ret
              exact someInt_mk rfl rfl
          · have hc : ((s[k].toNat : Int) == 45) = false := by rw [beq_eq_false_iff_ne]; exact hm
            clear hm
            go_wp2
            try rw [Exit.noGoto_ret]
            go_ret
            exact someInt_mk rfl rfl
        · have hc : ((s[k].toNat : Int) == 45) = false := by rw [beq_eq_false_iff_ne]; omega
          by_cases hhi : 57 < (s[k].toNat : Int)
          · go_wp2
            try rw [Exit.noGoto_ret]
            go_ret
            exact someInt_mk rfl rfl
          · by_cases hbig : 999999 < q
            · go_wp2
              try rw [Exit.noGoto_ret]
              go_ret
              exact someInt_mk rfl rfl
            · go_wp2
              go_round
              case rel => exact ⟨k + 1, _, _, by omega, by go_num, rfl, rfl, HG, by omega, by omega⟩
              case measure => simp [intOf]; omega
      · go_wp2
        try rw [Exit.noGoto_ret]
        go_ret
        exact someInt_mk rfl rfl

set_option maxHeartbeats 1000000 in
theorem readDec_nat (s : ByteArray) (u : Nat) (w : World) (hs : s.data.toList = Lib.decDigits u) (hu : u ≤ 999999) :
    Calls Tryd.prog 42 #[.string s] w fun e w' => e = .returned (.int .i64 (u : Int)) ∧ w = w' := by
  have HDIG : Hid (digL s.data.toList = true) := by
    show _ = _
    rw [hs]; exact dec_digit u
  have HVAL : Hid (valL s.data.toList = (u : Int)) := by
    show _ = _
    rw [hs]; exact dec_val u
  have hs6 : s.size ≤ 6 := by rw [Lib.size_eq, hs]; exact dec_len6 u hu
  clear hs
  go_enter Tryd.func42, Tryd.ntmps42
  go_wp2
  go_step3
  go_wp2
  go_step3
  go_wp2
  go_loop [3, 4, 9] (fun n g i => ∃ (k : Nat), k ≤ s.size ∧ i = .int .i64 k ∧ g = .int .i64 1 ∧ n = .int .i64 (valL (s.data.toList.take k))) (fun _ _ i => s.size - (intOf i).toNat)
  case atStart => exact ⟨0, Nat.zero_le _, rfl, rfl, rfl⟩
  case round =>
    obtain ⟨k, hk, rfl, rfl, rfl⟩ := hrel
    have hv0 := valL_ge _ (digL_take _ k HDIG.out)
    have hv1 : valL (s.data.toList.take k) ≤ 999999 := by
      have h1 := valL_take_le _ k HDIG.out
      rw [HVAL.out] at h1
      omega
    by_cases hlt : k < s.size
    · have hd := digL_take _ (k + 1) HDIG.out
      rw [take_snoc s k hlt, digL_snoc, Bool.and_eq_true, decide_eq_true_eq] at hd
      have hb1 : 48 ≤ (s[k].toNat : Int) := by omega
      have hb2 : (s[k].toNat : Int) ≤ 57 := by omega
      have hc : ((s[k].toNat : Int) == 45) = false := by rw [beq_eq_false_iff_ne]; omega
      have HS : Hid (valL (s.data.toList.take (k + 1)) = 10 * valL (s.data.toList.take k) + ((s[k].toNat : Int) - 48)) := by
        show _ = _
        rw [take_snoc s k hlt, valL_snoc]
      clear hd
      go_wp2
      go_round
      case rel => exact ⟨k + 1, by omega, by go_num, rfl, by rw [HS.out]⟩
      case measure => simp [intOf]; omega
    · have hke : s.data.toList.take k = s.data.toList := List.take_of_length_le (by have := Lib.size_eq s; omega)
      have hvk : valL (s.data.toList.take k) = (u : Int) := by rw [hke]; exact HVAL.out
      clear hke hv0 hv1
      go_wp2
      try rw [Exit.noGoto_ret]
      go_ret
      exact ⟨ret_int (by omega), rfl⟩

set_option maxHeartbeats 1000000 in
theorem readDec_neg (s t : ByteArray) (u : Nat) (w : World) (hs : s = ⟨#[45]⟩ ++ t) (ht : t.data.toList = Lib.decDigits u) (hu : u ≤ 999999) :
    Calls Tryd.prog 42 #[.string s] w fun e w' => e = .returned (.int .i64 (-(u : Int))) ∧ w = w' := by
  have HDIG : Hid (digL t.data.toList = true) := by
    show _ = _
    rw [ht]; exact dec_digit u
  have HVAL : Hid (valL t.data.toList = (u : Int)) := by
    show _ = _
    rw [ht]; exact dec_val u
  have ht6 : t.size ≤ 6 := by rw [Lib.size_eq, ht]; exact dec_len6 u hu
  have hsz : s.size = t.size + 1 := by rw [hs, ByteArray.size_append]; show 1 + t.size = _; omega
  have HSZ := Lib.hid hsz
  have hs7 : s.size ≤ 7 := by omega
  have hs0 : 0 < s.size := by omega
  have hlist : s.data.toList = 45 :: t.data.toList := by rw [hs]; simp
  have H0 : Hid (((s[0]'(by omega)).toNat : Int) = 45) := by
    show _ = _
    have h : s.data.toList[0]? = some 45 := by rw [hlist]; rfl
    have hl : 0 < s.data.toList.length := by rw [← Lib.size_eq]; omega
    rw [List.getElem?_eq_getElem hl] at h
    simp only [Option.some.injEq] at h
    have h2 : s[0]'(by omega) = 45 := h
    rw [h2]; rfl
  have HK : Hid (∀ j (h : j < t.size) (h' : j + 1 < s.size), s[j + 1] = t[j]) := by
    intro j h h'
    have e1 : s.data.toList[j + 1]? = t.data.toList[j]? := by rw [hlist]; rfl
    have hl1 : j + 1 < s.data.toList.length := by rw [← Lib.size_eq]; omega
    have hl2 : j < t.data.toList.length := by rw [← Lib.size_eq]; omega
    rw [List.getElem?_eq_getElem hl1, List.getElem?_eq_getElem hl2] at e1
    simp only [Option.some.injEq] at e1
    exact e1
  clear hlist hsz hs ht
  go_enter Tryd.func42, Tryd.ntmps42
  go_wp2
  go_step3
  go_wp2
  go_step3
  go_wp2
  go_loop [3, 4, 9] (fun n g i => ∃ (k : Nat) (q sg : Int), k ≤ s.size ∧ i = .int .i64 k ∧ n = .int .i64 q ∧ g = .int .i64 sg ∧ Hid ((k = 0 ∧ q = 0 ∧ sg = 1) ∨ (1 ≤ k ∧ q = valL (t.data.toList.take (k - 1)) ∧ sg = -1))) (fun _ _ i => s.size - (intOf i).toNat)
  case atStart => exact ⟨0, 0, 1, Nat.zero_le _, rfl, rfl, rfl, Or.inl ⟨rfl, rfl, rfl⟩⟩
  case round =>
    obtain ⟨k, q, sg, hk, rfl, rfl, rfl, HR⟩ := hrel
    rcases HR.out with ⟨rfl, rfl, rfl⟩ | ⟨hk1, hq, rfl⟩
    · have hc : ((s[0].toNat : Int) == 45) = true := by rw [beq_iff_eq]; exact H0.out
      go_wp2
      go_round
      case rel => exact ⟨1, 0, -1, by omega, by go_num, rfl, rfl, Or.inr ⟨by omega, rfl, rfl⟩⟩
      case measure => simp [intOf]; omega
    · obtain ⟨j, rfl⟩ : ∃ j, k = j + 1 := ⟨k - 1, by omega⟩
      have hz : ((j : Int) + 1 == 0) = false := by rw [beq_eq_false_iff_ne]; omega
      have hz' : (((j + 1 : Nat) : Int) == 0) = false := by rw [beq_eq_false_iff_ne]; omega
      rw [Nat.add_sub_cancel] at hq
      have hv0 := valL_ge _ (digL_take _ j HDIG.out)
      have hv1 : valL (t.data.toList.take j) ≤ 999999 := by
        have h1 := valL_take_le _ j HDIG.out
        rw [HVAL.out] at h1
        omega
      rw [← hq] at hv0 hv1
      have HQ := Lib.hid hq
      clear hq
      by_cases hlt : j + 1 < s.size
      · have hlt2 : j < t.size := by have := HSZ.out; omega
        have hd := digL_take _ (j + 1) HDIG.out
        rw [take_snoc t j hlt2, digL_snoc, Bool.and_eq_true, decide_eq_true_eq] at hd
        have hst : s[j + 1] = t[j] := HK.out j hlt2 hlt
        have hb1 : 48 ≤ (s[j + 1].toNat : Int) := by rw [hst]; omega
        have hb2 : (s[j + 1].toNat : Int) ≤ 57 := by rw [hst]; omega
        have hc : ((s[j + 1].toNat : Int) == 45) = false := by rw [beq_eq_false_iff_ne]; omega
        have HS : Hid (valL (t.data.toList.take (j + 1)) = 10 * q + ((s[j + 1].toNat : Int) - 48)) := by
          show _ = _
          rw [take_snoc t j hlt2, valL_snoc, HQ.out, hst]
        clear hd hst
        go_wp2
        go_round
        case rel => exact ⟨j + 1 + 1, _, -1, by omega, by go_num, rfl, rfl, Or.inr ⟨by omega, by rw [Nat.add_sub_cancel, HS.out], rfl⟩⟩
        case measure => simp [intOf]; omega
      · have HV : Hid (q = (u : Int)) := by
          show _ = _
          have hke : t.data.toList.take j = t.data.toList := List.take_of_length_le (by have := Lib.size_eq t; have := HSZ.out; omega)
          rw [HQ.out, hke]; exact HVAL.out
        go_wp2
        try rw [Exit.noGoto_ret]
        go_ret
        exact ⟨ret_int (by have := HV.out; omega), rfl⟩
end Go.Proofs.YtnbpdgkpamgcfaaDoor
