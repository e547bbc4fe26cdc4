/- spec.l1Read: what it reads of a text, for every text. -/
import Derived.Test.YtnbpdgkpamgcfaaDoorReadMath
namespace Go.Proofs.YtnbpdgkpamgcfaaDoor
open Go.RowKit

/-- what l1Read gives at the text s whose digits stand in t, where v is their value with its sign -/
def ReadAns (s t : ByteArray) (v : Int) (w : World) (e : Ending) (w' : World) : Prop :=
  (((1 ≤ t.size ∧ t.size ≤ 6) ∧ digL t.data.toList = true ∧ numS v = s) → e = .returned (.tuple #[.int .i64 v, .bool true])) ∧
  (¬ ((1 ≤ t.size ∧ t.size ≤ 6) ∧ digL t.data.toList = true ∧ numS v = s) → e = .returned (.tuple #[.int .i64 0, .bool false])) ∧ Below w.heap.size w w'
theorem ReadAns.no {s t : ByteArray} {v : Int} {w w' : World} {e : Ending} (h : ¬ ((1 ≤ t.size ∧ t.size ≤ 6) ∧ digL t.data.toList = true ∧ numS v = s)) (he : e = .returned (.tuple #[.int .i64 0, .bool false])) (hb : Below w.heap.size w w') : ReadAns s t v w e w' :=
  ⟨fun h' => absurd h' h, fun _ => he, hb⟩
theorem ReadAns.yes {s t : ByteArray} {v : Int} {w w' : World} {e : Ending} (h : (1 ≤ t.size ∧ t.size ≤ 6) ∧ digL t.data.toList = true ∧ numS v = s) (he : e = .returned (.tuple #[.int .i64 v, .bool true])) (hb : Below w.heap.size w w') : ReadAns s t v w e w' :=
  ⟨fun _ => he, fun h' => absurd h h', hb⟩

theorem digL_take_succ (s : ByteArray) (k : Nat) (h : k < s.size) (h1 : 48 ≤ (s[k].toNat : Int)) (h2 : (s[k].toNat : Int) ≤ 57) (hd : digL (s.data.toList.take k) = true) : digL (s.data.toList.take (k + 1)) = true := by
  rw [take_snoc s k h, digL_snoc, hd, Bool.true_and, decide_eq_true_eq]
  omega
theorem digL_not (s : ByteArray) (k : Nat) (h : k < s.size) (hn : ¬ (48 ≤ (s[k].toNat : Int) ∧ (s[k].toNat : Int) ≤ 57)) : digL s.data.toList = false := by
  rw [Bool.eq_false_iff]
  intro hd
  have := digL_take _ (k + 1) hd
  rw [take_snoc s k h, digL_snoc, Bool.and_eq_true, decide_eq_true_eq] at this
  omega

set_option maxHeartbeats 800000 in
theorem l1Read_plain (s : ByteArray) (w : World) (hs : s.size ≤ 9223372036854775807) (hneg : ¬ (1 < s.size ∧ s.data.toList[0]?.getD 0 = 45)) :
    Calls Tryd.prog 43 #[.string s] w (ReadAns s s (valL s.data.toList) w) := by
  by_cases h1 : 1 < s.size
  · have hc : ((s[0].toNat : Int) == 45) = false := by
      rw [beq_eq_false_iff_ne]
      intro e
      refine hneg ⟨h1, ?_⟩
      have hl : 0 < s.data.toList.length := by rw [← Lib.size_eq]; omega
      rw [List.getElem?_eq_getElem hl]
      show s[0] = 45
      exact UInt8.toNat_inj.1 (show s[0].toNat = 45 by omega)
    clear hneg
    by_cases h6 : s.size ≤ 6
    · go_enter Tryd.func43, Tryd.ntmps43
      go_wp2_with (go_at_call 38; refine (l1In_yes _ _ _ (by omega) (by omega) _).mono ?_; rintro e w' ⟨rfl, rfl⟩)
      go_loop [5, 6] (fun n i => ∃ k : Nat, k ≤ s.size ∧ i = .int .i64 k ∧ n = .int .i64 (valL (s.data.toList.take k)) ∧ Hid (digL (s.data.toList.take k) = true)) (fun _ i => s.size - (intOf i).toNat)
      case atStart => exact ⟨0, Nat.zero_le _, rfl, rfl, rfl⟩
      case round =>
        obtain ⟨k, hk, rfl, rfl, HD⟩ := hrel
        have hv0 := valL_ge _ HD.out
        have hv1 := valL_lt6 _ HD.out (by rw [List.length_take]; have := Lib.size_eq s; omega)
        by_cases hlt : k < s.size
        · have hb := byte_bd s[k]
          obtain ⟨hb1, hb2⟩ := hb
          by_cases hlo : (s[k].toNat : Int) < 48
          · have HN : Hid (digL s.data.toList = false) := digL_not s k hlt (by omega)
            go_wp2
            go_ret2
            exact ReadAns.no (fun h => (by rw [HN.out] at h; cases h.2.1)) rfl (Below.refl _ _)
          · by_cases hhi : 57 < (s[k].toNat : Int)
            · have HN : Hid (digL s.data.toList = false) := digL_not s k hlt (by omega)
              go_wp2
              go_ret2
              exact ReadAns.no (fun h => (by rw [HN.out] at h; cases h.2.1)) rfl (Below.refl _ _)
            · have HS : Hid (valL (s.data.toList.take (k + 1)) = 10 * valL (s.data.toList.take k) + ((s[k].toNat : Int) - 48)) := by
                show _ = _
                rw [take_snoc s k hlt, valL_snoc]
              have HD2 : Hid (digL (s.data.toList.take (k + 1)) = true) := digL_take_succ s k hlt (by omega) (by omega) HD.out
              go_wp2
              go_round
              case rel => exact ⟨k + 1, by omega, by go_num, by rw [HS.out], HD2⟩
              case measure => simp [intOf]; omega
        · have hke : s.data.toList.take k = s.data.toList := List.take_of_length_le (by have := Lib.size_eq s; omega)
          have HA : Hid (digL s.data.toList = true) := by
            have := HD.out
            rwa [hke] at this
          obtain ⟨v, hv⟩ : ∃ v, v = valL s.data.toList := ⟨_, rfl⟩
          have hvk : valL (s.data.toList.take k) = v := by rw [hke, hv]
          rw [hvk] at hv0 hv1
          have HV : Hid (v = valL s.data.toList) := hv
          clear hke hv HD
          by_cases hq : numS v = s
          · have HQ := Lib.hid hq
            go_wp2_with (go_at_call 39; refine (l1Num_any v _ (by omega) (by omega)).mono ?_; rintro e w' ⟨rfl, q, rfl⟩)
            go_ret2
            exact ReadAns.yes (by rw [← HV.out]; exact ⟨⟨by omega, by omega⟩, HA.out, HQ.out⟩) (by rw [← HV.out]; rfl) (bel_drewN (Below.refl _ _) q)
          · have HQ := Lib.hid hq
            have hqb := str_ne hq
            clear hq
            go_wp2_with (go_at_call 39; refine (l1Num_any v _ (by omega) (by omega)).mono ?_; rintro e w' ⟨rfl, q, rfl⟩)
            go_ret2
            exact ReadAns.no (fun h => HQ.out (by rw [HV.out]; exact h.2.2)) rfl (bel_drewN (Below.refl _ _) q)
    · go_enter Tryd.func43, Tryd.ntmps43
      go_wp2_with (go_at_call 38; refine (l1In_no _ _ _ (by omega) _).mono ?_; rintro e w' ⟨rfl, rfl⟩)
      go_ret2
      exact ReadAns.no (fun h => h6 h.1.2) rfl (Below.refl _ _)
  · clear hneg
    by_cases h0 : s.size = 1
    · have h01 : 1 ≤ s.size := by omega
      have h02 : s.size ≤ 1 := by omega
      clear h0
      go_enter Tryd.func43, Tryd.ntmps43
      go_wp2_with (go_at_call 38; refine (l1In_yes _ _ _ (by omega) (by omega) _).mono ?_; rintro e w' ⟨rfl, rfl⟩)
      go_loop [5, 6] (fun n i => ∃ k : Nat, k ≤ s.size ∧ i = .int .i64 k ∧ n = .int .i64 (valL (s.data.toList.take k)) ∧ Hid (digL (s.data.toList.take k) = true)) (fun _ i => s.size - (intOf i).toNat)
      case atStart => exact ⟨0, Nat.zero_le _, rfl, rfl, rfl⟩
      case round =>
        obtain ⟨k, hk, rfl, rfl, HD⟩ := hrel
        have hv0 := valL_ge _ HD.out
        have hv1 := valL_lt6 _ HD.out (by rw [List.length_take]; have := Lib.size_eq s; omega)
        by_cases hlt : k < s.size
        · have hb := byte_bd s[k]
          obtain ⟨hb1, hb2⟩ := hb
          by_cases hlo : (s[k].toNat : Int) < 48
          · have HN : Hid (digL s.data.toList = false) := digL_not s k hlt (by omega)
            go_wp2
            go_ret2
            exact ReadAns.no (fun h => (by rw [HN.out] at h; cases h.2.1)) rfl (Below.refl _ _)
          · by_cases hhi : 57 < (s[k].toNat : Int)
            · have HN : Hid (digL s.data.toList = false) := digL_not s k hlt (by omega)
              go_wp2
              go_ret2
              exact ReadAns.no (fun h => (by rw [HN.out] at h; cases h.2.1)) rfl (Below.refl _ _)
            · have HS : Hid (valL (s.data.toList.take (k + 1)) = 10 * valL (s.data.toList.take k) + ((s[k].toNat : Int) - 48)) := by
                show _ = _
                rw [take_snoc s k hlt, valL_snoc]
              have HD2 : Hid (digL (s.data.toList.take (k + 1)) = true) := digL_take_succ s k hlt (by omega) (by omega) HD.out
              go_wp2
              go_round
              case rel => exact ⟨k + 1, by omega, by go_num, by rw [HS.out], HD2⟩
              case measure => simp [intOf]; omega
        · have hke : s.data.toList.take k = s.data.toList := List.take_of_length_le (by have := Lib.size_eq s; omega)
          have HA : Hid (digL s.data.toList = true) := by
            have := HD.out
            rwa [hke] at this
          obtain ⟨v, hv⟩ : ∃ v, v = valL s.data.toList := ⟨_, rfl⟩
          have hvk : valL (s.data.toList.take k) = v := by rw [hke, hv]
          rw [hvk] at hv0 hv1
          have HV : Hid (v = valL s.data.toList) := hv
          clear hke hv HD
          by_cases hq : numS v = s
          · have HQ := Lib.hid hq
            go_wp2_with (go_at_call 39; refine (l1Num_any v _ (by omega) (by omega)).mono ?_; rintro e w' ⟨rfl, q, rfl⟩)
            go_ret2
            exact ReadAns.yes (by rw [← HV.out]; exact ⟨⟨by omega, by omega⟩, HA.out, HQ.out⟩) (by rw [← HV.out]; rfl) (bel_drewN (Below.refl _ _) q)
          · have HQ := Lib.hid hq
            have hqb := str_ne hq
            clear hq
            go_wp2_with (go_at_call 39; refine (l1Num_any v _ (by omega) (by omega)).mono ?_; rintro e w' ⟨rfl, q, rfl⟩)
            go_ret2
            exact ReadAns.no (fun h => HQ.out (by rw [HV.out]; exact h.2.2)) rfl (bel_drewN (Below.refl _ _) q)
    · have h02 : s.size < 1 := by omega
      clear h0
      go_enter Tryd.func43, Tryd.ntmps43
      go_wp2_with (go_at_call 38; refine (l1In_no _ _ _ (by omega) _).mono ?_; rintro e w' ⟨rfl, rfl⟩)
      go_ret2
      exact ReadAns.no (fun h => (by omega)) rfl (Below.refl _ _)

set_option maxHeartbeats 800000 in
theorem l1Read_neg (s : ByteArray) (w : World) (hs : s.size ≤ 9223372036854775807) (h1 : 1 < s.size) (h45 : s.data.toList[0]?.getD 0 = 45) :
    Calls Tryd.prog 43 #[.string s] w (ReadAns s (s.extract 1 s.size) (-valL (s.extract 1 s.size).data.toList) w) := by
  have hc : ((s[0].toNat : Int) == 45) = true := by
    have hl : 0 < s.data.toList.length := by rw [← Lib.size_eq]; omega
    rw [List.getElem?_eq_getElem hl] at h45
    have h : s[0] = 45 := h45
    rw [h]; rfl
  clear h45
  obtain ⟨t, ht⟩ : ∃ t, s.extract 1 s.size = t := ⟨_, rfl⟩
  have hts : t.size + 1 = s.size := by rw [← ht, ByteArray.size_extract]; omega
  have hts1 : t.size < s.size := by omega
  have hts2 : s.size - 1 = t.size := by omega
  rw [ht]
  have HTS := Lib.hid hts
  clear hts
  by_cases h6 : t.size ≤ 6
  · have ht1 : 1 ≤ t.size := by omega
    go_enter Tryd.func43, Tryd.ntmps43
    go_wp2_with (go_at_call 38; refine (l1In_yes _ _ _ (by omega) (by omega) _).mono ?_; rintro e w' ⟨rfl, rfl⟩)
    go_loop [5, 6] (fun n i => ∃ k : Nat, k ≤ t.size ∧ i = .int .i64 k ∧ n = .int .i64 (valL (t.data.toList.take k)) ∧ Hid (digL (t.data.toList.take k) = true)) (fun _ i => t.size - (intOf i).toNat)
    case atStart => exact ⟨0, Nat.zero_le _, rfl, rfl, rfl⟩
    case round =>
      obtain ⟨k, hk, rfl, rfl, HD⟩ := hrel
      have hv0 := valL_ge _ HD.out
      have hv1 := valL_lt6 _ HD.out (by rw [List.length_take]; have := Lib.size_eq t; omega)
      by_cases hlt : k < t.size
      · have hb := byte_bd t[k]
        obtain ⟨hb1, hb2⟩ := hb
        by_cases hlo : (t[k].toNat : Int) < 48
        · have HN : Hid (digL t.data.toList = false) := digL_not t k hlt (by omega)
          go_wp2
          go_ret2
          exact ReadAns.no (fun h => (by rw [HN.out] at h; cases h.2.1)) rfl (Below.refl _ _)
        · by_cases hhi : 57 < (t[k].toNat : Int)
          · have HN : Hid (digL t.data.toList = false) := digL_not t k hlt (by omega)
            go_wp2
            go_ret2
            exact ReadAns.no (fun h => (by rw [HN.out] at h; cases h.2.1)) rfl (Below.refl _ _)
          · have HS : Hid (valL (t.data.toList.take (k + 1)) = 10 * valL (t.data.toList.take k) + ((t[k].toNat : Int) - 48)) := by
              show _ = _
              rw [take_snoc t k hlt, valL_snoc]
            have HD2 : Hid (digL (t.data.toList.take (k + 1)) = true) := digL_take_succ t k hlt (by omega) (by omega) HD.out
            go_wp2
            go_round
            case rel => exact ⟨k + 1, by omega, by go_num, by rw [HS.out], HD2⟩
            case measure => simp [intOf]; omega
      · have hke : t.data.toList.take k = t.data.toList := List.take_of_length_le (by have := Lib.size_eq t; omega)
        have HA : Hid (digL t.data.toList = true) := by
          have := HD.out
          rwa [hke] at this
        obtain ⟨v, hv⟩ : ∃ v, v = valL t.data.toList := ⟨_, rfl⟩
        have hvk : valL (t.data.toList.take k) = v := by rw [hke, hv]
        rw [hvk] at hv0 hv1
        have HV : Hid (v = valL t.data.toList) := hv
        clear hke hv HD
        by_cases hq : numS (-v) = s
        · have HQ := Lib.hid hq
          go_wp2_with (go_at_call 39; refine (l1Num_any (-v) _ (by omega) (by omega)).mono ?_; rintro e w' ⟨rfl, q, rfl⟩)
          go_ret2
          exact ReadAns.yes (by rw [← HV.out]; exact ⟨⟨by omega, by omega⟩, HA.out, HQ.out⟩) (by rw [← HV.out]; rfl) (bel_drewN (Below.refl _ _) q)
        · have HQ := Lib.hid hq
          have hqb := str_ne hq
          clear hq
          go_wp2_with (go_at_call 39; refine (l1Num_any (-v) _ (by omega) (by omega)).mono ?_; rintro e w' ⟨rfl, q, rfl⟩)
          go_ret2
          exact ReadAns.no (fun h => HQ.out (by rw [HV.out]; exact h.2.2)) rfl (bel_drewN (Below.refl _ _) q)
  · go_enter Tryd.func43, Tryd.ntmps43
    go_wp2_with (go_at_call 38; refine (l1In_no _ _ _ (by omega) _).mono ?_; rintro e w' ⟨rfl, rfl⟩)
    go_ret2
    exact ReadAns.no (fun h => h6 h.1.2) rfl (Below.refl _ _)
end Go.Proofs.YtnbpdgkpamgcfaaDoor
