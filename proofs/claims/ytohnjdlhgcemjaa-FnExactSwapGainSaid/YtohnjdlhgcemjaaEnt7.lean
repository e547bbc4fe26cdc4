/- Chapter 7, spec side: spec.l7Order. -/
import Derived.Test.YtohnjdlhgcemjaaEntM7
import Derived.Test.YtohnjdlhgcemjaaHasS
import Derived.Test.YtohnjdlhgcemjaaOut
import Derived.BigQuiet
namespace Go.Proofs.Ytohnjdlhgcemjaa
open Go.RowKit

theorem Rd.pfx7 {lo hi : Nat} {w : World} {p : Option Addr} {xs : List Int} (h : Ri lo hi w p xs) (k : Nat) : Ri lo hi w p (xs.take k) := by
  have := Rd.pfx h k
  unfold iv at this
  rw [← List.map_take] at this
  exact this

set_option maxRecDepth 4000 in
set_option maxHeartbeats 2000000 in
theorem l7Order_any (n : Nat) (p : Option Addr) (cap : Nat) (xs : List Int) (w : World) (lo hi : Nat) (hin : Ri lo hi w p xs) (hcap : xs.length ≤ cap) (hcm : cap ≤ maxLen) (hlen : xs.length ≤ 1048576) (hn : n ≤ 24) :
    Calls Try.prog 41 #[.int .i64 (n : Nat), .slice p xs.length cap] w fun e w' => e = .returned (.bool (orderB n xs)) ∧ Below w.heap.size w w' := by
  have HI := Lib.hid (fun (w' : World) (h' : Below w.heap.size w w') => hin.below h' hin.top)
  have HS := Lib.hid (fun (i : Nat) (hi' : i ≤ xs.length) (x : Int) (w' : World) (h' : Below w.heap.size w w') => l1Has_any p cap (xs.take i) x w' lo hi (Rd.pfx7 (hin.below h' hin.top) i) (by rw [List.length_take]; omega))
  have HNO := Lib.hid (fun (i : Nat) (hi' : i < xs.length) (h : ¬ (0 ≤ xs[i]?.getD 0 ∧ xs[i]?.getD 0 < (n : Int) ∧ xs[i]?.getD 0 ∉ xs.take i)) => order_no hi' h)
  have HYE := Lib.hid (fun (h : good7 n xs xs.length) => order_yes h)
  have hmax : maxLen = 9223372036854775807 := rfl
  obtain ⟨R, hR⟩ : ∃ R, orderB n xs = R := ⟨_, rfl⟩
  rw [hR] at HNO HYE ⊢
  obtain ⟨m, hm⟩ : ∃ m, xs.length = m := ⟨_, rfl⟩
  rw [hm] at HS HNO HYE hcap hlen ⊢
  have HM := Lib.hid hm
  clear hin hR hm
  go_enter Try.func41, Try.ntmps41
  go_wp2_with fail
  go_loopw [5] (fun i wr => ∃ (k : Nat), k ≤ m ∧ i = .int .i64 (k : Int) ∧ Hid (good7 n xs k) ∧ Hid (Below w.heap.size w wr)) (fun i _ => m - (intOf i).toNat)
  case atStart => exact ⟨0, Nat.zero_le _, rfl, (by show ∀ _, _; intro i h; omega), Lib.hid (Below.refl _ _)⟩
  case round =>
    obtain ⟨k, hk, rfl, HG, HB⟩ := hrel
    by_cases hlt : k < m
    · have hk1 : (k : Int) < (m : Int) := by omega
      have hk0 : (0 : Int) ≤ (k : Int) := by omega
      have hkc : (k : Int) ≤ (cap : Int) := by omega
      have hkl : k < xs.length := by rw [HM.out]; exact hlt
      obtain ⟨b, off, rfl, -, -, hbw, hc⟩ := (HI.out wr HB.out).int (by omega)
      have h0 := hc k hkl
      have HH := fun (x : Int) (w' : World) (h' : Below w.heap.size w w') => HS.out k (by omega) x w' h'
      rw [show (xs.take k).length = k by rw [List.length_take]; omega] at HH
      have hno := HNO.out k hlt
      obtain ⟨x, hx⟩ : ∃ x, xs[k]?.getD 0 = x := ⟨_, rfl⟩
      rw [hx] at h0 hno
      have HX := Lib.hid hx
      replace HNO := Lib.hid hno
      clear hno hx
      have HL := fun w' => l1In_any x 0 ((n : Int) - 1) w'
      replace HH := fun (w' : World) (h' : Below w.heap.size w w') => HH x w' h'
      clear hc hbw
      by_cases h1 : 0 ≤ x ∧ x < (n : Int)
      · have e1 : (decide (0 ≤ x) && decide (x ≤ (n : Int) - 1)) = true := by simp; omega
        rw [e1] at HL
        replace HL := Lib.hid HL
        obtain ⟨h1, h2⟩ := h1
        clear e1
        by_cases h3 : x ∈ xs.take k
        · have hr := HNO.out (fun h => h.2.2 h3)
          subst hr
          rw [decide_eq_true h3] at HH
          replace HH := Lib.hid HH
          clear h3 HNO HYE
          go_wp2_with fail
          go_quiet ((first | (go_at_call 46; exact quiet_same (HH.out _ (bel_drewN HB.out _))) | (go_at_call 37; exact quiet_same (HL.out _))))
          go_wp2_with fail
          go_ret
          exact ⟨rfl, bel_drewN HB.out _⟩
        · have HG2 : Hid (good7 n xs (k + 1)) := by
            show ∀ _, _
            intro i hi'
            by_cases e : i = k
            · subst e; rw [HX.out]; exact ⟨h1, h2, h3⟩
            · exact HG.out i (by omega)
          rw [decide_eq_false h3] at HH
          replace HH := Lib.hid HH
          clear h3 HG
          go_wp2_with fail
          go_quiet ((first | (go_at_call 46; exact quiet_same (HH.out _ (bel_drewN HB.out _))) | (go_at_call 37; exact quiet_same (HL.out _))))
          go_wp2_with fail
          go_roundw
          case rel => exact ⟨k + 1, by omega, by go_num, HG2, Lib.hid (bel_drewN HB.out _)⟩
          case measure => simp [intOf]; omega
      · have e1 : (decide (0 ≤ x) && decide (x ≤ (n : Int) - 1)) = false := by simp; omega
        rw [e1] at HL
        replace HL := Lib.hid HL
        have hr := HNO.out (fun h => h1 ⟨h.1, h.2.1⟩)
        subst hr
        clear e1 h1 HNO HYE HH
        go_wp2_with fail
        go_quiet ((go_at_call 37; exact quiet_same (HL.out _)))
        go_wp2_with fail
        go_ret
        exact ⟨rfl, bel_drewN HB.out _⟩
    · have hkm : k = m := by omega
      subst hkm
      have hr := HYE.out HG.out
      have hk1 : ¬ (k : Int) < (k : Int) := by omega
      subst hr
      clear HNO
      go_wp2_with fail
      go_ret
      exact ⟨rfl, HB.out⟩
end Go.Proofs.Ytohnjdlhgcemjaa
