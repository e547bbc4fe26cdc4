/- impl.isOrder: a list has each of so many seats once. -/
import Derived.Test.YtkbpfjhikabbmaaSeqVals
import Derived.Test.YtkbpfjhikabbmaaOrderM
namespace Go.Proofs.Ytkbpfjhikabbmaa
open Go.RowKit

set_option maxRecDepth 4000 in
set_option maxHeartbeats 1000000 in
theorem isOrder_any (p : Option Addr) (cap : Nat) (xs : List Int) (s : Int) (w : World) (lo hi : Nat) (hin : Ri lo hi w p xs) (h1 : 1 ≤ s) (h12 : s ≤ 12) (hl : xs.length ≤ 1048576) :
    Calls Try.prog 38 #[.slice p xs.length cap, .int .i64 s] w fun e w' => e = .returned (.bool (orderB s xs)) ∧ Below w.heap.size w w' := by
  by_cases he : (xs.length : Int) = s
  · obtain ⟨n, hn⟩ : ∃ n, xs.length = n := ⟨_, rfl⟩
    rw [hn] at he
    subst he
    obtain ⟨b, off, rfl, -, -, hbw, hc⟩ := hin.int (by omega)
    have hb0 := (Below.refl w.heap.size w).alloc (Nat.le_refl _) (.cells #[.slice (some ⟨b, off, none⟩) n cap] 33)
    have S := sorted_any b off cap w.heap.size n xs (w.alloc (.cells #[.slice (some ⟨b, off, none⟩) n cap] 33)) hn (by omega) (by omega) (by simp) (by simp; omega) ((OwnArr.made w 33 [.slice (some ⟨b, off, none⟩) n cap]).cell 0) (fun j hj => (hb0.cell (p := ⟨b, off + j, none⟩) hbw).trans (hc j hj))
    have T := fun (ss : List Int) (hp : ss.Perm xs) (hs : ss.Pairwise (· ≤ ·)) => And.intro (fun h => orderB_true (s := (n : Int)) hp hs (by omega) h) (fun k hk h => orderB_false (s := (n : Int)) hp hs (k := k) hk h)
    rw [hn] at T ⊢
    obtain ⟨B, hB⟩ : ∃ B, orderB (n : Int) xs = B := ⟨_, rfl⟩
    rw [hB] at T ⊢
    replace S := Lib.hid S
    replace T := Lib.hid T
    have HB0 := Lib.hid hb0
    have HN := Lib.hid hn
    have hn12 : (n : Int) ≤ 12 := h12
    clear hin hc hb0 hB hn
    go_enter Try.func38, Try.ntmps38
    go_wp2_with fail
    refine (values_any _ _ _ _).mono ?_
    rintro e w1 ⟨rfl, rfl⟩
    go_wp2_with fail
    refine S.out.mono ?_
    rintro e w2 ⟨g, c, ss, rfl, hP, hS, hR, hb2⟩
    have hT := T.out ss hP hS
    have HT1 := Lib.hid hT.1
    have HT2 := Lib.hid hT.2
    have hsl : ss.length = n := by rw [hP.length_eq]; exact HN.out
    have HR := Lib.hid hR
    have HB2 := Lib.hid (HB0.out.trans (hb2.mono HB0.out.size))
    clear S T hT hb2 hR hP hS HB0
    go_wp2_with fail
    go_loop [15, 5, 6] (fun i _ _ => ∃ k : Nat, k ≤ n ∧ i = .int .i64 k ∧ Hid (∀ j, j < k → ss[j]?.getD 0 = (j : Int))) (fun i _ _ => n - (intOf i).toNat)
    case atStart => exact ⟨0, Nat.zero_le _, rfl, by show ∀ _, _; intro j hj; omega⟩
    case round =>
      obtain ⟨k, hk, rfl, HJ⟩ := hrel
      by_cases hlt : k < n
      · have hk1 : (k : Int) < (n : Int) := by omega
        obtain ⟨_, _, e, -, -, -, hc⟩ := HR.out.int (by omega)
        simp only [Option.some.injEq, Addr.mk.injEq, and_true] at e
        obtain ⟨rfl, rfl⟩ := e
        have h0 := hc k (by omega)
        obtain ⟨y, hy⟩ : ∃ y, ss[k]?.getD 0 = y := ⟨_, rfl⟩
        rw [hy, Nat.zero_add] at h0
        by_cases hyk : y = (k : Int)
        · subst hyk
          have HJ2 : Hid (∀ j, j < k + 1 → ss[j]?.getD 0 = (j : Int)) := by
            show ∀ _, _
            intro j hj
            by_cases e : j = k
            · subst e; exact hy
            · exact HJ.out j (by omega)
          clear hy hc
          go_wp2_with fail
          go_round
          case rel => exact ⟨k + 1, by omega, by go_num, HJ2⟩
          case measure => simp [intOf]; omega
        · have hBf := HT2.out k hlt (by rw [hy]; exact hyk)
          subst hBf
          have hky : ¬ (k : Int) = y := fun e => hyk e.symm
          clear hy hc
          go_wp2_with fail
          go_ret
          exact ⟨rfl, HB2.out⟩
      · have hkn : k = n := by omega
        subst hkn
        have hBt := HT1.out HJ.out
        subst hBt
        have hk1 : ¬ (k : Int) < (k : Int) := by omega
        go_wp2_with fail
        go_ret
        exact ⟨rfl, HB2.out⟩
  · have hf : orderB s xs = false := by simp [orderB, he]
    rw [hf]
    clear hin hf
    go_enter Try.func38, Try.ntmps38
    go_wp2_with fail
    go_ret
    exact ⟨rfl, Below.refl _ _⟩
end Go.Proofs.Ytkbpfjhikabbmaa
