/- Chapter 5, impl side: a plane's shareOf and canBe. -/
import Derived.Test.YtkbpfjhikabbmaaShI5
import Derived.Test.YtkbpfjhikabbmaaShM5
import Derived.Test.YtkbpfjhikabbmaaAsk5
namespace Go.Proofs.Ytkbpfjhikabbmaa
open Go.RowKit

set_option maxRecDepth 4000 in
set_option maxHeartbeats 2000000 in
theorem shareOf_any (n k : Nat) (p : Option Addr) (cap : Nat) (xs : List Int) (w : World) (lo hi : Nat) (hin : Ri lo hi w p xs) (hn1 : 1 ≤ n) (hn : n ≤ 12) (hcap : xs.length ≤ cap) (hcm : cap ≤ maxLen) (_ : xs.length ≤ 1048576) :
    Calls Try.prog 30 #[.agg #[.int .i64 (n : Nat), .int .i64 (k : Nat)], .slice p xs.length cap] w fun e w' => e = .returned (.int .i64 ((shaM n k xs : Nat) : Int)) ∧ Below w.heap.size w w' := by
  have hX := OwnArr.made w 42 [.int .i64 (n : Int), .int .i64 (k : Int)]
  have hB := (Below.refl w.heap.size w).alloc (Nat.le_refl _) (planeB n k)
  have HX0 := Lib.hid hX
  have HB0 := Lib.hid hB
  by_cases he : xs.length = n
  · obtain ⟨b, off, rfl, -, -, hbw, hc⟩ := hin.int (by omega)
    have HC := Lib.hid (fun (i : Nat) (hi' : i < n) (w' : World) (h' : Below w.heap.size w w') => (h'.cell (p := ⟨b, off + i, none⟩) hbw).trans (hc i (by omega)))
    have CH := fun (i : Nat) (hi' : i ≤ n) (w' : World) (h' : Below w.heap.size w w') => choices_any n k (some ⟨b, off, none⟩) cap (xs.take i) w' lo hi ((hin.below h' hin.top).pfx5 i) (by omega) (by rw [List.length_take]; omega)
    replace CH := Lib.hid CH
    have hcm2 : cap ≤ 9223372036854775807 := by unfold maxLen at hcm; omega
    have HLX := Lib.hid he
    have HF : Hid (∀ j, j < n → possM n k xs (j + 1) = false → shaM n k xs = 0) := by
      show ∀ _, _
      intro j hj h
      refine sha_zero ?_
      cases hp : posB n k xs with
      | false => rfl
      | true => rw [possM_mono (i := j + 1) (posB_is hp).2 hj] at h; cases h
    have HE : Hid (possM n k xs n = true → shaM n k xs = 479001600 / denM n k xs n) := by
      show _ → _
      intro h
      unfold shaM
      rw [if_pos (by unfold posB; rw [h, decide_eq_true he]; rfl)]
    rw [he] at hcap ⊢
    obtain ⟨R, hR⟩ : ∃ R, shaM n k xs = R := ⟨_, rfl⟩
    rw [hR] at HF HE ⊢
    obtain ⟨b0, b1⟩ := box_plane hX
    clear hin hbw hc hX hB he hR
    go_enter Try.func30, Try.ntmps30
    go_wp2_with fail
    clear b0 b1
    go_loopw [5, 16, 6, 7, 8] (fun vs i _ _ _ wr => ∃ (j : Nat), j ≤ n ∧ i = .int .i64 j ∧ vs = .int .i64 ((479001600 / denM n k xs j : Nat) : Int) ∧ Hid (possM n k xs j = true) ∧ Hid (OwnArr wr w.heap.size 42 [.int .i64 (n : Int), .int .i64 (k : Int)]) ∧ Hid (Below w.heap.size w wr)) (fun _ i _ _ _ _ => n - (intOf i).toNat)
    case atStart => exact ⟨0, Nat.zero_le _, rfl, by rw [show denM n k xs 0 = 1 from rfl, Nat.div_one]; rfl, Lib.hid rfl, HX0, HB0⟩
    case round =>
      obtain ⟨j, hj, rfl, rfl, HP, HX, HB⟩ := hrel
      clear HX0 HB0
      by_cases hlt : j < n
      · have hj1 : (j : Int) < (n : Int) := by omega
        have hj0 : (0 : Int) ≤ (j : Int) := by omega
        have hjc : (j : Int) ≤ (cap : Int) := by omega
        have h0 := HC.out j hlt wr HB.out
        have CJ := CH.out j hj wr.drew (HB.out.drew)
        have htl : (xs.take j).length = j := by rw [List.length_take, HLX.out]; omega
        rw [htl] at CJ
        have hcl := cho_len n k (xs.take j) hn
        have hps := possM_succ n k xs j
        rw [HP.out, Bool.true_and] at hps
        have hss := sha_step n k xs j
        have hsl : 479001600 / denM n k xs j ≤ 479001600 := Nat.div_le_self _ _
        have hF := HF.out j hlt
        obtain ⟨C, hC⟩ : ∃ C, choM n k (xs.take j) = C := ⟨_, rfl⟩
        rw [hC] at CJ hcl hps hss
        obtain ⟨x, hx⟩ : ∃ x, xs[j]?.getD 0 = x := ⟨_, rfl⟩
        rw [hx] at hps h0
        obtain ⟨P2, hP2⟩ : ∃ P2, possM n k xs (j + 1) = P2 := ⟨_, rfl⟩
        rw [hP2] at hps hF
        obtain ⟨S, hS⟩ : ∃ S, 479001600 / denM n k xs j = S := ⟨_, rfl⟩
        rw [hS] at hss hsl ⊢
        replace CJ := Lib.hid CJ
        have HPS := Lib.hid hps
        have HSS := Lib.hid hss
        have HP2 := Lib.hid hP2
        have HF2 := Lib.hid hF
        have HCL := Lib.hid hcl
        obtain ⟨b0, b1⟩ := box_plane HX.out
        clear htl hps hss hP2 hF hC hx hS hcl
        go_wp2_with fail
        go_still_tail 4, (by kernel_rfl)
        change wpList _ _ _ _ _ wr.drew
        go_wp2_with fail
        refine CJ.out.mono ?_
        rintro e w2 ⟨v, rfl, hv, hb2⟩
        obtain ⟨qv, cv, rfl, -, -, hvr, -⟩ := hv.rd
        have hb3 : Below wr.heap.size wr w2 := ((Below.refl _ wr).drew).trans hb2
        have HX2 := Lib.hid (HX.out.below hb3 HX.out.lt)
        have HB2 := Lib.hid (HB.out.trans (hb3.mono HB.out.size))
        have LH := contains_any qv cv (ints C) x w2 _ _ hvr (by rw [ints_length]; have := HCL.out; omega)
        obtain ⟨L, hL⟩ : ∃ L, (ints C).length = L := ⟨_, rfl⟩
        have hLL : C.length = L := by rw [← hL, ints_length]
        rw [hL] at LH ⊢
        have hss := HSS.out
        rw [hLL] at hss
        have hL12 : L ≤ 12 := by have := HCL.out; omega
        have hps := HPS.out
        have hmem : decide (x ∈ ints C) = true → ¬ L = 0 := by
          intro h e
          rw [e] at hL
          rw [List.length_eq_zero_iff.1 hL] at h
          simp at h
        obtain ⟨B, hB⟩ : ∃ B, decide (x ∈ ints C) = B := ⟨_, rfl⟩
        rw [hB] at LH hps hmem
        subst hps
        replace LH := Lib.hid LH
        clear hv hb2 hb3 hvr HX HB CJ HPS HSS hL hLL hB HCL b0 b1 h0
        cases P2 with
        | false =>
          have hR := HF2.out rfl
          clear hmem
          subst hR
          go_wp2_with fail
          refine LH.out.mono ?_
          rintro e w3 ⟨rfl, rfl⟩
          go_wp2_with fail
          go_ret
          exact ⟨rfl, HB2.out⟩
        | true =>
          have hL0 := hmem rfl
          have hLz : ¬ (L : Int) = 0 := by omega
          obtain ⟨S2, hS2⟩ : ∃ S2, 479001600 / denM n k xs (j + 1) = S2 := ⟨_, rfl⟩
          rw [hS2] at hss
          have HS2 := Lib.hid hS2
          have hq : (S : Int).tdiv (L : Int) = (S2 : Int) := by rw [hss]; exact (Int.ofNat_tdiv _ _).symm
          have hS2l : S2 ≤ S := by rw [hss]; exact Nat.div_le_self _ _
          have hw : IntKind.i64.wrap (S2 : Int) = (S2 : Int) := IntWalk.i64_in _ (by omega)
          clear hmem hss hS2
          go_wp2_with fail
          refine LH.out.mono ?_
          rintro e w3 ⟨rfl, rfl⟩
          clear LH
          go_wp2_with fail
          go_roundw
          case rel => exact ⟨j + 1, by omega, by go_num, by rw [HS2.out], HP2, HX2, HB2⟩
          case measure => simp [intOf]; omega
      · have hjn : j = n := by omega
        subst hjn
        have hj1 : ¬ (j : Int) < (j : Int) := by omega
        have hR := HE.out HP.out
        obtain ⟨S, hS⟩ : ∃ S, 479001600 / denM j k xs j = S := ⟨_, rfl⟩
        rw [hS] at hR ⊢
        subst hR
        clear HF HE hS
        go_wp2_with fail
        go_ret
        exact ⟨rfl, HB.out⟩
  · have hz : shaM n k xs = 0 := sha_zero (by unfold posB; rw [decide_eq_false he]; rfl)
    rw [hz]
    have hne : ¬ (xs.length : Int) = (n : Int) := by omega
    obtain ⟨b0, b1⟩ := box_plane hX
    clear hin hX hB hz
    go_enter Try.func30, Try.ntmps30
    go_wp2_with fail
    go_ret
    exact ⟨rfl, HB0.out⟩

end Go.Proofs.Ytkbpfjhikabbmaa
