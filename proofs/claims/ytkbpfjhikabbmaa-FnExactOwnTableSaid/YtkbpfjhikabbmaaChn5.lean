/- Chapter 5, spec side: spec.l5Chance, l5Possible. -/
import Derived.Test.YtkbpfjhikabbmaaChM5
import Derived.Test.YtkbpfjhikabbmaaOwnP
namespace Go.Proofs.Ytkbpfjhikabbmaa
open Go.RowKit

set_option maxRecDepth 4000 in
set_option maxHeartbeats 2000000 in
theorem l5Chance_any (n k : Nat) (p : Option Addr) (cap : Nat) (xs : List Int) (w : World) (lo hi : Nat) (hin : Ri lo hi w p xs) (hn1 : 1 ≤ n) (hn : n ≤ 12) (hk : k ≤ n) (hlen : xs.length = n) (hcap : n ≤ cap) (hcm : cap ≤ maxLen) :
    Calls Try.prog 29 #[.int .i64 (n : Nat), .int .i64 (k : Nat), .slice p n cap] w fun e w' => e = .returned (ratV (chanceR n k xs)) ∧ Below w.heap.size w w' := by
  obtain ⟨b, off, rfl, -, -, hbw, hc⟩ := hin.int (by omega)
  have HC := Lib.hid (fun (i : Nat) (hi' : i < n) (w' : World) (h' : Below w.heap.size w w') => (h'.cell (p := ⟨b, off + i, none⟩) hbw).trans (hc i (by omega)))
  have CH := Lib.hid (fun (i : Nat) (hi' : i ≤ n) (w' : World) (h' : Below w.heap.size w w') => l5Choices_any n k (some ⟨b, off, none⟩) cap (xs.take i) w' lo hi ((hin.below h' hin.top).pfx5 i) (by omega) (by rw [List.length_take]; omega))
  obtain ⟨wb, hwb⟩ : ∃ wb, (w.alloc (.cells #[.int .i64 0, .int .i64 0] 48)).alloc (.cells #[.int .i64 1, .int .i64 1] 48) = wb := ⟨_, rfl⟩
  have hZ : OwnArr wb w.heap.size 48 [.int .i64 0, .int .i64 0] := by rw [← hwb]; exact (OwnArr.made w _ [_, _]).alloc _
  have hX : OwnArr wb (w.heap.size + 1) 48 [.int .i64 1, .int .i64 ((denM n k xs 0 : Nat) : Int)] := by rw [← hwb]; exact OwnArr.mk' rfl (by simp)
  have hB : Below w.heap.size w wb := by rw [← hwb]; exact ((Below.refl _ _).alloc (Nat.le_refl _) _).alloc (by simp) _
  have HZ0 := Lib.hid hZ
  have HX0 := Lib.hid hX
  have HB0 := Lib.hid hB
  have HW := Lib.hid hwb
  have HLX := Lib.hid hlen
  have hcm2 : cap ≤ 9223372036854775807 := by unfold maxLen at hcm; omega
  clear hin hbw hc hZ hX hB hwb hlen
  go_enter Try.func29, Try.ntmps29
  go_upto_region 2 with fail
  rw [HW.out]
  go_wp2_with fail
  go_loopw [8, 9] (fun i _ wr => ∃ (j : Nat), j ≤ n ∧ i = .int .i64 j ∧ Hid (possM n k xs j = true) ∧ Hid (OwnArr wr w.heap.size 48 [.int .i64 0, .int .i64 0]) ∧ Hid (OwnArr wr (w.heap.size + 1) 48 [.int .i64 1, .int .i64 ((denM n k xs j : Nat) : Int)]) ∧ Hid (Below w.heap.size w wr)) (fun i _ _ => n - (intOf i).toNat)
  case atStart => exact ⟨0, Nat.zero_le _, rfl, Lib.hid rfl, HZ0, HX0, HB0⟩
  case round =>
    obtain ⟨j, hj, rfl, HP, HZ, HX, HB⟩ := hrel
    clear HZ0 HX0 HB0 HW
    by_cases hlt : j < n
    · have hj1 : (j : Int) < (n : Int) := by omega
      have hj0 : (0 : Int) ≤ (j : Int) := by omega
      have hjc : (j : Int) ≤ (cap : Int) := by omega
      have CJ := CH.out j hj wr HB.out
      have htl : (xs.take j).length = j := by rw [List.length_take, HLX.out]; omega
      rw [htl] at CJ
      have hd := den_pos HP.out
      have hdb := den_bound n k xs hn (j := j) (by omega)
      have hcl := cho_len n k (xs.take j) hn
      have hps := possM_succ n k xs j
      rw [HP.out, Bool.true_and] at hps
      have hds : denM n k xs (j + 1) = denM n k xs j * (choM n k (xs.take j)).length := rfl
      have hpm := fun (h : possM n k xs n = true) => possM_mono (i := j + 1) h (by omega)
      have hdp := fun (h : possM n k xs (j + 1) = true) => den_pos h
      have hdb2 := den_bound n k xs hn (j := j + 1) (by omega)
      obtain ⟨C, hC⟩ : ∃ C, choM n k (xs.take j) = C := ⟨_, rfl⟩
      rw [hC] at CJ hcl hps hds
      obtain ⟨x, hx⟩ : ∃ x, xs[j]?.getD 0 = x := ⟨_, rfl⟩
      rw [hx] at hps
      have HCJ := Lib.hid (fun w' h' => HC.out j hlt w' h')
      replace HCJ := HCJ.out
      rw [hx] at HCJ
      replace HCJ := Lib.hid HCJ
      obtain ⟨D, hD⟩ : ∃ D, denM n k xs j = D := ⟨_, rfl⟩
      rw [hD] at HX hds hd hdb
      obtain ⟨D2, hD2⟩ : ∃ D2, denM n k xs (j + 1) = D2 := ⟨_, rfl⟩
      rw [hD2] at hds hdp hdb2
      obtain ⟨P2, hP2⟩ : ∃ P2, possM n k xs (j + 1) = P2 := ⟨_, rfl⟩
      rw [hP2] at hps hpm hdp
      have HCJ2 := Lib.hid CJ
      have HPS := Lib.hid hps
      have HPM := Lib.hid hpm
      have HDS := Lib.hid hds
      have HD2 := Lib.hid hD2
      have HP2 := Lib.hid hP2
      have HDP := Lib.hid hdp
      have HCL := Lib.hid hcl
      clear CJ htl hps hds hpm hC hx hD hD2 hP2 hdp hcl
      go_wp2_with fail
      refine HCJ2.out.mono ?_
      rintro e w2 ⟨v, rfl, hv, hb2⟩
      obtain ⟨qv, cv, rfl, -, -, hvr, -⟩ := hv.rd
      have HZ2 := Lib.hid (HZ.out.below hb2 HZ.out.lt)
      have HX2 := Lib.hid (HX.out.below hb2 HX.out.lt)
      have HB2 := Lib.hid (HB.out.trans (hb2.mono HB.out.size))
      have h0 := HCJ.out _ HB2.out
      have LH := l1Has_any qv cv (ints C) x w2 _ _ hvr (by rw [ints_length]; have := HCL.out; omega)
      obtain ⟨L, hL⟩ : ∃ L, (ints C).length = L := ⟨_, rfl⟩
      have hLL : C.length = L := by rw [← hL, ints_length]
      rw [hL] at LH ⊢
      have hds := HDS.out
      rw [hLL] at hds
      have hL12 : L ≤ 12 := by have := HCL.out; omega
      have hps := HPS.out
      obtain ⟨B, hB⟩ : ∃ B, decide (x ∈ ints C) = B := ⟨_, rfl⟩
      rw [hB] at LH hps
      subst hps
      replace LH := Lib.hid LH
      clear hv hb2 hvr HZ HX HB HCJ HCJ2 HPS HDS hL hLL hB HCL
      cases P2 with
      | false =>
        have hF : chanceR n k xs = 0 := by
          unfold chanceR
          rw [if_neg (fun h => by have := HPM.out h; cases this)]
        obtain ⟨z0, z1, y0, y1⟩ := boxed_fr HZ2.out
        have HF := Lib.hid hF
        clear hF hds HDP HPM
        go_wp2_with fail
        refine LH.out.mono ?_
        rintro e w3 ⟨rfl, rfl⟩
        go_wp2_with fail
        exact ret_fr Try.results29 rfl ((HZ2.out.set 0 _).set 1 _) rfl ⟨by rw [HF.out]; rfl, (HB2.out.setCell (p := ⟨w.heap.size, 0, none⟩) (Nat.le_refl _) _).setCell (p := ⟨w.heap.size, 1, none⟩) (Nat.le_refl _) _⟩
      | true =>
        have hp2 := HDP.out rfl
        have CU := l2Cut_any 1 (D * L) (by omega) (by omega) (by omega)
        rw [← hds] at CU
        have ho := one_over hp2
        unfold ratV at CU
        rw [ho.1, ho.2] at CU
        replace CU := Lib.hid CU
        have hmul : ((D : Int) * (L : Int)) = (D2 : Int) := by rw [hds]; push_cast; rfl
        have hwm : IntKind.i64.wrap (D2 : Int) = (D2 : Int) := IntWalk.i64_in _ (by omega)
        obtain ⟨x0, x1, y0, y1⟩ := boxed_fr HX2.out
        have HMUL := hmul
        clear ho hds hp2 hmul
        go_wp2_with fail
        refine LH.out.mono ?_
        rintro e w3 ⟨rfl, rfl⟩
        clear LH
        go_wp2_with fail
        refine (CU.out _).mono ?_
        rintro e w4 ⟨rfl, hb4⟩
        have HZ4 := Lib.hid (HZ2.out.below hb4 HZ2.out.lt)
        have HX4 := Lib.hid (HX2.out.below hb4 HX2.out.lt)
        have HB4 := Lib.hid (HB2.out.trans (hb4.mono HB2.out.size))
        have hz5 := (HZ4.out.other (a := ⟨w.heap.size + 1, 0, none⟩) (by show w.heap.size ≠ w.heap.size + 1; omega) (.int .i64 1)).other (a := ⟨w.heap.size + 1, 1, none⟩) (by show w.heap.size ≠ w.heap.size + 1; omega) (.int .i64 (D2 : Int))
        have hx5 := (HX4.out.set 0 (.int .i64 1)).set 1 (.int .i64 (D2 : Int))
        have hb5 := (HB4.out.setCell (p := ⟨w.heap.size + 1, 0, none⟩) (Nat.le_succ _) (.int .i64 1)).setCell (p := ⟨w.heap.size + 1, 1, none⟩) (Nat.le_succ _) (.int .i64 (D2 : Int))
        have HZ5 := Lib.hid hz5
        have HX5 : Hid (OwnArr ((w4.setCell ⟨w.heap.size + 1, 0, none⟩ (.int .i64 1)).setCell ⟨w.heap.size + 1, 1, none⟩ (.int .i64 (D2 : Int))) (w.heap.size + 1) 48 [.int .i64 1, .int .i64 ((denM n k xs (j + 1) : Nat) : Int)]) := by show OwnArr _ _ _ _; rw [HD2.out]; exact hx5
        have HB5 := Lib.hid hb5
        clear HZ2 HX2 HB2 hb4 HZ4 HB4 hz5 hx5 hb5 CU x0 x1 y0 y1 HD2
        obtain ⟨x0, x1, y0, y1⟩ := boxed_fr HX4.out
        go_wp2_with fail
        go_roundw
        case rel => exact ⟨j + 1, by omega, by go_num, HP2, HZ5, HX5, HB5⟩
        case measure => simp [intOf]; omega
    · have hjn : j = n := by omega
      subst hjn
      have hF : chanceR j k xs = mkRat 1 (denM j k xs j) := by unfold chanceR; rw [if_pos HP.out]
      have ho := one_over (den_pos HP.out)
      have hj1 : ¬ (j : Int) < (j : Int) := by omega
      have HF : Hid (ratV (chanceR j k xs) = .agg #[.int .i64 1, .int .i64 ((denM j k xs j : Nat) : Int)]) := by
        show _ = _
        unfold ratV; rw [hF, ho.1, ho.2]
      obtain ⟨D, hD⟩ : ∃ D, denM j k xs j = D := ⟨_, rfl⟩
      rw [hD] at HX HF
      obtain ⟨x0, x1, -⟩ := boxed_fr HX.out
      obtain ⟨z0, z1, y0, y1⟩ := boxed_fr HZ.out
      clear hF ho hD
      go_wp2_with fail
      exact ret_fr Try.results29 rfl ((HZ.out.set 0 _).set 1 _) rfl ⟨by rw [HF.out], (HB.out.setCell (p := ⟨w.heap.size, 0, none⟩) (Nat.le_refl _) _).setCell (p := ⟨w.heap.size, 1, none⟩) (Nat.le_refl _) _⟩

/-- a list is a possible seating -/
def posB (n k : Nat) (xs : List Int) : Bool := decide (xs.length = n) && possM n k xs n
theorem chance_pos (n k : Nat) (xs : List Int) : decide (0 < (chanceR n k xs).num) = possM n k xs n := by
  unfold chanceR
  cases h : possM n k xs n with
  | true =>
    rw [if_pos rfl, (one_over (den_pos h)).1]; rfl
  | false => rw [if_neg (by simp)]; rfl

end Go.Proofs.Ytkbpfjhikabbmaa
