/- Chapter 6, impl side: impl.isListFor. -/
import Derived.Test.YtgalopbpbhlcdaaCar6
import Derived.Test.YtgalopbpbhlcdaaSeatI
import Derived.Test.YtgalopbpbhlcdaaRowI
namespace Go.Proofs.Ytgalopbpbhlcdaa
open Go.RowKit

set_option maxHeartbeats 800000 in
theorem noSeat_any (s : Int) (ring : Bool) (p : Option Addr) (cap : Nat) (xs : List Int) (x : Int) (g : Nat) (w : World) (lo hi : Nat) (hX : OwnArr w g 26 [.int .i64 s, .bool ring, .slice p xs.length cap]) (hin : Ri lo hi w p xs) (hlen : xs.length ≤ 1048576) :
    Calls Try.prog 46 #[.int .i64 x, .pointer (some ⟨g, 0, none⟩)] w fun e w' => e = .returned (.bool (!seatB s ring xs x)) ∧ Below w.heap.size w w' := by
  have I := Lib.hid (isSeatOf_any s ring p cap xs x w lo hi hin hlen)
  obtain ⟨B, hB⟩ : ∃ B, seatB s ring xs x = B := ⟨_, rfl⟩
  rw [hB] at I ⊢
  obtain ⟨m, hm⟩ : ∃ m, xs.length = m := ⟨_, rfl⟩
  rw [hm] at I hX
  obtain ⟨c0, c1, c2, -⟩ := hX.three
  clear hin hB hm hX
  go_enter Try.func46, Try.ntmps46
  go_wp2_with fail
  refine I.out.mono ?_
  rintro e w2 ⟨rfl, hb2⟩
  have HB2 := Lib.hid hb2
  clear hb2 I
  go_wp2_with fail
  go_ret
  exact ⟨rfl, HB2.out⟩

theorem any_takeI {P : Int → Bool} {xs : List Int} {k : Nat} (h : k < xs.length) : (xs.take (k + 1)).any P = ((xs.take k).any P || P (xs[k]?.getD 0)) := by
  rw [List.take_succ_eq_append_getElem h, List.any_append, List.getElem?_eq_getElem h]
  simp

set_option maxHeartbeats 1000000 in
theorem indexNo_any (P : Int → Bool) (cv : Value) (xs : List Int) (q : Option Addr) (c : Nat) (w : World) (lo hi : Nat) (hin : Ri lo hi w q xs) (hll : xs.length ≤ 1048576)
    (hG : ∀ x w', Below w.heap.size w w' → Calls Try.prog 46 #[.int .i64 x, cv] w' fun e w'' => e = .returned (.bool (P x)) ∧ Below w'.heap.size w' w'') :
    Calls Try.prog 59 #[.slice q xs.length c, .func (.func 46) #[] #[cv]] w fun e w' => ∃ r : Int, e = .returned (.int .i64 r) ∧ (0 ≤ r ↔ xs.any P = true) ∧ Below w.heap.size w w' := by
  have HI := Lib.hid hin
  have G := Lib.hid hG
  obtain ⟨k0, hk0⟩ : ∃ k, xs.length = k := ⟨_, rfl⟩
  rw [hk0] at hll ⊢
  have HM := Lib.hid hk0
  clear hin hk0 hG
  go_enter Try.func59, Try.ntmps59
  go_wp2_with fail
  go_loopw [5, 8] (fun _ i wr => ∃ (k : Nat), k ≤ k0 ∧ i = .int .i64 k ∧ Hid ((xs.take k).any P = false) ∧ Hid (Below w.heap.size w wr)) (fun _ i _ => k0 - (intOf i).toNat)
  case atStart => exact ⟨0, Nat.zero_le _, rfl, by show _ = _; simp, Lib.hid (Below.refl _ _)⟩
  case round =>
    obtain ⟨k, hk, rfl, HF, HB⟩ := hrel
    by_cases hlt : k < k0
    · have hk1 : (k : Int) < (k0 : Int) := by omega
      have hkl : k < xs.length := by have := HM.out; omega
      obtain ⟨b, off, rfl, -, -, hbw, hc⟩ := HI.out.int (by omega)
      have h0 := (HB.out.cell (p := ⟨b, off + k, none⟩) hbw).trans (hc k hkl)
      have hmem : xs[k]?.getD 0 ∈ xs := by rw [List.getElem?_eq_getElem hkl]; exact List.getElem_mem hkl
      have HT := Lib.hid (any_takeI (P := P) hkl)
      obtain ⟨y, hy⟩ : ∃ y, xs[k]?.getD 0 = y := ⟨_, rfl⟩
      rw [hy] at h0 HT hmem
      have G2 := Lib.hid (G.out y wr HB.out)
      have HY : Hid (P y = true → xs.any P = true) := by
        show _ → _
        intro h
        exact List.any_eq_true.2 ⟨y, hmem, h⟩
      obtain ⟨t, ht⟩ : ∃ t, P y = t := ⟨_, rfl⟩
      rw [ht] at G2 HT HY
      clear hc hy ht hmem
      cases t with
      | true =>
        go_wp2_with fail
        refine G2.out.mono ?_
        rintro e w2 ⟨rfl, hb2⟩
        have HB2 := Lib.hid (HB.out.trans (hb2.mono HB.out.size))
        clear hb2
        go_wp2_with fail
        go_ret
        exact ⟨_, rfl, by have := HY.out trivial; simp [this], HB2.out⟩
      | false =>
        have HF2 : Hid ((xs.take (k + 1)).any P = false) := by
          show _ = _
          rw [HT.out, HF.out]; rfl
        clear HT HF HY
        go_wp2_with fail
        refine G2.out.mono ?_
        rintro e w2 ⟨rfl, hb2⟩
        have HB2 := Lib.hid (HB.out.trans (hb2.mono HB.out.size))
        clear hb2 h0 G2 HB
        go_wp2_with fail
        go_roundw
        case rel => exact ⟨k + 1, by omega, by go_num, HF2, HB2⟩
        case measure => simp [intOf]; omega
    · have hkm : xs.take k = xs := List.take_of_length_le (by have := HM.out; omega)
      have hF := HF.out
      rw [hkm] at hF
      replace hF := Lib.hid hF
      clear HF hkm
      go_wp2_with fail
      go_ret
      exact ⟨_, rfl, by have := hF.out; simp [this], HB.out⟩

set_option maxHeartbeats 1000000 in
theorem containsNo_any (P : Int → Bool) (cv : Value) (xs : List Int) (q : Option Addr) (c : Nat) (w : World) (lo hi : Nat) (hin : Ri lo hi w q xs) (hll : xs.length ≤ 1048576)
    (hG : ∀ x w', Below w.heap.size w w' → Calls Try.prog 46 #[.int .i64 x, cv] w' fun e w'' => e = .returned (.bool (P x)) ∧ Below w'.heap.size w' w'') :
    Calls Try.prog 49 #[.slice q xs.length c, .func (.func 46) #[] #[cv]] w fun e w' => e = .returned (.bool (xs.any P)) ∧ Below w.heap.size w w' := by
  have I := Lib.hid (indexNo_any P cv xs q c w lo hi hin hll hG)
  obtain ⟨B, hB⟩ : ∃ B, xs.any P = B := ⟨_, rfl⟩
  rw [hB] at I ⊢
  clear hin hG hB
  go_enter Try.func49, Try.ntmps49
  go_wp2_with fail
  refine I.out.mono ?_
  rintro e w' ⟨r, rfl, hr, hb⟩
  replace hr := Lib.hid hr
  have HB := Lib.hid hb
  go_wp2_with fail
  go_ret
  exact ⟨ret_bool (by have := hr.out; cases B <;> simp_all), HB.out⟩

set_option maxRecDepth 4000 in
set_option maxHeartbeats 1600000 in
theorem isListFor_any (s : Int) (ring : Bool) (p : Option Addr) (cap : Nat) (xs : List Int) (q : Option Addr) (c : Nat) (cs : List Int) (w : World) (lo hi lo2 hi2 : Nat) (hin : Ri lo hi w p xs) (hlen : xs.length ≤ 1048576) (hin2 : Ri lo2 hi2 w q cs) (hlen2 : cs.length ≤ 1048576) :
    Calls Try.prog 34 #[rowV s ring p xs.length cap, .slice q cs.length c] w fun e w' => e = .returned (.bool (carsB s ring xs cs)) ∧ Below w.heap.size w w' := by
  have hX := OwnArr.made w 26 [.int .i64 s, .bool ring, .slice p xs.length cap]
  have hB := box_below w s ring p xs.length cap 26
  have I := Lib.hid (isRow_any s ring p cap xs _ lo hi (hin.below hB hin.top) hlen)
  have CF := Lib.hid (fun (w' : World) (hb : Below w.heap.size w w') (hx : OwnArr w' w.heap.size 26 [.int .i64 s, .bool ring, .slice p xs.length cap]) => containsNo_any (fun x => !seatB s ring xs x) (.pointer (some ⟨w.heap.size, 0, none⟩)) cs q c w' lo2 hi2 (hin2.below hb hin2.top) hlen2
    (fun x w2 hb2 => noSeat_any s ring p cap xs x w.heap.size w2 lo hi (hx.below hb2 hx.lt) (hin.below (hb.trans (hb2.mono hb.size)) hin.top) hlen))
  have HR : Hid (carsB s ring xs cs = (rowB s ring xs && (decide (cs.length ≤ 12) && !(cs.any fun x => !seatB s ring xs x)))) := by
    show _ = _
    unfold carsB
    congr 2
    rw [List.not_any_eq_all_not]
    simp
  obtain ⟨R, hR⟩ : ∃ R, carsB s ring xs cs = R := ⟨_, rfl⟩
  rw [hR] at HR ⊢
  obtain ⟨RB, hRB⟩ : ∃ RB, rowB s ring xs = RB := ⟨_, rfl⟩
  rw [hRB] at HR I
  obtain ⟨A, hA⟩ : ∃ A, (cs.any fun x => !seatB s ring xs x) = A := ⟨_, rfl⟩
  rw [hA] at HR CF
  obtain ⟨m0, hm0⟩ : ∃ m, xs.length = m := ⟨_, rfl⟩
  rw [hm0] at hX hB I CF ⊢
  obtain ⟨m, hm⟩ : ∃ m, cs.length = m := ⟨_, rfl⟩
  rw [hm] at HR CF hlen2 ⊢
  obtain ⟨c0, c1, c2, -⟩ := hX.three
  have HX := Lib.hid hX
  have HB := Lib.hid hB
  clear hin hin2 hR hRB hA hm0 hm hlen hX hB
  cases RB with
  | false =>
    have hr := HR.out
    simp only [Bool.false_and] at hr
    subst hr
    clear HR
    go_enter Try.func34, Try.ntmps34
    go_wp2_with fail
    refine I.out.mono ?_
    rintro e w2 ⟨rfl, hb2⟩
    have HB2 := Lib.hid (HB.out.trans (hb2.mono HB.out.size))
    clear hb2 I
    go_wp2_with fail
    go_ret
    exact ⟨rfl, HB2.out⟩
  | true =>
    by_cases h12 : m ≤ 12
    · have hr := HR.out
      rw [decide_eq_true h12, Bool.true_and, Bool.true_and] at hr
      have HR2 := Lib.hid hr
      have h12i : (m : Int) ≤ 12 := by omega
      clear HR hr
      go_enter Try.func34, Try.ntmps34
      go_wp2_with fail
      refine I.out.mono ?_
      rintro e w2 ⟨rfl, hb2⟩
      have HB2 := Lib.hid (HB.out.trans (hb2.mono HB.out.size))
      have HX2 := Lib.hid (HX.out.below hb2 HX.out.lt)
      clear hb2 I HB HX c0 c1 c2
      go_wp2_with fail
      refine (CF.out _ HB2.out HX2.out).mono ?_
      rintro e w3 ⟨rfl, hb3⟩
      have HB3 := Lib.hid (HB2.out.trans (hb3.mono HB2.out.size))
      clear hb3 CF HB2
      go_wp2_with fail
      go_ret
      exact ⟨ret_bool HR2.out.symm, HB3.out⟩
    · have hr := HR.out
      rw [decide_eq_false h12, Bool.false_and, Bool.and_false] at hr
      subst hr
      have h12i : ¬ (m : Int) ≤ 12 := by omega
      clear HR
      go_enter Try.func34, Try.ntmps34
      go_wp2_with fail
      refine I.out.mono ?_
      rintro e w2 ⟨rfl, hb2⟩
      have HB2 := Lib.hid (HB.out.trans (hb2.mono HB.out.size))
      clear hb2 I
      go_wp2_with fail
      go_ret
      exact ⟨ret_bool (by simp), HB2.out⟩
end Go.Proofs.Ytgalopbpbhlcdaa
