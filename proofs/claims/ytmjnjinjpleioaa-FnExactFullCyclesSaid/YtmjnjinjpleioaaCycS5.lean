/- Chapter 5, spec side: spec.FullCycles. -/
import Derived.Test.YtmjnjinjpleioaaCycM5
import Derived.Test.YtmjnjinjpleioaaMov5
import Derived.Test.YtmjnjinjpleioaaMarks
namespace Go.Proofs.Ytmjnjinjpleioaa
open Go.RowKit

/-- how many cells of a block are as told -/
def cntV (q : Nat → Value → Bool) (w : World) (g : Nat) : Nat := match w.heap[g]? with
  | some (.cells vs _ _) => ((List.range vs.size).filter (fun j => q j (vs[j]?.getD undef))).length
  | _ => 0
theorem cntV_own {q : Nat → Value → Bool} {w : World} {g : Nat} {e : TypeId} {xs : List Value} (h : OwnArr w g e xs) : cntV q w g = ((List.range xs.length).filter (fun j => q j (xs[j]?.getD undef))).length := by
  unfold cntV
  rw [h]
  simp
theorem tk_le2 {T U : Nat → Bool} : ∀ N, (∀ j, j < N → U j = true → T j = true) → (tk N U).length ≤ (tk N T).length
  | 0, _ => Nat.le_refl _
  | N + 1, h => by
    have ih := tk_le2 N (fun j hj => h j (Nat.lt_succ_of_lt hj))
    have h1 := h N (Nat.lt_succ_self N)
    rw [tk_succ, tk_succ, List.length_append, List.length_append]
    cases hU : U N with
    | false => simp only [Bool.false_eq_true, if_false, List.length_nil]; omega
    | true => rw [h1 hU]; simp only [if_true]; omega
theorem tk_lt2 {T U : Nat → Bool} {s : Nat} (hT : T s = true) (hU : U s = false) : ∀ N, s < N → (∀ j, j < N → U j = true → T j = true) → (tk N U).length < (tk N T).length
  | 0, h, _ => absurd h (Nat.not_lt_zero _)
  | N + 1, hs, h => by
    have h1 := h N (Nat.lt_succ_self N)
    rw [tk_succ, tk_succ, List.length_append, List.length_append]
    by_cases e : s = N
    · subst e
      have := tk_le2 s (fun j hj => h j (Nat.lt_succ_of_lt hj))
      rw [hT, hU]
      simp only [Bool.false_eq_true, if_false, if_true, List.length_nil, List.length_singleton]
      omega
    · have ih := tk_lt2 hT hU N (by omega) (fun j hj => h j (Nat.lt_succ_of_lt hj))
      cases hN : U N with
      | false => simp only [Bool.false_eq_true, if_false, List.length_nil]; omega
      | true => rw [h1 hN]; simp only [if_true]; omega
/-- a mark that is not set -/
def isF (_ : Nat) : Value → Bool
  | .bool b => !b
  | _ => false
theorem cntF {w : World} {g n : Nat} {e : TypeId} {T : Nat → Bool} (h : OwnArr w g e (bv (bl n T))) : cntV isF w g = (tk n (fun j => !T j)).length := by
  rw [cntV_own h, bv_length, bl_length]
  unfold tk
  congr 1
  apply List.filter_congr
  intro j hj
  rw [List.mem_range] at hj
  rw [bv_get (by rw [bl_length]; exact hj), bl_getD hj]
  rfl
theorem bl_false (n : Nat) (T : Nat → Bool) (h : ∀ j, T j = false) : List.replicate n (Value.bool false) = bv (bl n T) := by
  apply List.ext_getElem?
  intro i
  by_cases hi : i < n
  · rw [bv_get (by rw [bl_length]; exact hi), bl_getD hi, h i]
    simp [hi]
  · rw [List.getElem?_eq_none (by simp; omega), List.getElem?_eq_none (by rw [bv_length, bl_length]; omega)]

set_option maxRecDepth 4000 in
set_option maxHeartbeats 2000000 in
theorem fullCyclesS_no (n k : Int) (p : Option Addr) (cap : Nat) (xs : List Int) (w : World) (lo hi : Nat) (hin : Ri lo hi w p xs) (hcap : xs.length ≤ cap) (hcm : cap ≤ maxLen) (hlen : xs.length ≤ 1048576) (ha : askB n k xs = false) :
    Calls Try.prog 22 #[.int .i64 n, .int .i64 k, .slice p xs.length cap] w fun e w' => e = .returned (.tuple #[.int .i64 0, .bool false]) ∧ Below w.heap.size w w' := by
  have A := l5Ask_any n k p cap xs w lo hi hin hcap hcm hlen
  rw [ha] at A
  replace A := Lib.hid A
  obtain ⟨m, hm⟩ : ∃ m, xs.length = m := ⟨_, rfl⟩
  rw [hm] at A ⊢
  clear ha hm hin
  go_enter Try.func22, Try.ntmps22
  go_wp2_with fail
  refine A.out.mono ?_
  rintro e w1 ⟨rfl, hb1⟩
  go_wp2_with fail
  go_ret2
  exact ⟨rfl, hb1⟩

set_option maxRecDepth 4000 in
set_option maxHeartbeats 4000000 in
theorem fullCyclesS_any (n k : Nat) (p : Option Addr) (cap : Nat) (xs : List Int) (w : World) (lo hi : Nat) (hin : Ri lo hi w p xs) (hcap : xs.length ≤ cap) (hcm : cap ≤ maxLen) (ha : askB n k xs = true) :
    Calls Try.prog 22 #[.int .i64 (n : Nat), .int .i64 (k : Nat), .slice p xs.length cap] w fun e w' => e = .returned (.tuple #[.int .i64 ((cycN (setF xs) n n : Nat) : Int), .bool true]) ∧ Below w.heap.size w w' := by
  obtain ⟨a, b', e1, e2, h1, h2, h3, hl, hp⟩ := askB_is ha
  have e1' : n = a := by omega
  have e2' : k = b' := by omega
  subst e1' e2'
  have A := l5Ask_any (n : Int) (k : Int) p cap xs w lo hi hin hcap hcm (by omega)
  rw [ha] at A
  obtain ⟨hper, hval⟩ := set_per hp hl
  obtain ⟨b, off, rfl, -, -, hbw, hc⟩ := hin.int (by omega)
  obtain ⟨f, hf⟩ : ∃ f, setF xs = f := ⟨_, rfl⟩
  rw [hf] at hper hval ⊢
  have HC := Lib.hid (fun (i : Nat) (hi' : i < n) (w' : World) (h' : Below w.heap.size w w') => ((h'.cell (p := ⟨b, off + i, none⟩) hbw).trans (hc i (by omega))).trans (congrArg (fun x => some (Value.int .i64 x)) (hval i hi')))
  have HP := Lib.hid hper
  rw [hl] at A ⊢
  replace A := Lib.hid A
  have hmk0 := @run_make_row' Try.prog 52 4 (.bool false) 1 Try.underlying52 (by kernel_rfl) rfl .i64 .i64 n (by omega) (by omega)
  rw [madeCells_one, bl_false n (sinB f n 0) (sin_zero f n)] at hmk0
  obtain ⟨R, hR⟩ : ∃ R, cycN f n n = R := ⟨_, rfl⟩
  rw [hR]
  replace hR := Lib.hid hR
  clear ha hin hc hbw hper hval hf e1 e2 hp
  go_enter Try.func22, Try.ntmps22
  go_wp2_with fail
  refine A.out.mono ?_
  rintro e w1 ⟨rfl, hb1⟩
  have hmk := hmk0 w1.drew
  obtain ⟨w2, hw2⟩ : ∃ w2, w2 = w1.drew.alloc (.cells (bv (bl n (sinB f n 0))).toArray 4) := ⟨_, rfl⟩
  rw [← hw2] at hmk
  have HO2 : Hid (OwnArr w2 w1.heap.size 4 (bv (bl n (sinB f n 0)))) := by show OwnArr _ _ _ _; rw [hw2]; exact OwnArr.made _ _ _
  have HB2 : Hid (Below w.heap.size w w2) := by show Below _ _ _; rw [hw2]; exact hb1.drew.alloc hb1.size _
  have hg : w.heap.size ≤ w1.heap.size := hb1.size
  clear hw2 hmk0 hb1 A
  go_wp2_with fail
  go_region
  all_goals
    go_wp2_with fail
    clear hmk
    go_loopw [8, 10, 11] (fun m i _ wr => ∃ (j : Nat), j ≤ n ∧ m = .int .i64 ((cycN f n j : Nat) : Int) ∧ i = .int .i64 (j : Int) ∧ Hid (OwnArr wr w1.heap.size 4 (bv (bl n (sinB f n j)))) ∧ Hid (Below w.heap.size w wr)) (fun _ i _ _ => n - (intOf i).toNat)
    case atStart => exact ⟨0, Nat.zero_le _, rfl, rfl, HO2, HB2⟩
    case round =>
      obtain ⟨j, hj, rfl, rfl, HO, HB⟩ := hrel
      clear HO2 HB2
      by_cases hlt : j < n
      · have hj1 : (j : Int) < (n : Int) := by omega
        have hj0 : (0 : Int) ≤ (j : Int) := by omega
        have h0 := HC.out j hlt _ HB.out
        have hs0 := HO.out.cell j
        rw [bv_get (by rw [bl_length]; exact hlt), bl_getD hlt] at hs0
        have HCY : Hid (cycN f n (j + 1) = cycN f n j + (if sinB f n j j = true ∨ f j = j then 0 else 1)) := rfl
        have HSM := Lib.hid (fun hc => sin_same HP.out hlt hc)
        have hcl := cycN_le f n j
        cases hB : sinB f n j j with
        | true =>
          rw [hB] at hs0
          have hO := HO.out
          rw [bl_congr (fun i _ => (HSM.out (.inl hB) i).symm)] at hO
          have hcy : cycN f n (j + 1) = cycN f n j := by rw [HCY.out, if_pos (.inl hB)]; rfl
          rw [← hcy]
          rw [← hcy] at hcl
          have HO3 := Lib.hid hO
          obtain ⟨c, hc⟩ : ∃ c, cycN f n (j + 1) = c := ⟨_, rfl⟩
          rw [hc]
          replace hc := Lib.hid hc
          clear hO hcy HCY HSM hB HO hcl
          go_wp2_with fail
          go_roundw
          case rel => exact ⟨j + 1, by omega, by rw [hc.out], by go_num, HO3, HB⟩
          case measure => simp [intOf]; omega
        | false =>
          rw [hB] at hs0
          by_cases hfj : f j = j
          · have hO := HO.out
            rw [bl_congr (fun i _ => (HSM.out (.inr hfj) i).symm)] at hO
            have hcy : cycN f n (j + 1) = cycN f n j := by rw [HCY.out, if_pos (.inr hfj)]; rfl
            rw [← hcy]
            rw [← hcy] at hcl
            rw [hfj] at h0
            have HO3 := Lib.hid hO
            obtain ⟨c, hc⟩ : ∃ c, cycN f n (j + 1) = c := ⟨_, rfl⟩
            rw [hc]
            replace hc := Lib.hid hc
            clear hO hcy HCY HSM hB HO hfj hcl
            go_wp2_with fail
            go_roundw
            case rel => exact ⟨j + 1, by omega, by rw [hc.out], by go_num, HO3, HB⟩
            case measure => simp [intOf]; omega
          · obtain ⟨p, p1, p2, p3, p4⟩ := per_min HP.out hlt
            have hcy := HCY.out
            rw [if_neg (by rintro (h | h); rw [hB] at h; cases h; exact hfj h)] at hcy
            have hO := HO.out
            rw [bl_congr (fun i _ => (see_zero f n j i).symm)] at hO
            have HO0 := Lib.hid hO
            have HFR := Lib.hid (fun (t : Nat) (ht : t < p) => see_fresh HP.out hlt hB p4 ht)
            have HDN := Lib.hid (fun i => see_done HP.out hlt hfj p1 p3 i)
            have HEN := Lib.hid (see_end (f := f) (n := n) (i := j) p1 p3)
            have HLT := Lib.hid (fun t => it_lt HP.out hlt t)
            have HPP := Lib.hid p3
            obtain ⟨c, hc⟩ : ∃ c, cycN f n j = c := ⟨_, rfl⟩
            rw [hc] at hcy hcl ⊢
            have HC2 := Lib.hid hcy
            obtain ⟨x, hx⟩ : ∃ x, f j = x := ⟨_, rfl⟩
            rw [hx] at h0
            have hxj : ¬ (x : Int) = (j : Int) := by omega
            have hwc : IntKind.i64.wrap ((c : Int) + 1) = (c : Int) + 1 := IntWalk.i64_in _ (by omega)
            clear hO hcy hc HCY HSM HO hfj p3 p4 hB hx
            go_wp2_with fail
            go_loopw [11] (fun at' wr => ∃ (t : Nat), t ≤ p ∧ at' = .int .i64 ((it f t j : Nat) : Int) ∧ Hid (OwnArr wr w1.heap.size 4 (bv (bl n (seeB f n j t)))) ∧ Hid (Below w.heap.size w wr)) (fun _ wr => cntV isF wr w1.heap.size)
            case atStart => exact ⟨0, Nat.zero_le _, rfl, HO0, HB⟩
            case round =>
              obtain ⟨t, ht, rfl, HO, HB⟩ := hrel
              clear HO0
              have hat := HLT.out t
              have hs1 := HO.out.cell (it f t j)
              rw [bv_get (by rw [bl_length]; exact hat), bl_getD hat] at hs1
              have hfree := HO.out.free (it f t j)
              by_cases htp : t < p
              · have hfr := HFR.out t htp
                rw [hfr] at hs1
                have h1 := HC.out (it f t j) hat
                have hset := HO.out.set (it f t j) (.bool true)
                rw [bv_set, bl_set, bl_congr (fun i _ => (see_step f n j t i).symm)] at hset
                have hcnt : (tk n (fun i => !seeB f n j (t + 1) i)).length < (tk n (fun i => !seeB f n j t i)).length := by
                  refine tk_lt2 (s := it f t j) (by rw [hfr]; rfl) (by rw [see_step, if_pos rfl]; rfl) n hat ?_
                  intro i _ hi'
                  rw [see_step] at hi'
                  by_cases e : i = it f t j
                  · rw [if_pos e] at hi'; cases hi'
                  · rw [if_neg e] at hi'; exact hi'
                have HCT := Lib.hid hcnt
                have HNX : Hid (it f (t + 1) j = f (it f t j)) := rfl
                have HO2 := Lib.hid hset
                have HB2 := Lib.hid (HB.out.setCell (p := ⟨w1.heap.size, it f t j, none⟩) hg (.bool true))
                have h2 := h1 _ HB2.out
                obtain ⟨y, hy⟩ : ∃ y, it f t j = y := ⟨_, rfl⟩
                rw [hy] at h2 hs1 hfree hat HO2 HB2 HNX ⊢
                obtain ⟨z, hz⟩ : ∃ z, f y = z := ⟨_, rfl⟩
                rw [hz] at h2 HNX
                have hy0 : (0 : Int) ≤ (y : Int) := by omega
                have hy1 : (y : Int) < (n : Int) := by omega
                clear hset hcnt hfr h1 hy hz
                go_wp2_with fail
                go_roundw
                case rel => exact ⟨t + 1, by omega, by rw [HNX.out], HO2, HB2⟩
                case measure => rw [cntF HO2.out, cntF HO.out]; exact HCT.out
              · have htp2 : t = p := by omega
                subst htp2
                rw [HEN.out] at hs1
                have hO := HO.out
                rw [bl_congr (fun i _ => HDN.out i)] at hO
                have HO3 := Lib.hid hO
                rw [HPP.out] at hs1 hat ⊢
                clear hO HO htp
                go_wp2_with fail
                go_roundw
                case rel => exact ⟨j + 1, by omega, by rw [HC2.out]; rfl, by go_num, HO3, HB⟩
                case measure => simp [intOf]; omega
      · have hjn : j = n := by omega
        subst hjn
        have hj1 : ¬ (j : Int) < (j : Int) := by omega
        have hR' := hR.out
        obtain ⟨c, hc⟩ : ∃ c, cycN f j j = c := ⟨_, rfl⟩
        rw [hc] at hR' ⊢
        subst hR'
        clear hR hc
        go_wp2_with fail
        go_ret2
        exact ⟨rfl, HB.out⟩
end Go.Proofs.Ytmjnjinjpleioaa
