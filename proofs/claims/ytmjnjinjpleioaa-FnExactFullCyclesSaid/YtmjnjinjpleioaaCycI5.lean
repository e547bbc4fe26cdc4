/- Chapter 5, impl side: impl.cyclesIn, FullCycles; both sides. -/
import Derived.Test.YtmjnjinjpleioaaCycS5
import Derived.Test.YtmjnjinjpleioaaShO5
import Derived.Laws.CopyOwn
namespace Go.Proofs.Ytmjnjinjpleioaa
open Go.RowKit

/-- an array of twelve numbers -/
def cyL (R : Nat → Nat) : List Value := (List.range 12).map (fun j => Value.int .i64 ((R j : Nat) : Int))
theorem cyL_len (R : Nat → Nat) : (cyL R).length = 12 := by unfold cyL; rw [List.length_map, List.length_range]
theorem cyL_get {R : Nat → Nat} {i : Nat} (h : i < 12) : (cyL R)[i]? = some (.int .i64 ((R i : Nat) : Int)) := by
  unfold cyL; rw [List.getElem?_map, List.getElem?_range h]; rfl
theorem cyL_set (R : Nat → Nat) (k x : Nat) : (cyL R).set k (.int .i64 (x : Int)) = cyL (fun j => if j = k then x else R j) := by
  apply List.ext_getElem?
  intro i
  rw [List.getElem?_set]
  by_cases hi : i < 12
  · rw [cyL_get hi, cyL_get hi, cyL_len]
    by_cases e : k = i
    · subst e; rw [if_pos rfl, if_pos hi, if_pos rfl]
    · rw [if_neg e, if_neg (fun e2 => e e2.symm)]
  · rw [List.getElem?_eq_none (by rw [cyL_len]; omega), List.getElem?_eq_none (by rw [cyL_len]; omega), cyL_len]
    by_cases e : k = i
    · rw [if_pos e, if_neg (by omega)]
    · rw [if_neg e]
theorem cyL_congr {R S : Nat → Nat} (h : ∀ j, R j = S j) : cyL R = cyL S := by rw [show R = S from funext h]
/-- a number that is not its place's own -/
def isI (j : Nat) : Value → Bool
  | .int _ x => !decide (x = (j : Int))
  | _ => false
theorem cntI {w : World} {g : Nat} {e : TypeId} {R : Nat → Nat} (h : OwnArr w g e (cyL R)) : cntV isI w g = (tk 12 (fun j => !decide (R j = j))).length := by
  rw [cntV_own h, cyL_len]
  unfold tk
  congr 1
  apply List.filter_congr
  intro j hj
  rw [List.mem_range] at hj
  rw [cyL_get hj]
  show (!decide (((R j : Nat) : Int) = (j : Int))) = _
  congr 1
  exact decide_eq_decide.2 (by omega)
abbrev ZL : List Value := [.int .i64 0, .int .i64 0, .int .i64 0, .int .i64 0, .int .i64 0, .int .i64 0, .int .i64 0, .int .i64 0, .int .i64 0, .int .i64 0, .int .i64 0, .int .i64 0]
theorem cyL_zero : ZL = cyL (fun _ => 0) := rfl
theorem cyL_copy {n : Nat} {xs : List Int} {f : Nat → Nat} (hl : xs.length = n) (hn : n ≤ 12) (hv : ∀ i, i < n → xs[i]?.getD 0 = ((f i : Nat) : Int)) : splice ZL 0 (iv xs) = cyL (resN f n 0) := by
  rw [cyL_zero]
  unfold splice
  rw [List.take_zero, List.nil_append, Nat.zero_add, iv_length, hl]
  apply List.ext_getElem?
  intro i
  by_cases h : i < n
  · rw [List.getElem?_append_left (by rw [iv_length, hl]; exact h), iv_get (by omega), hv i h, cyL_get (by omega)]
    unfold resN
    rw [if_pos h, sin_zero]
    rfl
  · rw [List.getElem?_append_right (by rw [iv_length, hl]; omega), iv_length, hl, List.getElem?_drop, show n + (i - n) = i by omega]
    by_cases h2 : i < 12
    · rw [cyL_get h2, cyL_get h2]
      unfold resN
      rw [if_neg h]
    · rw [List.getElem?_eq_none (by rw [cyL_len]; omega), List.getElem?_eq_none (by rw [cyL_len]; omega)]

set_option maxRecDepth 4000 in
set_option maxHeartbeats 4000000 in
theorem cyclesIn_any (n k : Nat) (p : Option Addr) (cap : Nat) (xs : List Int) (w : World) (lo hi : Nat) (hin : Ri lo hi w p xs) (hn1 : 1 ≤ n) (h2 : n ≤ 12) (hl : xs.length = n) (hp : possM n k xs n = true) :
    Calls Try.prog 40 #[.slice p xs.length cap] w fun e w' => e = .returned (.int .i64 ((cycN (setF xs) n n : Nat) : Int)) ∧ Below w.heap.size w w' := by
  obtain ⟨hper, hval⟩ := set_per hp hl
  obtain ⟨b, off, rfl, -, -, hbw, hc⟩ := hin.int (by omega)
  obtain ⟨f, hf⟩ : ∃ f, setF xs = f := ⟨_, rfl⟩
  rw [hf] at hper hval ⊢
  have HP := Lib.hid hper
  have HCE := Lib.hid (cyL_copy hl h2 hval)
  obtain ⟨wb, hwb⟩ : ∃ wb, w.alloc (.cells ZL.toArray 63) = wb := ⟨_, rfl⟩
  have hZ : OwnArr wb w.heap.size 63 ZL := by rw [← hwb]; exact OwnArr.made _ _ _
  have hB : Below w.heap.size w wb := by rw [← hwb]; exact (Below.refl _ _).alloc (Nat.le_refl _) _
  obtain ⟨CS, hCS⟩ : ∃ CS, iv xs = CS := ⟨_, rfl⟩
  have hCL : CS.length = n := by rw [← hCS, iv_length, hl]
  have HSRC : Hid (∀ j v, CS[j]? = some v → wb.cell? ((⟨b, off, none⟩ : Addr).add j) = some v) := by
    show ∀ _ _, _
    intro j v hjv
    have hr := hin.below hB hin.top
    obtain ⟨ad, e, h⟩ := rd_news hr (by omega)
    simp only [Option.some.injEq] at e
    subst e
    rw [← hCS] at hjv
    exact h j v hjv
  have HONE : Hid (∀ v ∈ CS, v.oneCell' = true) := by show ∀ _ ∈ _, _; rw [← hCS]; exact iv_one xs
  rw [hCS] at HCE
  have HCL := Lib.hid hCL
  have HZ := Lib.hid hZ
  have HB := Lib.hid hB
  have HW := Lib.hid hwb
  have hsz : (Try.prog.info? 3).map (·.size) = some 1 := by kernel_rfl
  rw [hl]
  obtain ⟨R, hR⟩ : ∃ R, cycN f n n = R := ⟨_, rfl⟩
  rw [hR]
  replace hR := Lib.hid hR
  clear hin hper hval hf hc hbw hZ hB hCS hwb hp hCL hl
  go_enter Try.func40, Try.ntmps40
  go_upto_region 3 with fail
  rw [HW.out]
  go_wp2_with (refine wpList_copy_splice rfl (.tmp 7) (.tmp 8) 22 22 rfl 3 Try.underlying22 hsz _ _ _ _ _ _ rfl rfl w.heap.size 0 ZL 63 HZ.out CS (by rw [HCL.out]; show n = min n 12; omega) (fun _ => ⟨rfl, ⟨b, off, none⟩, rfl, HSRC.out⟩) (by rw [HCL.out]; show 0 + n ≤ 12; omega) HONE.out w.heap.size w HB.out (Nat.le_refl _) ?_; intro W2 hA2 hB2)
  have hO2 : OwnArr W2 w.heap.size 63 (splice ZL 0 CS) := hA2.out
  rw [HCE.out] at hO2
  have HO2 := Lib.hid hO2
  have HB2 := Lib.hid hB2
  clear hO2 hA2 hB2 HCE HSRC HONE HZ HB HW
  go_wp2_with fail
  go_loopw [3, 12, 5, 6] (fun m i _ _ wr => ∃ (j : Nat), j ≤ n ∧ m = .int .i64 ((cycN f n j : Nat) : Int) ∧ i = .int .i64 (j : Int) ∧ Hid (OwnArr wr w.heap.size 63 (cyL (resN f n j))) ∧ Hid (Below w.heap.size w wr)) (fun _ i _ _ _ => n - (intOf i).toNat)
  case atStart => exact ⟨0, Nat.zero_le _, rfl, rfl, HO2, HB2⟩
  case round =>
    obtain ⟨j, hj, rfl, rfl, HO, HB⟩ := hrel
    clear HO2 HB2
    by_cases hlt : j < n
    · have hj1 : (j : Int) < (n : Int) := by omega
      have hj0 : (0 : Int) ≤ (j : Int) := by omega
      have hj2 : (j : Int) < 12 := by omega
      have hs0 := HO.out.cell j
      rw [cyL_get (by omega), res_at hlt] at hs0
      have hcl := cycN_le f n j
      by_cases hB : sinB f n j j = true ∨ f j = j
      · have hO := HO.out
        rw [cyL_congr (fun i => (res_same HP.out hlt hB i).symm)] at hO
        have hcy : cycN f n (j + 1) = cycN f n j := by
          show cycN f n j + (if _ then 0 else 1) = _
          rw [if_pos hB]; rfl
        rw [if_pos hB] at hs0
        rw [← hcy]
        rw [← hcy] at hcl
        have HO3 := Lib.hid hO
        obtain ⟨c, hc⟩ : ∃ c, cycN f n (j + 1) = c := ⟨_, rfl⟩
        rw [hc]
        replace hc := Lib.hid hc
        have HS0 := Lib.hid (HO3.out.cell j)
        have hs9 := HS0.out
        clear hO hcy hB HO hcl HS0 hs9
        go_wp2_with fail
        go_loopw [6] (fun _ wr => Hid (OwnArr wr w.heap.size 63 (cyL (resN f n (j + 1)))) ∧ wr.cell? ⟨w.heap.size, j, none⟩ = some (.int .i64 (j : Int)) ∧ Hid (Below w.heap.size w wr)) (fun _ _ => 0)
        case atStart => exact ⟨HO3, hs0, HB⟩
        case round =>
          obtain ⟨HO4, hs4, HB4⟩ := hrel
          clear HO3 hs0 HB
          go_wp2_with fail
          go_roundw
          case rel => exact ⟨j + 1, by omega, by rw [hc.out], by go_num, HO4, HB4⟩
          case measure => simp [intOf]; omega
      · rw [if_neg hB] at hs0
        have hsB : sinB f n j j = false := by
          cases h : sinB f n j j with
          | false => rfl
          | true => exact absurd (.inl h) hB
        have hfj : ¬ f j = j := fun h => hB (.inr h)
        obtain ⟨p, p1, p2, p3, p4⟩ := per_min HP.out hlt
        have hcy : cycN f n (j + 1) = cycN f n j + 1 := by
          show cycN f n j + (if _ then 0 else 1) = _
          rw [if_neg hB]
        have hO := HO.out
        rw [cyL_congr (fun i => (und_one hsB i).symm)] at hO
        have HO0 := Lib.hid hO
        have HOWN := Lib.hid (fun (t : Nat) (h1 : 1 ≤ t) (ht : t < p) => und_own HP.out hlt hsB p4 h1 ht)
        have HST := Lib.hid (fun (t : Nat) (h1 : 1 ≤ t) (ht : t < p) (i : Nat) => und_step (f := f) (n := n) hlt p4 h1 ht (it_lt HP.out hlt t) i)
        have HDN := Lib.hid (fun i => und_done HP.out hlt hfj p1 p3 i)
        have HLT := Lib.hid (fun t => it_lt HP.out hlt t)
        have HNE := Lib.hid p4
        have HPP := Lib.hid p3
        have HAT : Hid (∀ t, undN f n j t j = it f t j) := by
          show ∀ _, _
          intro t
          unfold undN
          rw [if_pos hlt, if_pos rfl]
        obtain ⟨c, hc⟩ : ∃ c, cycN f n j = c := ⟨_, rfl⟩
        rw [hc] at hcy hcl ⊢
        have HC2 := Lib.hid hcy
        obtain ⟨x, hx⟩ : ∃ x, f j = x := ⟨_, rfl⟩
        rw [hx] at hs0
        have hxj : ¬ (x : Int) = (j : Int) := by omega
        have hwc : IntKind.i64.wrap ((c : Int) + 1) = (c : Int) + 1 := IntWalk.i64_in _ (by omega)
        clear hO hcy hc HO hfj p3 p4 hB hsB hx
        go_wp2_with fail
        go_loopw [6] (fun _ wr => ∃ (t : Nat), 1 ≤ t ∧ t ≤ p ∧ Hid (OwnArr wr w.heap.size 63 (cyL (undN f n j t))) ∧ Hid (Below w.heap.size w wr)) (fun _ wr => cntV isI wr w.heap.size)
        case atStart => exact ⟨1, Nat.le_refl _, p1, HO0, HB⟩
        case round =>
          obtain ⟨t, ht1, ht, HO, HB⟩ := hrel
          clear HO0 hs0
          have hsj := HO.out.cell j
          rw [cyL_get (by omega), HAT.out t] at hsj
          by_cases htp : t < p
          · have hat := HLT.out t
            have hne := HNE.out t ht1 htp
            have hso := HO.out.cell (it f t j)
            rw [cyL_get (by omega), HOWN.out t ht1 htp] at hso
            have hfj' := HO.out.free j
            have hset1 := HO.out.set j (.int .i64 ((it f (t + 1) j : Nat) : Int))
            rw [cyL_set] at hset1
            have hfo := hset1.free (it f t j)
            have hset := hset1.set (it f t j) (.int .i64 ((it f t j : Nat) : Int))
            rw [cyL_set, cyL_congr (fun i => (HST.out t ht1 htp i).symm)] at hset
            have hcnt : (tk 12 (fun i => !decide (undN f n j (t + 1) i = i))).length < (tk 12 (fun i => !decide (undN f n j t i = i))).length := by
              refine tk_lt2 (s := it f t j) ?_ ?_ 12 (by omega) ?_
              · rw [HOWN.out t ht1 htp]
                have : ¬ it f (t + 1) j = it f t j := by
                  intro e
                  have e2 := it_back HP.out hlt (Nat.le_succ t) e.symm
                  rw [show t.succ - t = 1 by omega] at e2
                  have e3 := it_mod (p := 1) e2 t
                  rw [Nat.mod_one] at e3
                  exact hne e3
                simp [this]
              · rw [HST.out t ht1 htp, if_pos rfl]; simp
              · intro i _ hi'
                rw [HST.out t ht1 htp] at hi'
                by_cases e : i = it f t j
                · rw [if_pos e] at hi'; simp [e] at hi'
                · rw [if_neg e] at hi'
                  by_cases e2 : i = j
                  · subst e2
                    rw [HAT.out t]
                    simp [hne]
                  · rw [if_neg e2] at hi'; exact hi'
            have HCT := Lib.hid hcnt
            have HO2 := Lib.hid hset
            have HB2 := Lib.hid ((HB.out.setCell (p := ⟨w.heap.size, j, none⟩) (Nat.le_refl _) (.int .i64 ((it f (t + 1) j : Nat) : Int))).setCell (p := ⟨w.heap.size, it f t j, none⟩) (Nat.le_refl _) (.int .i64 ((it f t j : Nat) : Int)))
            obtain ⟨y, hy⟩ : ∃ y, it f t j = y := ⟨_, rfl⟩
            rw [hy] at hsj hso hfo hat hne HO2 HB2
            obtain ⟨z, hz⟩ : ∃ z, it f (t + 1) j = z := ⟨_, rfl⟩
            rw [hz] at hso hfo HO2 HB2
            have hy0 : (0 : Int) ≤ (y : Int) := by omega
            have hy1 : (y : Int) < 12 := by omega
            have hyj : ¬ (y : Int) = (j : Int) := by omega
            clear hset1 hset hcnt hy hz
            go_wp2_with fail
            go_roundw
            case rel => exact ⟨t + 1, by omega, by omega, HO2, HB2⟩
            case measure => rw [cntI HO2.out, cntI HO.out]; exact HCT.out
          · have htp2 : t = p := by omega
            subst htp2
            rw [HPP.out] at hsj
            have hO := HO.out
            rw [cyL_congr (fun i => HDN.out i)] at hO
            have HO3 := Lib.hid hO
            clear hO HO htp
            go_wp2_with fail
            go_roundw
            case rel => exact ⟨j + 1, by omega, by rw [HC2.out]; rfl, by go_num, HO3, HB⟩
            case measure => simp [intOf]; omega
    · have hjn : j = n := by omega
      subst hjn
      have hj1 : ¬ (j : Int) < (j : Int) := by omega
      have hR' := hR.out
      obtain ⟨c, hc⟩ : ∃ c, cycN f j j = c := ⟨_, rfl⟩
      rw [hc] at hR' ⊢
      subst hR'
      clear hR hc
      go_wp2_with fail
      go_ret
      exact ⟨rfl, HB.out⟩

set_option maxRecDepth 4000 in
set_option maxHeartbeats 1600000 in
theorem fullCyclesI_no (n k : Int) (p : Option Addr) (cap : Nat) (xs : List Int) (w : World) (lo hi : Nat) (hin : Ri lo hi w p xs) (hcap : xs.length ≤ cap) (hcm : cap ≤ maxLen) (hlen : xs.length ≤ 1048576) (ha : askB n k xs = false) :
    Calls Try.prog 23 #[.int .i64 n, .int .i64 k, .slice p xs.length cap] w fun e w' => e = .returned (.tuple #[.int .i64 0, .bool false]) ∧ Below w.heap.size w w' := by
  have A := canBe_any n k p cap xs w lo hi hin hcap hcm hlen
  rw [ha] at A
  replace A := Lib.hid A
  obtain ⟨m, hm⟩ : ∃ m, xs.length = m := ⟨_, rfl⟩
  rw [hm] at A ⊢
  clear ha hm hin
  go_enter Try.func23, Try.ntmps23
  go_wp2_with fail
  refine A.out.mono ?_
  rintro e w1 ⟨rfl, hb1⟩
  go_wp2_with fail
  go_ret2
  exact ⟨rfl, hb1⟩

set_option maxRecDepth 4000 in
set_option maxHeartbeats 1600000 in
theorem fullCyclesI_any (n k : Nat) (p : Option Addr) (cap : Nat) (xs : List Int) (w : World) (lo hi : Nat) (hin : Ri lo hi w p xs) (hcap : xs.length ≤ cap) (hcm : cap ≤ maxLen) (ha : askB n k xs = true) :
    Calls Try.prog 23 #[.int .i64 (n : Nat), .int .i64 (k : Nat), .slice p xs.length cap] w fun e w' => e = .returned (.tuple #[.int .i64 ((cycN (setF xs) n n : Nat) : Int), .bool true]) ∧ Below w.heap.size w w' := by
  obtain ⟨a, b', e1, e2, h1, h2, h3, hl, hp⟩ := askB_is ha
  have e1' : n = a := by omega
  have e2' : k = b' := by omega
  subst e1' e2'
  have A := canBe_any (n : Int) (k : Int) p cap xs w lo hi hin hcap hcm (by omega)
  have C := fun (w' : World) (h' : Below w.heap.size w w') => cyclesIn_any n k p cap xs w' lo hi (hin.below h' hin.top) h1 h2 hl hp
  rw [ha] at A
  rw [hl] at A C ⊢
  obtain ⟨R, hR⟩ : ∃ R, cycN (setF xs) n n = R := ⟨_, rfl⟩
  rw [hR] at C ⊢
  replace A := Lib.hid A
  replace C := Lib.hid C
  clear hin ha hp hR e1 e2
  go_enter Try.func23, Try.ntmps23
  go_wp2_with fail
  refine A.out.mono ?_
  rintro e w1 ⟨rfl, hb1⟩
  have HB1 := Lib.hid hb1
  clear hb1 A
  go_wp2_with fail
  refine (C.out _ HB1.out).mono ?_
  rintro e w2 ⟨rfl, hb2⟩
  have HB2 := Lib.hid (HB1.out.trans (hb2.mono HB1.out.size))
  clear hb2 C
  go_wp2_with fail
  go_ret2
  exact ⟨rfl, HB2.out⟩

theorem fullCycles_both (a0 : Int) (a1 : Int) (xs2 : List Int) : ∃ (x0 : Int) (y1 : Bool), (∀ (q2 : Option Addr) (c2 : Nat) (w : World) (lo2 hi2 : Nat), Ri lo2 hi2 w q2 xs2 → xs2.length ≤ 1048576 → xs2.length ≤ c2 → c2 ≤ maxLen → Calls Try.prog 22 #[.int .i64 a0, .int .i64 a1, .slice q2 xs2.length c2] w fun e w' => e = .returned (.tuple #[.int .i64 x0, .bool y1]) ∧ Below w.heap.size w w') ∧ (∀ (q2 : Option Addr) (c2 : Nat) (w : World) (lo2 hi2 : Nat), Ri lo2 hi2 w q2 xs2 → xs2.length ≤ 1048576 → xs2.length ≤ c2 → c2 ≤ maxLen → Calls Try.prog 23 #[.int .i64 a0, .int .i64 a1, .slice q2 xs2.length c2] w fun e w' => e = .returned (.tuple #[.int .i64 x0, .bool y1]) ∧ Below w.heap.size w w') := by
  cases h : askB a0 a1 xs2 with
  | false => exact ⟨0, false, fun q c w lo hi h1 h2 h3 h4 => fullCyclesS_no a0 a1 q c xs2 w lo hi h1 h3 h4 h2 h, fun q c w lo hi h1 h2 h3 h4 => fullCyclesI_no a0 a1 q c xs2 w lo hi h1 h3 h4 h2 h⟩
  | true =>
    obtain ⟨a, b, rfl, rfl, -⟩ := askB_is h
    exact ⟨_, true, fun q c w lo hi g1 _ g3 g4 => fullCyclesS_any a b q c xs2 w lo hi g1 g3 g4 h, fun q c w lo hi g1 _ g3 g4 => fullCyclesI_any a b q c xs2 w lo hi g1 g3 g4 h⟩
end Go.Proofs.Ytmjnjinjpleioaa
