/- Chapter 8: counts by inclusion and exclusion: impl.exactCounts with either closure, spec.l8Some, CoupleCounts and MenageCount on both sides. -/
import Derived.Test.YteabodhkgkffiaaFacB8
import Derived.Test.YteabodhkgkffiaaPtyS8
import Derived.Test.YteabodhkgkffiaaApp
import Derived.StillTailTactics
namespace Go.Proofs.Yteabodhkgkffiaa
open Go.RowKit

/-- the numbers F 0, .., F (N - 1) -/
def imL (N : Nat) (F : Nat → Int) : List Int := (List.range N).map F
theorem im_len (N : Nat) (F : Nat → Int) : (imL N F).length = N := by unfold imL; rw [List.length_map, List.length_range]
theorem im_get {N : Nat} {F : Nat → Int} {i : Nat} (h : i < N) : (iv (imL N F))[i]? = some (.int .i64 (F i)) := by
  rw [iv_get (by rw [im_len]; exact h)]
  unfold imL
  rw [List.getElem?_map, List.getElem?_range h]; rfl
theorem im_ivlen (N : Nat) (F : Nat → Int) : (iv (imL N F)).length = N := by rw [iv_length, im_len]
theorem im_set (N : Nat) (F : Nat → Int) (k : Nat) (x : Int) : (iv (imL N F)).set k (.int .i64 x) = iv (imL N fun j => if j = k then x else F j) := by
  apply List.ext_getElem?
  intro i
  rw [List.getElem?_set]
  by_cases hi : i < N
  · rw [im_get hi, im_get hi, im_ivlen]
    by_cases e : k = i
    · subst e; rw [if_pos rfl, if_pos hi, if_pos rfl]
    · rw [if_neg e, if_neg (fun e2 => e e2.symm)]
  · rw [List.getElem?_eq_none (by rw [im_ivlen]; omega), List.getElem?_eq_none (by rw [im_ivlen]; omega), im_ivlen]
    by_cases e : k = i
    · rw [if_pos e, if_neg (by omega)]
    · rw [if_neg e]
theorem im_congr {N : Nat} {F G : Nat → Int} (h : ∀ j, j < N → F j = G j) : imL N F = imL N G := by
  unfold imL
  apply List.map_congr_left
  intro j hj
  exact h j (List.mem_range.1 hj)
theorem im_zero (N : Nat) : List.replicate N (Value.int .i64 0) = iv (imL N fun _ => 0) := by
  apply List.ext_getElem?
  intro i
  by_cases hi : i < N
  · rw [im_get hi]; simp [hi]
  · rw [List.getElem?_eq_none (by simp; omega), List.getElem?_eq_none (by rw [im_ivlen]; omega)]
theorem im_succ (N : Nat) (F : Nat → Int) : imL (N + 1) F = imL N F ++ [F N] := by
  unfold imL
  rw [List.range_succ]
  simp

/-- small numbers -/
def sm8 (x : Int) : Prop := -1000000000000 ≤ x ∧ x ≤ 1000000000000
theorem exS_small {k : Nat} {W : Nat → Int} (hb : ∀ t, t ≤ k → ∀ m, m ≤ t → sm8 (inn8 W (exS8 k W t) (k - t) m)) : ∀ t, t ≤ k + 1 → ∀ j, sm8 (exS8 k W t j) := by
  intro t
  induction t with
  | zero => intro _ j; exact ⟨by show (-1000000000000 : Int) ≤ 0; omega, by show (0 : Int) ≤ 1000000000000; omega⟩
  | succ t ih =>
    intro ht j
    show sm8 (if j = k - t then inn8 W (exS8 k W t) j t else exS8 k W t j)
    split
    · rename_i h; rw [h]; exact hb t (by omega) t (Nat.le_refl _)
    · exact ih (by omega) j
/-- the row while one of its numbers is made -/
def rowS (k : Nat) (W : Nat → Int) (t m j : Nat) : Int := if j = k - t then inn8 W (exS8 k W t) (k - t) m else exS8 k W t j
theorem rowS_next (k : Nat) (W : Nat → Int) (t m : Nat) : imL (k + 1) (fun j => if j = k - t then inn8 W (exS8 k W t) (k - t) (m + 1) else rowS k W t m j) = imL (k + 1) (rowS k W t (m + 1)) := im_congr fun j _ => by
  unfold rowS
  by_cases h : j = k - t
  · rw [if_pos h, if_pos h]
  · rw [if_neg h, if_neg h, if_neg h]
theorem rowS_start (k : Nat) (W : Nat → Int) (t : Nat) : imL (k + 1) (fun j => if j = k - t then W (k - t) else exS8 k W t j) = imL (k + 1) (rowS k W t 0) := rfl
theorem rowS_end (k : Nat) (W : Nat → Int) (t : Nat) : imL (k + 1) (rowS k W t t) = imL (k + 1) (exS8 k W (t + 1)) := im_congr fun j _ => by
  show (if j = k - t then inn8 W (exS8 k W t) (k - t) t else exS8 k W t j) = (if j = k - t then inn8 W (exS8 k W t) j t else exS8 k W t j)
  by_cases h : j = k - t
  · rw [if_pos h, if_pos h, h]
  · rw [if_neg h, if_neg h]


set_option maxRecDepth 4000 in
set_option maxHeartbeats 4000000 in
theorem exactC_any (k : Nat) (hk : k ≤ 6) (W : Nat → Int) (cv dv : Value) (w : World) (hb : ∀ t, t ≤ k → ∀ m, m ≤ t → sm8 (inn8 W (exS8 k W t) (k - t) m))
    (hG : ∀ s : Nat, s ≤ k → ∀ w', Below w.heap.size w w' → Calls Try.prog 40 #[.int .i64 (s : Int), cv, dv] w' fun e w'' => e = .returned (.int .i64 (W s)) ∧ Below w'.heap.size w' w'') :
    Calls Try.prog 39 #[.int .i64 (k : Int), .func (.func 40) #[] #[cv, dv]] w fun e w' => ∃ g, e = .returned (.slice (some ⟨g, 0, none⟩) (k + 1) (k + 1)) ∧ w.heap.size ≤ g ∧ OwnArr w' g 3 (iv (imL (k + 1) (exS8 k W (k + 1)))) ∧ Below w.heap.size w w' := by
  have HS := Lib.hid (exS_small hb)
  have HI := Lib.hid hb
  replace hG := Lib.hid hG
  have hmk0 := @run_make_row' Try.prog 22 3 (.int .i64 0) 8 Try.underlying22 infoInt rfl .i64 .i64 (k + 1) (by omega) (by omega)
  rw [madeCells_one, im_zero] at hmk0
  have hmk := hmk0 w
  rw [show ((k + 1 : Nat) : Int) = (k : Int) + 1 by omega] at hmk
  obtain ⟨w2, hw2⟩ : ∃ w2, w2 = w.alloc (.cells (iv (imL (k + 1) fun _ => 0)).toArray 3) := ⟨_, rfl⟩
  rw [← hw2] at hmk
  have HO2 : Hid (OwnArr w2 w.heap.size 3 (iv (imL (k + 1) (exS8 k W 0)))) := by
    show OwnArr _ _ _ _
    rw [hw2]; exact OwnArr.made _ _ _
  have HB2 : Hid (Below w.heap.size w w2) := by
    show Below _ _ _
    rw [hw2]; exact (Below.refl _ _).alloc (Nat.le_refl _) _
  have hw1 : IntKind.i64.wrap ((k : Int) + 1) = (k : Int) + 1 := IntWalk.i64_in _ (by omega)
  have HN := Lib.hid (rowS_next k W)
  have HST := Lib.hid (rowS_start k W)
  have HEN := Lib.hid (rowS_end k W)
  obtain ⟨E, hE⟩ : ∃ E : Nat → Nat → Int, E = exS8 k W := ⟨_, rfl⟩
  have HIN : Hid (∀ t m, inn8 W (E t) (k - t) (m + 1) = inn8 W (E t) (k - t) m - (cho8 (k - t + 1 + m) (k - t) : Int) * E t (k - t + 1 + m)) := fun t m => rfl
  have HI0 : Hid (∀ t, inn8 W (E t) (k - t) 0 = W (k - t)) := fun t => rfl
  rw [← hE] at HS HI HO2 HST HEN ⊢
  simp only [← hE] at HN
  obtain ⟨N, hN⟩ : ∃ N : Nat → Nat → Int, N = fun t m => inn8 W (E t) (k - t) m := ⟨_, rfl⟩
  have HNN : Hid (∀ t m, N t m = inn8 W (E t) (k - t) m) := fun t m => by rw [hN]
  simp only [← HNN.out] at HN HI HIN HI0
  obtain ⟨V, hV⟩ : ∃ V, V = rowS k W := ⟨_, rfl⟩
  have HVV : Hid (∀ t m j, V t m j = if j = k - t then N t m else E t j) := fun t m j => by rw [hV, hE, hN]; simp only [hE]; rfl
  simp only [← hV] at HN HST HEN
  obtain ⟨g, hg⟩ : ∃ g, w.heap.size = g := ⟨_, rfl⟩
  rw [hg] at HO2 HB2 hG hmk ⊢
  have HGG := Lib.hid hg
  clear hmk0 hw2 hb hE hN hV hg HNN
  go_enter Try.func39, Try.ntmps39
  go_wp2_with fail
  clear hmk
  go_loopw [6, 7] (fun i _ wr => ∃ t : Nat, t ≤ k + 1 ∧ i = .int .i64 ((k : Int) - (t : Int)) ∧ Hid (OwnArr wr g 3 (iv (imL (k + 1) (E t)))) ∧ Hid (Below g w wr)) (fun i _ _ => (intOf i + 1).toNat)
  case atStart => exact ⟨0, Nat.zero_le _, by simp, HO2, HB2⟩
  case round =>
    obtain ⟨t, ht, rfl, HO, HB⟩ := hrel
    clear HO2 HB2
    by_cases hlt : t ≤ k
    · obtain ⟨s, hs⟩ : ∃ s, k - t = s := ⟨_, rfl⟩
      have hks : (k : Int) - (t : Int) = (s : Int) := by omega
      have hst : s + t = k := by omega
      have h0s : (0 : Int) ≤ (s : Int) := by omega
      have hsk1 : (s : Int) < (k : Int) + 1 := by omega
      have hws : IntKind.i64.wrap ((s : Int) + 1) = (s : Int) + 1 := IntWalk.i64_in _ (by omega)
      have G := hG.out s (by omega) wr HB.out
      have T0 := HST.out t
      have TE := HEN.out t
      rw [hs] at T0
      have HS1 := Lib.hid (fun w' (h : OwnArr w' g 3 (iv (imL (k + 1) (E t)))) => by
        have h2 := h.set s (.int .i64 (W s))
        rw [im_set, T0] at h2
        exact h2)
      have HCC := Lib.hid (fun w' (h : OwnArr w' g 3 (iv (imL (k + 1) (E t)))) => And.intro ((h.cell s).trans (im_get (by omega))) (h.free s))
      have TE2 := Lib.hid TE
      replace G := Lib.hid G
      rw [hks]
      clear T0 TE
      go_wp2_with fail
      refine G.out.mono ?_
      rintro e w3 ⟨rfl, hb3⟩
      have HO3 := Lib.hid (HO.out.below hb3 HO.out.lt)
      have hsz : g ≤ wr.heap.size := by rw [← HGG.out]; exact HB.out.size
      have HB3 := Lib.hid (HB.out.trans (hb3.mono hsz))
      obtain ⟨cc, ff⟩ := HCC.out _ HO3.out
      have HO4 := Lib.hid (HS1.out _ HO3.out)
      have HB4 := Lib.hid (HB3.out.setCell (p := ⟨g, s, none⟩) (Nat.le_refl _) (.int .i64 (W s)))
      clear hb3 HO HB HS1 HCC HO3 HB3 G
      go_wp2_with fail
      clear cc ff
      go_loopw [7] (fun i wr => ∃ m : Nat, m ≤ t ∧ i = .int .i64 ((s : Int) + 1 + (m : Int)) ∧ Hid (OwnArr wr g 3 (iv (imL (k + 1) (V t m)))) ∧ Hid (Below g w wr)) (fun i _ => k + 1 - (intOf i).toNat)
      case atStart => exact ⟨0, Nat.zero_le _, by simp, HO4, HB4⟩
      case round =>
        obtain ⟨m, hm, rfl, HO, HB⟩ := hrel
        clear HO4 HB4
        by_cases hmt : m < t
        · obtain ⟨q, hq⟩ : ∃ q, s + 1 + m = q := ⟨_, rfl⟩
          have hqi : (s : Int) + 1 + (m : Int) = (q : Int) := by omega
          have hqk : q ≤ k := by omega
          have hqki : (q : Int) ≤ (k : Int) := by omega
          have hqs : ¬ q = s := by omega
          have hsk1 : (s : Int) < (k : Int) + 1 := by omega
          have hqk1 : (q : Int) < (k : Int) + 1 := by omega
          have c1 := (HO.out.cell s).trans (im_get (by omega))
          have c2 := (HO.out.cell q).trans (im_get (by omega))
          have f1 := HO.out.free s
          rw [HVV.out, hs, if_pos rfl] at c1
          rw [HVV.out, hs, if_neg hqs] at c2
          have e1 := HIN.out t m
          rw [hs, hq] at e1
          have b1 := HI.out t (by omega) m hm
          have b2 := HI.out t (by omega) (m + 1) (by omega)
          have b3 := HS.out t (by omega) q
          have b4 := cho_le q (by omega) s (by omega)
          have CH := fun w' => choose_any8 q s (by omega) (by omega) w'
          have HX := HO.out.set s (.int .i64 (N t (m + 1)))
          have hn := HN.out t m
          rw [hs] at hn
          rw [im_set, hn] at HX
          obtain ⟨x, hx⟩ : ∃ x, N t m = x := ⟨_, rfl⟩
          obtain ⟨x2, hx2⟩ : ∃ x, N t (m + 1) = x := ⟨_, rfl⟩
          obtain ⟨y, hy⟩ : ∃ y, E t q = y := ⟨_, rfl⟩
          obtain ⟨c, hc⟩ : ∃ c, cho8 q s = c := ⟨_, rfl⟩
          rw [hx] at c1 e1 b1
          rw [hx2] at e1 b2 HX
          rw [hy] at c2 e1 b3
          rw [hc] at e1 b4 CH
          obtain ⟨b1l, b1u⟩ := b1
          obtain ⟨b2l, b2u⟩ := b2
          obtain ⟨b3l, b3u⟩ := b3
          have hcy : (c : Int) * y = x - x2 := by omega
          have hwc : IntKind.i64.wrap (x - x2) = x - x2 := IntWalk.i64_in _ (by omega)
          have hwx : IntKind.i64.wrap x2 = x2 := IntWalk.i64_in _ (by omega)
          have hsub : x - (x - x2) = x2 := by omega
          have hwq : IntKind.i64.wrap ((q : Int) + 1) = (q : Int) + 1 := IntWalk.i64_in _ (by omega)
          have CH2 : ∀ w' : World, Calls Try.prog 51 #[.int .i64 (q : Nat), .int .i64 (s : Nat)] w' fun e w'' => e = .returned (.int .i64 ((c : Nat) : Int)) ∧ w'' = w' := fun w' => (CH w').mono (by rintro e w2 ⟨h1, h2⟩; exact ⟨h1, h2.symm⟩)
          have HOX : Hid (OwnArr (wr.drew.setCell ⟨g, s, none⟩ (.int .i64 x2)) g 3 (iv (imL (k + 1) (V t (m + 1))))) := HX
          have HBX : Hid (Below g w (wr.drew.setCell ⟨g, s, none⟩ (.int .i64 x2))) := (HB.out.drew).setCell (Nat.le_refl _) _
          have f1d : wr.drew.frozen? ⟨g, s, none⟩ = false := f1
          have c1d : wr.drew.cell? ⟨g, s, none⟩ = some (.int .i64 x) := c1
          replace CH2 := Lib.hid CH2
          rw [hqi]
          clear hx hx2 hy hc e1 b4 CH HX hn HO HB hs hst hks
          go_wp2_with fail
          go_still_tail 14, (by kernel_rfl)
          still_call (CH2.out _)
          repeat still_step
          refine wpStill_nil ?_
          change wpList _ _ _ _ _ wr.drew
          go_wp2_with fail
          go_roundw
          case rel => exact ⟨m + 1, by omega, by rw [← hqi]; go_num, HOX, HBX⟩
          case measure => simp [intOf]; omega
        · have hmt2 : m = t := by omega
          subst hmt2
          have hnk : ¬ (s : Int) + 1 + (m : Int) ≤ (k : Int) := by omega
          rw [TE2.out] at HO
          go_wp2_with fail
          go_roundw
          case rel => exact ⟨m + 1, by omega, by go_num, HO, HB⟩
          case measure => simp [intOf] <;> omega
    · have htk : t = k + 1 := by omega
      subst htk
      have hng : ¬ (0 : Int) ≤ (k : Int) - ((k + 1 : Nat) : Int) := by omega
      go_wp2_with fail
      go_ret
      exact ⟨_, rfl, Nat.le_refl _, HO.out, HB.out⟩


set_option maxRecDepth 4000 in
set_option maxHeartbeats 4000000 in
theorem exactM_any (k : Nat) (hk : k ≤ 6) (W : Nat → Int) (cv : Value) (w : World) (hb : ∀ t, t ≤ k → ∀ m, m ≤ t → sm8 (inn8 W (exS8 k W t) (k - t) m))
    (hG : ∀ s : Nat, s ≤ k → ∀ w', Below w.heap.size w w' → Calls Try.prog 45 #[.int .i64 (s : Int), cv] w' fun e w'' => e = .returned (.int .i64 (W s)) ∧ Below w'.heap.size w' w'') :
    Calls Try.prog 39 #[.int .i64 (k : Int), .func (.func 45) #[] #[cv]] w fun e w' => ∃ g, e = .returned (.slice (some ⟨g, 0, none⟩) (k + 1) (k + 1)) ∧ w.heap.size ≤ g ∧ OwnArr w' g 3 (iv (imL (k + 1) (exS8 k W (k + 1)))) ∧ Below w.heap.size w w' := by
  have HS := Lib.hid (exS_small hb)
  have HI := Lib.hid hb
  replace hG := Lib.hid hG
  have hmk0 := @run_make_row' Try.prog 22 3 (.int .i64 0) 8 Try.underlying22 infoInt rfl .i64 .i64 (k + 1) (by omega) (by omega)
  rw [madeCells_one, im_zero] at hmk0
  have hmk := hmk0 w
  rw [show ((k + 1 : Nat) : Int) = (k : Int) + 1 by omega] at hmk
  obtain ⟨w2, hw2⟩ : ∃ w2, w2 = w.alloc (.cells (iv (imL (k + 1) fun _ => 0)).toArray 3) := ⟨_, rfl⟩
  rw [← hw2] at hmk
  have HO2 : Hid (OwnArr w2 w.heap.size 3 (iv (imL (k + 1) (exS8 k W 0)))) := by
    show OwnArr _ _ _ _
    rw [hw2]; exact OwnArr.made _ _ _
  have HB2 : Hid (Below w.heap.size w w2) := by
    show Below _ _ _
    rw [hw2]; exact (Below.refl _ _).alloc (Nat.le_refl _) _
  have hw1 : IntKind.i64.wrap ((k : Int) + 1) = (k : Int) + 1 := IntWalk.i64_in _ (by omega)
  have HN := Lib.hid (rowS_next k W)
  have HST := Lib.hid (rowS_start k W)
  have HEN := Lib.hid (rowS_end k W)
  obtain ⟨E, hE⟩ : ∃ E : Nat → Nat → Int, E = exS8 k W := ⟨_, rfl⟩
  have HIN : Hid (∀ t m, inn8 W (E t) (k - t) (m + 1) = inn8 W (E t) (k - t) m - (cho8 (k - t + 1 + m) (k - t) : Int) * E t (k - t + 1 + m)) := fun t m => rfl
  have HI0 : Hid (∀ t, inn8 W (E t) (k - t) 0 = W (k - t)) := fun t => rfl
  rw [← hE] at HS HI HO2 HST HEN ⊢
  simp only [← hE] at HN
  obtain ⟨N, hN⟩ : ∃ N : Nat → Nat → Int, N = fun t m => inn8 W (E t) (k - t) m := ⟨_, rfl⟩
  have HNN : Hid (∀ t m, N t m = inn8 W (E t) (k - t) m) := fun t m => by rw [hN]
  simp only [← HNN.out] at HN HI HIN HI0
  obtain ⟨V, hV⟩ : ∃ V, V = rowS k W := ⟨_, rfl⟩
  have HVV : Hid (∀ t m j, V t m j = if j = k - t then N t m else E t j) := fun t m j => by rw [hV, hE, hN]; simp only [hE]; rfl
  simp only [← hV] at HN HST HEN
  obtain ⟨g, hg⟩ : ∃ g, w.heap.size = g := ⟨_, rfl⟩
  rw [hg] at HO2 HB2 hG hmk ⊢
  have HGG := Lib.hid hg
  clear hmk0 hw2 hb hE hN hV hg HNN
  go_enter Try.func39, Try.ntmps39
  go_wp2_with fail
  clear hmk
  go_loopw [6, 7] (fun i _ wr => ∃ t : Nat, t ≤ k + 1 ∧ i = .int .i64 ((k : Int) - (t : Int)) ∧ Hid (OwnArr wr g 3 (iv (imL (k + 1) (E t)))) ∧ Hid (Below g w wr)) (fun i _ _ => (intOf i + 1).toNat)
  case atStart => exact ⟨0, Nat.zero_le _, by simp, HO2, HB2⟩
  case round =>
    obtain ⟨t, ht, rfl, HO, HB⟩ := hrel
    clear HO2 HB2
    by_cases hlt : t ≤ k
    · obtain ⟨s, hs⟩ : ∃ s, k - t = s := ⟨_, rfl⟩
      have hks : (k : Int) - (t : Int) = (s : Int) := by omega
      have hst : s + t = k := by omega
      have h0s : (0 : Int) ≤ (s : Int) := by omega
      have hsk1 : (s : Int) < (k : Int) + 1 := by omega
      have hws : IntKind.i64.wrap ((s : Int) + 1) = (s : Int) + 1 := IntWalk.i64_in _ (by omega)
      have G := hG.out s (by omega) wr HB.out
      have T0 := HST.out t
      have TE := HEN.out t
      rw [hs] at T0
      have HS1 := Lib.hid (fun w' (h : OwnArr w' g 3 (iv (imL (k + 1) (E t)))) => by
        have h2 := h.set s (.int .i64 (W s))
        rw [im_set, T0] at h2
        exact h2)
      have HCC := Lib.hid (fun w' (h : OwnArr w' g 3 (iv (imL (k + 1) (E t)))) => And.intro ((h.cell s).trans (im_get (by omega))) (h.free s))
      have TE2 := Lib.hid TE
      replace G := Lib.hid G
      rw [hks]
      clear T0 TE
      go_wp2_with fail
      refine G.out.mono ?_
      rintro e w3 ⟨rfl, hb3⟩
      have HO3 := Lib.hid (HO.out.below hb3 HO.out.lt)
      have hsz : g ≤ wr.heap.size := by rw [← HGG.out]; exact HB.out.size
      have HB3 := Lib.hid (HB.out.trans (hb3.mono hsz))
      obtain ⟨cc, ff⟩ := HCC.out _ HO3.out
      have HO4 := Lib.hid (HS1.out _ HO3.out)
      have HB4 := Lib.hid (HB3.out.setCell (p := ⟨g, s, none⟩) (Nat.le_refl _) (.int .i64 (W s)))
      clear hb3 HO HB HS1 HCC HO3 HB3 G
      go_wp2_with fail
      clear cc ff
      go_loopw [7] (fun i wr => ∃ m : Nat, m ≤ t ∧ i = .int .i64 ((s : Int) + 1 + (m : Int)) ∧ Hid (OwnArr wr g 3 (iv (imL (k + 1) (V t m)))) ∧ Hid (Below g w wr)) (fun i _ => k + 1 - (intOf i).toNat)
      case atStart => exact ⟨0, Nat.zero_le _, by simp, HO4, HB4⟩
      case round =>
        obtain ⟨m, hm, rfl, HO, HB⟩ := hrel
        clear HO4 HB4
        by_cases hmt : m < t
        · obtain ⟨q, hq⟩ : ∃ q, s + 1 + m = q := ⟨_, rfl⟩
          have hqi : (s : Int) + 1 + (m : Int) = (q : Int) := by omega
          have hqk : q ≤ k := by omega
          have hqki : (q : Int) ≤ (k : Int) := by omega
          have hqs : ¬ q = s := by omega
          have hsk1 : (s : Int) < (k : Int) + 1 := by omega
          have hqk1 : (q : Int) < (k : Int) + 1 := by omega
          have c1 := (HO.out.cell s).trans (im_get (by omega))
          have c2 := (HO.out.cell q).trans (im_get (by omega))
          have f1 := HO.out.free s
          rw [HVV.out, hs, if_pos rfl] at c1
          rw [HVV.out, hs, if_neg hqs] at c2
          have e1 := HIN.out t m
          rw [hs, hq] at e1
          have b1 := HI.out t (by omega) m hm
          have b2 := HI.out t (by omega) (m + 1) (by omega)
          have b3 := HS.out t (by omega) q
          have b4 := cho_le q (by omega) s (by omega)
          have CH := fun w' => choose_any8 q s (by omega) (by omega) w'
          have HX := HO.out.set s (.int .i64 (N t (m + 1)))
          have hn := HN.out t m
          rw [hs] at hn
          rw [im_set, hn] at HX
          obtain ⟨x, hx⟩ : ∃ x, N t m = x := ⟨_, rfl⟩
          obtain ⟨x2, hx2⟩ : ∃ x, N t (m + 1) = x := ⟨_, rfl⟩
          obtain ⟨y, hy⟩ : ∃ y, E t q = y := ⟨_, rfl⟩
          obtain ⟨c, hc⟩ : ∃ c, cho8 q s = c := ⟨_, rfl⟩
          rw [hx] at c1 e1 b1
          rw [hx2] at e1 b2 HX
          rw [hy] at c2 e1 b3
          rw [hc] at e1 b4 CH
          obtain ⟨b1l, b1u⟩ := b1
          obtain ⟨b2l, b2u⟩ := b2
          obtain ⟨b3l, b3u⟩ := b3
          have hcy : (c : Int) * y = x - x2 := by omega
          have hwc : IntKind.i64.wrap (x - x2) = x - x2 := IntWalk.i64_in _ (by omega)
          have hwx : IntKind.i64.wrap x2 = x2 := IntWalk.i64_in _ (by omega)
          have hsub : x - (x - x2) = x2 := by omega
          have hwq : IntKind.i64.wrap ((q : Int) + 1) = (q : Int) + 1 := IntWalk.i64_in _ (by omega)
          have CH2 : ∀ w' : World, Calls Try.prog 51 #[.int .i64 (q : Nat), .int .i64 (s : Nat)] w' fun e w'' => e = .returned (.int .i64 ((c : Nat) : Int)) ∧ w'' = w' := fun w' => (CH w').mono (by rintro e w2 ⟨h1, h2⟩; exact ⟨h1, h2.symm⟩)
          have HOX : Hid (OwnArr (wr.drew.setCell ⟨g, s, none⟩ (.int .i64 x2)) g 3 (iv (imL (k + 1) (V t (m + 1))))) := HX
          have HBX : Hid (Below g w (wr.drew.setCell ⟨g, s, none⟩ (.int .i64 x2))) := (HB.out.drew).setCell (Nat.le_refl _) _
          have f1d : wr.drew.frozen? ⟨g, s, none⟩ = false := f1
          have c1d : wr.drew.cell? ⟨g, s, none⟩ = some (.int .i64 x) := c1
          replace CH2 := Lib.hid CH2
          rw [hqi]
          clear hx hx2 hy hc e1 b4 CH HX hn HO HB hs hst hks
          go_wp2_with fail
          go_still_tail 14, (by kernel_rfl)
          still_call (CH2.out _)
          repeat still_step
          refine wpStill_nil ?_
          change wpList _ _ _ _ _ wr.drew
          go_wp2_with fail
          go_roundw
          case rel => exact ⟨m + 1, by omega, by rw [← hqi]; go_num, HOX, HBX⟩
          case measure => simp [intOf]; omega
        · have hmt2 : m = t := by omega
          subst hmt2
          have hnk : ¬ (s : Int) + 1 + (m : Int) ≤ (k : Int) := by omega
          rw [TE2.out] at HO
          go_wp2_with fail
          go_roundw
          case rel => exact ⟨m + 1, by omega, by go_num, HO, HB⟩
          case measure => simp [intOf] <;> omega
    · have htk : t = k + 1 := by omega
      subst htk
      have hng : ¬ (0 : Int) ≤ (k : Int) - ((k + 1 : Nat) : Int) := by omega
      go_wp2_with fail
      go_ret
      exact ⟨_, rfl, Nat.le_refl _, HO.out, HB.out⟩

end Go.Proofs.Yteabodhkgkffiaa
