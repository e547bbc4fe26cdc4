/- Chapter 8: FirstApart on both sides. -/
import Derived.Test.YteabodhkgkffiaaFstS8
namespace Go.Proofs.Yteabodhkgkffiaa
open Go.RowKit

theorem Out.nil8 (B : Nat) (w : World) : Out B w (.slice none 0 0) [] := World.ownsRow_nil w B 3 1
/-- the frame of a call that writes behind a slice alone -/
theorem grown_alloc {w w' : World} {row : Option Nat} (h : w.grownBy w' row) (o : Obj) : w.grownBy (w'.alloc o) row :=
  World.grownBy.trans h (grown_of_below ((Below.refl _ w').alloc (Nat.le_refl _) o) row)

set_option maxRecDepth 4000 in
set_option maxHeartbeats 4000000 in
theorem firstFrom_any (k : Nat) (ring : Bool) (hk1 : 1 ≤ k) (hk6 : k ≤ 6) (hkr : ring = true → 2 ≤ k) : ∀ (f : Nat) (l : List Nat) (B : Nat) (v : Value) (w : World), l.length + f = 2 * k → (∀ x ∈ l, x < 2 * k) → l.Nodup → Out B w v (ints l) → B ≤ w.heap.size →
    Calls Try.prog 36 #[.int .i64 (k : Int), .bool ring, v] w fun e w' => ∃ v', e = .returned (.tuple #[v', .bool (ok8 (2 * k) ring f l)]) ∧ Out B w' v' (ints (res8 (2 * k) ring f l)) ∧ Out B w' v (ints l) ∧ w.grownBy w' v.ownBlock := by
  intro f
  induction f with
  | zero =>
    intro l B v w hlf hlt hnd hO hB
    obtain ⟨p, cap, rfl, -, -, hR, -⟩ := Out.rd hO
    have hpar : parB (k : Int) ring (ints l) = true := by
      unfold parB
      rw [show 2 * (k : Int) = ((2 * k : Nat) : Int) by omega, orderB_nodup hnd hlt (by omega), Bool.and_true]
      unfold couB
      cases ring with
      | false => simp; omega
      | true => have := hkr rfl; simp; omega
    have T := couplesTogetherI_any (k : Int) ring p cap (ints l) w B w.heap.size hR (by rw [ints_length]; omega)
    have hv : togV (k : Int) ring (ints l) = ((tog8 ring l : Nat) : Int) := by unfold togV; rw [if_pos hpar, ints_nat]
    rw [hpar, hv] at T
    rw [res8_zero, ok8_zero]
    have hll : ((ints l).length : Int) = 2 * (k : Int) := by rw [ints_length]; omega
    obtain ⟨m, hm⟩ : ∃ m, (ints l).length = m := ⟨_, rfl⟩
    obtain ⟨R, hR2⟩ : ∃ R, tog8 ring l = R := ⟨_, rfl⟩
    rw [hR2] at T ⊢
    rw [hm] at T hO hll ⊢
    have hwk : IntKind.i64.wrap (2 * (k : Int)) = 2 * (k : Int) := IntWalk.i64_in _ (by omega)
    have HD : Hid (((R : Int) == 0) = decide (R = 0)) := by
      show _ = _
      by_cases h : R = 0
      · subst h; rfl
      · rw [decide_eq_false h]; simp; omega
    have HO := Lib.hid hO
    replace T := Lib.hid T
    clear hO hR hlt hm hR2 hpar hv hnd
    go_enter Try.func36, Try.ntmps36
    go_wp2_with fail
    refine T.out.mono ?_
    rintro e w1 ⟨rfl, hb⟩
    have HO2 := Lib.hid (Out.kept8 HO.out (grown_of_below hb none) (.inr rfl))
    have HB2 := Lib.hid hb
    clear hb
    go_wp2_with fail
    go_ret2
    exact ⟨_, by rw [← HD.out]; rfl, HO2.out, HO2.out, grown_of_below HB2.out _⟩
  | succ f ih =>
    intro l B v w hlf hlt hnd hO hB
    obtain ⟨p, cap, rfl, -, -, hR0, -⟩ := Out.rd hO
    have HAS := Lib.hid (fun (x : Nat) (w' : World) (h : Out B w' (.slice p (ints l).length cap) (ints l)) => by
      have := contains_any p cap (ints l) (x : Int) w' _ _ h.riP.2 (by rw [ints_length]; omega)
      rw [mem_ints8] at this
      exact this)
    have IH := Lib.hid (fun (x : Nat) (hx : x < 2 * k) (hxl : x ∉ l) v' w' B' (h : Out B' w' v' (ints l ++ [(x : Int)])) (h2 : B' ≤ w'.heap.size) => ih (l ++ [x]) B' v' w' (by rw [List.length_append]; simp; omega) (by intro y hy; rw [List.mem_append] at hy; rcases hy with hy | hy; exact hlt y hy; simp at hy; omega) (nodup_snoc8 hnd hxl) (by rw [ints_snoc8]; exact h) h2)
    have HSN := Lib.hid (fun x => ints_snoc8 l x)
    have HLC := Lib.hid (fun (w' : World) (h : Out B w' (.slice p (ints l).length cap) (ints l)) (h0 : 0 < l.length) => by
      obtain ⟨b, off, e, -, -, -, hc⟩ := h.riP.2.int (by rw [ints_length]; exact h0)
      have := hc (l.length - 1) (by rw [ints_length]; omega)
      rw [ints_get (by omega)] at this
      exact (⟨b, off, e, this⟩ : ∃ b off, p = some ⟨b, off, none⟩ ∧ w'.cell? ⟨b, off + (l.length - 1), none⟩ = some (.int .i64 ((l[l.length - 1]?.getD 0 : Nat) : Int))))
    have HLL := Lib.hid (fun (h0 : 0 < l.length) => hlt _ (nat_mem (show l.length - 1 < l.length by omega)))
    have HSK : Hid (∀ x, skip8 l x = (decide (x ∈ l) || (decide (0 < l.length) && decide (l[l.length - 1]?.getD 0 / 2 = x / 2)))) := fun x => rfl
    have HIT := Lib.hid (fun k' (hk : k' < 2 * k) h hs hn => none8_hit (ring := ring) (f := f) (l := l) (k := k') hk h hs hn)
    have HSP := Lib.hid (fun k' h hs => none8_skip (n := 2 * k) (ring := ring) (f := f) (l := l) (k := k') h hs)
    have HFL := Lib.hid (fun k' h hs hn => none8_fail (n := 2 * k) (ring := ring) (f := f) (l := l) (k := k') h hs hn)
    have HAL := Lib.hid (fun h => none8_all (n := 2 * k) (ring := ring) (f := f) (l := l) h)
    have H0 := Lib.hid (none8_zero (2 * k) ring f l)
    obtain ⟨R, hR⟩ : ∃ R, res8 (2 * k) ring (f + 1) l = R := ⟨_, rfl⟩
    obtain ⟨D, hD⟩ : ∃ D, ok8 (2 * k) ring (f + 1) l = D := ⟨_, rfl⟩
    simp only [hR, hD] at HIT HAL
    rw [hR, hD]
    have hll : l.length < 2 * k := by omega
    have hlne : ¬ ((ints l).length : Int) = 2 * (k : Int) := by rw [ints_length]; omega
    obtain ⟨m, hm⟩ : ∃ m, l.length = m := ⟨_, rfl⟩
    have hmi : (ints l).length = m := by rw [ints_length, hm]
    rw [hm] at HLC HLL HSK hll
    rw [hmi] at HAS hO hlne HLC ⊢
    have hwk : IntKind.i64.wrap (2 * (k : Int)) = 2 * (k : Int) := IntWalk.i64_in _ (by omega)
    have hmk : ((m : Int) == 2 * (k : Int)) = false := by simp; omega
    obtain ⟨V, hV⟩ : ∃ V, Value.ownBlock (.slice p m cap) = V := ⟨_, rfl⟩
    rw [hV]
    have HO0 := Lib.hid hO
    have HG0 : Hid (w.grownBy w V) := ⟨rfl, rfl, rfl, Nat.le_refl _, fun _ _ _ => rfl⟩
    have HMI := Lib.hid hmi
    have HV := Lib.hid hV
    clear hO hR0 hlt hm hR hD ih hlf hmi hnd hV
    go_enter Try.func36, Try.ntmps36
    go_wp2_with fail
    go_loopw [30] (fun i wr => ∃ x : Nat, x ≤ 2 * k ∧ i = .int .i64 (x : Int) ∧ Hid (none8 (2 * k) ring f l x) ∧ Hid (Out B wr (.slice p m cap) (ints l)) ∧ Hid (w.grownBy wr V)) (fun i _ => 2 * k - (intOf i).toNat)
    case atStart => exact ⟨0, Nat.zero_le _, rfl, H0, HO0, HG0⟩
    case round =>
      obtain ⟨x, hx, rfl, HN, HOr, HG⟩ := hrel
      clear H0 HO0 HG0
      have hsz := HG.out.size
      by_cases hlt : x < 2 * k
      · have hk1 : (x : Int) < 2 * (k : Int) := by omega
        have HS1 := HAS.out x wr HOr.out
        have sk := HSK.out x
        have hwx : IntKind.i64.wrap ((x : Int) + 1) = (x : Int) + 1 := IntWalk.i64_in _ (by omega)
        by_cases hmem : x ∈ l
        · rw [decide_eq_true hmem] at HS1 sk
          have HN2 := Lib.hid (HSP.out x HN.out (by rw [sk]; rfl))
          replace HS1 := Lib.hid HS1
          clear sk hmem
          go_wp2_with fail
          refine HS1.out.mono ?_
          rintro e w1 ⟨rfl, rfl⟩
          go_wp2_with fail
          go_roundw
          case rel => exact ⟨x + 1, by omega, by go_num, HN2, HOr, HG⟩
          case measure => simp [intOf]; omega
        · have HNM := Lib.hid hmem
          rw [decide_eq_false hmem] at HS1 sk
          replace HS1 := Lib.hid HS1
          obtain ⟨K, hK⟩ : ∃ K : Bool, (decide (0 < m) && decide (l[m - 1]?.getD 0 / 2 = x / 2)) = K := ⟨_, rfl⟩
          rw [hK] at sk
          cases K with
          | true =>
            simp only [Bool.and_eq_true, decide_eq_true_eq] at hK
            obtain ⟨hm0, hq⟩ := hK
            have HN2 := Lib.hid (HSP.out x HN.out (by rw [sk]; rfl))
            obtain ⟨b, off, rfl, cl⟩ := HLC.out wr HOr.out hm0
            have hlast := HLL.out hm0
            obtain ⟨y, hy⟩ : ∃ y, l[m - 1]?.getD 0 = y := ⟨_, rfl⟩
            rw [hy] at cl hq hlast
            have IC := fun w' => isCouple_any y x (by omega) (by omega) w'
            rw [decide_eq_true hq] at IC
            replace IC := Lib.hid IC
            obtain ⟨t, htm⟩ : ∃ t, m - 1 = t := ⟨_, rfl⟩
            rw [htm] at cl
            have ht0 : (0 : Int) < (m : Int) := by omega
            have ht1 : (m : Int) - 1 = (t : Int) := by omega
            have hwt : IntKind.i64.wrap (t : Int) = (t : Int) := IntWalk.i64_in _ (by omega)
            have htt : (t : Int) < (m : Int) := by omega
            clear sk hmem hy hq htm
            go_wp2_with fail
            refine HS1.out.mono ?_
            rintro e w1 ⟨rfl, rfl⟩
            go_wp2_with fail
            refine (IC.out _).mono ?_
            rintro e w1 ⟨rfl, rfl⟩
            go_wp2_with fail
            go_roundw
            case rel => exact ⟨x + 1, by omega, by go_num, HN2, HOr, HG⟩
            case measure => simp [intOf]; omega
          | false =>
            have hskip : skip8 l x = false := by rw [sk]; rfl
            have IX := Lib.hid (IH.out x hlt hmem)
            have HF1 := Lib.hid (HFL.out x HN.out hskip)
            have HH1 := Lib.hid (HIT.out x hlt HN.out hskip)
            obtain ⟨K2, hK2⟩ : ∃ K2, ok8 (2 * k) ring f (l ++ [x]) = K2 := ⟨_, rfl⟩
            obtain ⟨R2, hR2⟩ : ∃ R2, res8 (2 * k) ring f (l ++ [x]) = R2 := ⟨_, rfl⟩
            rw [hK2] at IX HF1 HH1
            rw [hR2] at IX HH1
            rw [HSN.out] at IX
            clear sk hmem hskip hK2 hR2 HFL HIT HSP
            have hBr : B ≤ wr.heap.size := Nat.le_trans hB hsz
            by_cases hm0 : 0 < m
            · obtain ⟨b, off, rfl, cl⟩ := HLC.out wr HOr.out hm0
              have hq : ¬ l[m - 1]?.getD 0 / 2 = x / 2 := by simpa [hm0] using hK
              have hlast := HLL.out hm0
              obtain ⟨y, hy⟩ : ∃ y, l[m - 1]?.getD 0 = y := ⟨_, rfl⟩
              rw [hy] at cl hq hlast
              have IC := fun w' => isCouple_any y x (by omega) (by omega) w'
              rw [decide_eq_false hq] at IC
              replace IC := Lib.hid IC
              obtain ⟨t, htm⟩ : ∃ t, m - 1 = t := ⟨_, rfl⟩
              rw [htm] at cl
              have ht0 : (0 : Int) < (m : Int) := by omega
              have ht1 : (m : Int) - 1 = (t : Int) := by omega
              have hwt : IntKind.i64.wrap (t : Int) = (t : Int) := IntWalk.i64_in _ (by omega)
              have htt : (t : Int) < (m : Int) := by omega
              clear hy hq hK htm
              go_wp2_with fail
              refine HS1.out.mono ?_
              rintro e w1 ⟨rfl, rfl⟩
              go_wp2_with fail
              refine (IC.out _).mono ?_
              rintro e w1 ⟨rfl, rfl⟩
              have hOl := HOr.out
              go_wp2_with (at_builtin; refine wpList_app8 rfl _ _ rfl B _ (ints l) rfl (World.ownsRow.alloc HOr.out (.cells #[.int .i64 (x : Int)] 3)) _ 1 1 0 (wr.heap.size + 1) (x : Int) rfl (lit_one (OwnArr.made wr _ [_]) _ (Nat.lt_succ_self _) (by simp)) rfl (by rw [HMI.out]; omega) (by simp; omega) ?_; intro v3 w3 hO3 hN3)
              have hs3 : B ≤ w3.heap.size := by
                rcases hN3 with ⟨_, _, -, -, hg⟩ | ⟨-, hg⟩
                · have := hg.size; simp at this; omega
                · have := hg.size; simp at this; omega
              have HN3 := Lib.hid hN3
              have HOL := Lib.hid (World.ownsRow.alloc hOl (.cells #[.int .i64 (x : Int)] 3))
              have HGL := Lib.hid (grown_alloc HG.out (.cells #[.int .i64 (x : Int)] 3))
              clear hN3 hOl
              refine (IX.out v3 w3 B hO3 hs3).mono ?_
              rintro e w4 ⟨v4, rfl, hO4, hO5, hg4⟩
              have hNs := Near8.stays (x := (x : Int)) HN3.out HOL.out hO5 hg4
              have HO4 := Lib.hid hO4
              have HO6 := Lib.hid hNs.1
              have HG6 := Lib.hid (World.grownBy.trans HGL.out (by rw [← HV.out]; exact hNs.2))
              clear hO3 hO4 hO5 hg4 hNs HN3 HOL HGL IX
              cases K2 with
              | true =>
                obtain ⟨rfl, rfl⟩ := HH1.out rfl
                clear HH1 HF1
                go_wp2_with fail
                go_ret2
                exact ⟨_, rfl, HO4.out, HO6.out, HG6.out⟩
              | false =>
                have HN4 := Lib.hid (HF1.out rfl)
                clear HH1 HF1
                go_wp2_with fail
                go_roundw
                case rel => exact ⟨x + 1, by omega, by go_num, HN4, HO6, HG6⟩
                case measure => simp [intOf]; omega
            · have hm00 : ¬ (0 : Int) < (m : Int) := by omega
              clear hK
              go_wp2_with fail
              refine HS1.out.mono ?_
              rintro e w1 ⟨rfl, rfl⟩
              have hOl := HOr.out
              go_wp2_with (at_builtin; refine wpList_app8 rfl _ _ rfl B _ (ints l) rfl (World.ownsRow.alloc HOr.out (.cells #[.int .i64 (x : Int)] 3)) _ 1 1 0 (wr.heap.size + 1) (x : Int) rfl (lit_one (OwnArr.made wr _ [_]) _ (Nat.lt_succ_self _) (by simp)) rfl (by rw [HMI.out]; omega) (by simp; omega) ?_; intro v3 w3 hO3 hN3)
              have hs3 : B ≤ w3.heap.size := by
                rcases hN3 with ⟨_, _, -, -, hg⟩ | ⟨-, hg⟩
                · have := hg.size; simp at this; omega
                · have := hg.size; simp at this; omega
              have HN3 := Lib.hid hN3
              have HOL := Lib.hid (World.ownsRow.alloc hOl (.cells #[.int .i64 (x : Int)] 3))
              have HGL := Lib.hid (grown_alloc HG.out (.cells #[.int .i64 (x : Int)] 3))
              clear hN3 hOl
              refine (IX.out v3 w3 B hO3 hs3).mono ?_
              rintro e w4 ⟨v4, rfl, hO4, hO5, hg4⟩
              have hNs := Near8.stays (x := (x : Int)) HN3.out HOL.out hO5 hg4
              have HO4 := Lib.hid hO4
              have HO6 := Lib.hid hNs.1
              have HG6 := Lib.hid (World.grownBy.trans HGL.out (by rw [← HV.out]; exact hNs.2))
              clear hO3 hO4 hO5 hg4 hNs HN3 HOL HGL IX
              cases K2 with
              | true =>
                obtain ⟨rfl, rfl⟩ := HH1.out rfl
                clear HH1 HF1
                go_wp2_with fail
                go_ret2
                exact ⟨_, rfl, HO4.out, HO6.out, HG6.out⟩
              | false =>
                have HN4 := Lib.hid (HF1.out rfl)
                clear HH1 HF1
                go_wp2_with fail
                go_roundw
                case rel => exact ⟨x + 1, by omega, by go_num, HN4, HO6, HG6⟩
                case measure => simp [intOf]; omega
      · have hxe : x = 2 * k := by omega
        subst hxe
        have hk1 : ¬ ((2 * k : Nat) : Int) < 2 * (k : Int) := by omega
        obtain ⟨rfl, rfl⟩ := HAL.out HN.out
        go_wp2_with fail
        go_ret2
        exact ⟨_, rfl, Out.nil8 _ _, HOr.out, HG.out⟩

set_option maxHeartbeats 1000000 in
theorem firstApartI_any (k : Int) (ring : Bool) (w : World) :
    Calls Try.prog 21 #[.int .i64 k, .bool ring] w fun e w' => ∃ v, e = .returned (.tuple #[v, .bool (couB k ring && ok8 (2 * k.toNat) ring (2 * k.toNat) [])]) ∧ Out w.heap.size w' v (if couB k ring = true then ints (res8 (2 * k.toNat) ring (2 * k.toNat) []) else []) ∧ Below w.heap.size w w' := by
  have C := fun w' => hasCouples_any k ring w'
  cases hc : couB k ring with
  | false =>
    rw [hc] at C
    rw [if_neg (by simp)]
    replace C := Lib.hid C
    have HO := Lib.hid (Out.nilLit w)
    have HB : Hid (Below w.heap.size w (w.alloc (.cells #[] 3))) := (Below.refl _ _).alloc (Nat.le_refl _) _
    clear hc
    go_enter Try.func21, Try.ntmps21
    go_wp2_with fail
    refine (C.out _).mono ?_
    rintro e w2 ⟨rfl, rfl⟩
    go_wp2_with fail
    go_ret2
    exact ⟨_, rfl, HO.out, HB.out⟩
  | true =>
    rw [hc] at C
    rw [if_pos rfl]
    obtain ⟨n, rfl, h1, h6, h2r⟩ := couB_is hc
    rw [Int.toNat_natCast, Bool.true_and]
    have F := firstFrom_any n ring h1 h6 h2r (2 * n) [] w.heap.size (.slice none 0 0) w (by simp) (by simp) (by simp) (Out.nil8 _ _) (Nat.le_refl _)
    obtain ⟨R, hR⟩ : ∃ R, ints (res8 (2 * n) ring (2 * n) []) = R := ⟨_, rfl⟩
    obtain ⟨D, hD⟩ : ∃ D, ok8 (2 * n) ring (2 * n) [] = D := ⟨_, rfl⟩
    rw [hR, hD] at F
    rw [hR, hD]
    replace C := Lib.hid C
    replace F := Lib.hid F
    clear hc hR hD
    go_enter Try.func21, Try.ntmps21
    go_wp2_with fail
    refine (C.out _).mono ?_
    rintro e w2 ⟨rfl, rfl⟩
    go_wp2_with fail
    refine F.out.mono ?_
    rintro e w3 ⟨v, rfl, hO, -, hg⟩
    have HO := Lib.hid hO
    have HB := Lib.hid (below_of_grown hg)
    clear hO hg
    go_wp2_with fail
    go_ret2
    exact ⟨_, rfl, HO.out, HB.out⟩

set_option maxHeartbeats 1000000 in
theorem firstApartS_any (k : Int) (ring : Bool) (w : World) :
    Calls Try.prog 20 #[.int .i64 k, .bool ring] w fun e w' => ∃ v, e = .returned (.tuple #[v, .bool (couB k ring && ok8 (2 * k.toNat) ring (2 * k.toNat) [])]) ∧ Out w.heap.size w' v (if couB k ring = true then ints (res8 (2 * k.toNat) ring (2 * k.toNat) []) else []) ∧ Below w.heap.size w w' := by
  have C := fun w' => l8Couples_any k ring w'
  have HO := Lib.hid (Out.nilLit w)
  have HB : Hid (Below w.heap.size w (w.alloc (.cells #[] 3))) := (Below.refl _ _).alloc (Nat.le_refl _) _
  cases hc : couB k ring with
  | false =>
    rw [hc] at C
    rw [if_neg (by simp)]
    replace C := Lib.hid C
    clear hc
    go_enter Try.func20, Try.ntmps20
    go_wp2_with fail
    refine (C.out _).mono ?_
    rintro e w2 ⟨rfl, rfl⟩
    go_wp2_with fail
    go_ret2
    exact ⟨_, rfl, HO.out, HB.out⟩
  | true =>
    rw [hc] at C
    rw [if_pos rfl]
    obtain ⟨n, rfl, h1, h6, h2r⟩ := couB_is hc
    rw [Int.toNat_natCast, Bool.true_and]
    have F := l8More_any n ring h1 h6 (2 * n) [] w.heap.size (.slice (some ⟨w.heap.size, 0, none⟩) 0 0) (w.alloc (.cells #[] 3)) (by simp) (by simp) HO.out (by simp)
    obtain ⟨R, hR⟩ : ∃ R, ints (res8 (2 * n) ring (2 * n) []) = R := ⟨_, rfl⟩
    obtain ⟨D, hD⟩ : ∃ D, ok8 (2 * n) ring (2 * n) [] = D := ⟨_, rfl⟩
    rw [hR, hD] at F
    rw [hR, hD]
    replace C := Lib.hid C
    replace F := Lib.hid F
    clear hc hR hD
    go_enter Try.func20, Try.ntmps20
    go_wp2_with fail
    refine (C.out _).mono ?_
    rintro e w2 ⟨rfl, rfl⟩
    go_wp2_with fail
    refine F.out.mono ?_
    rintro e w3 ⟨v, rfl, hO, hb⟩
    have HO3 := Lib.hid hO
    have HB3 := Lib.hid (HB.out.trans (hb.mono HB.out.size))
    clear hO hb
    go_wp2_with fail
    go_ret2
    exact ⟨_, rfl, HO3.out, HB3.out⟩

theorem firstApart_both (a0 : Int) (a1 : Bool) : ∃ (L0 : List Int) (y1 : Bool), L0.length ≤ 1000 ∧ (∀  (w : World), Calls Try.prog 20 #[.int .i64 a0, .bool a1] w fun e w' => ∃ v0, e = .returned (.tuple #[v0, .bool y1]) ∧ Out w.heap.size w' v0 L0 ∧ Below w.heap.size w w') ∧ (∀  (w : World), Calls Try.prog 21 #[.int .i64 a0, .bool a1] w fun e w' => ∃ v0, e = .returned (.tuple #[v0, .bool y1]) ∧ Out w.heap.size w' v0 L0 ∧ Below w.heap.size w w') := by
  refine ⟨_, _, ?_, firstApartS_any a0 a1, firstApartI_any a0 a1⟩
  split
  · rename_i h
    obtain ⟨n, rfl, h1, h6, -⟩ := couB_is h
    rw [ints_length, Int.toNat_natCast]
    unfold res8
    cases e : mor8 (2 * n) a1 (2 * n) [] with
    | none =>
      rw [if_neg (by omega)]
      simp
    | some r =>
      have := mor8_len _ _ _ e
      simp at this
      simp
      omega
  · simp
end Go.Proofs.Yteabodhkgkffiaa
