/- Chapter 8: FirstApart on both sides: the first party apart is looked for person by person. -/
import Derived.Test.YteabodhkgkffiaaParF8
import Derived.Test.YteabodhkgkffiaaApp8
import Derived.Test.YteabodhkgkffiaaTogB8
import Derived.Test.YteabodhkgkffiaaOwnL
import Derived.Test.YteabodhkgkffiaaHasI
namespace Go.Proofs.Yteabodhkgkffiaa
open Go.RowKit

def res8 (n : Nat) (ring : Bool) (f : Nat) (l : List Nat) : List Nat := (mor8 n ring f l).getD (if f = 0 then l else [])
def ok8 (n : Nat) (ring : Bool) (f : Nat) (l : List Nat) : Bool := (mor8 n ring f l).isSome
theorem res8_some {n : Nat} {ring : Bool} {f : Nat} {l r : List Nat} (h : mor8 n ring f l = some r) : res8 n ring f l = r := by unfold res8; rw [h]; rfl
theorem ok8_some {n : Nat} {ring : Bool} {f : Nat} {l r : List Nat} (h : mor8 n ring f l = some r) : ok8 n ring f l = true := by unfold ok8; rw [h]; rfl
theorem res8_none {n : Nat} {ring : Bool} {f : Nat} {l : List Nat} (h : mor8 n ring (f + 1) l = none) : res8 n ring (f + 1) l = [] := by unfold res8; rw [h]; rfl
theorem ok8_none {n : Nat} {ring : Bool} {f : Nat} {l : List Nat} (h : mor8 n ring f l = none) : ok8 n ring f l = false := by unfold ok8; rw [h]; rfl
theorem res8_zero (n : Nat) (ring : Bool) (l : List Nat) : res8 n ring 0 l = l := by unfold res8 mor8; split <;> rfl
theorem ok8_zero (n : Nat) (ring : Bool) (l : List Nat) : ok8 n ring 0 l = decide (tog8 ring l = 0) := by
  unfold ok8 mor8
  by_cases h : tog8 ring l = 0
  · rw [if_pos h, decide_eq_true h]; rfl
  · rw [if_neg h, decide_eq_false h]; rfl
theorem ok8_is {n : Nat} {ring : Bool} {f : Nat} {l : List Nat} (h : ok8 n ring f l = true) : mor8 n ring f l = some (res8 n ring f l) := by
  unfold ok8 at h
  unfold res8
  cases e : mor8 n ring f l with
  | none => rw [e] at h; cases h
  | some r => rfl
theorem ok8_not {n : Nat} {ring : Bool} {f : Nat} {l : List Nat} (h : ok8 n ring f l = false) : mor8 n ring f l = none := by
  unfold ok8 at h
  cases e : mor8 n ring f l with
  | none => rfl
  | some r => rw [e] at h; cases h
/-- nobody before person k leads to a party -/
def none8 (n : Nat) (ring : Bool) (f : Nat) (l : List Nat) (k : Nat) : Prop := (List.range k).findSome? (fun x => if skip8 l x = true then none else mor8 n ring f (l ++ [x])) = none
theorem none8_zero (n : Nat) (ring : Bool) (f : Nat) (l : List Nat) : none8 n ring f l 0 := rfl
theorem none8_skip {n : Nat} {ring : Bool} {f : Nat} {l : List Nat} {k : Nat} (h : none8 n ring f l k) (hs : skip8 l k = true) : none8 n ring f l (k + 1) := by
  unfold none8 at *
  rw [mor8_step, h, if_pos hs]; rfl
theorem none8_fail {n : Nat} {ring : Bool} {f : Nat} {l : List Nat} {k : Nat} (h : none8 n ring f l k) (hs : skip8 l k = false) (hn : ok8 n ring f (l ++ [k]) = false) : none8 n ring f l (k + 1) := by
  unfold none8 at *
  rw [mor8_step, h, if_neg (by rw [hs]; simp), ok8_not hn]; rfl
theorem none8_all {n : Nat} {ring : Bool} {f : Nat} {l : List Nat} (h : none8 n ring f l n) : res8 n ring (f + 1) l = [] ∧ ok8 n ring (f + 1) l = false := ⟨res8_none h, ok8_none h⟩
theorem none8_hit {n : Nat} {ring : Bool} {f : Nat} {l : List Nat} {k : Nat} (hk : k < n) (h : none8 n ring f l k) (hs : skip8 l k = false) (hn : ok8 n ring f (l ++ [k]) = true) : res8 n ring (f + 1) l = res8 n ring f (l ++ [k]) ∧ ok8 n ring (f + 1) l = true := by
  have := mor8_hit hk h hs (ok8_is hn)
  exact ⟨res8_some this, ok8_some this⟩
theorem ints_snoc8 (l : List Nat) (k : Nat) : ints (l ++ [k]) = ints l ++ [(k : Int)] := by unfold ints; rw [List.map_append]; rfl
theorem mem_ints8 (l : List Nat) (k : Nat) : decide ((k : Int) ∈ ints l) = decide (k ∈ l) := by
  apply decide_eq_decide.2
  unfold ints
  constructor
  · intro h
    obtain ⟨y, hy, e⟩ := List.mem_map.1 h
    have : y = k := by omega
    rw [← this]; exact hy
  · intro h
    exact List.mem_map.2 ⟨k, h, rfl⟩
theorem Out.riP {B : Nat} {w : World} {p : Option Addr} {n cap : Nat} {xs : List Int} (h : Out B w (.slice p n cap) xs) : n = xs.length ∧ Ri B w.heap.size w p xs := by
  obtain ⟨p', cap', e, -, -, hR, -⟩ := Out.rd h
  simp only [Value.slice.injEq] at e
  obtain ⟨rfl, rfl, rfl⟩ := e
  exact ⟨rfl, hR⟩

set_option maxRecDepth 4000 in
set_option maxHeartbeats 4000000 in
theorem l8More_any (k : Nat) (ring : Bool) (hk1 : 1 ≤ k) (hk6 : k ≤ 6) : ∀ (f : Nat) (l : List Nat) (B : Nat) (v : Value) (w : World), l.length + f = 2 * k → (∀ x ∈ l, x < 2 * k) → Out B w v (ints l) → B ≤ w.heap.size →
    Calls Try.prog 35 #[.int .i64 (k : Int), .bool ring, v] w fun e w' => ∃ v', e = .returned (.tuple #[v', .bool (ok8 (2 * k) ring f l)]) ∧ Out B w' v' (ints (res8 (2 * k) ring f l)) ∧ Below w.heap.size w w' := by
  intro f
  induction f with
  | zero =>
    intro l B v w hlf hlt hO hB
    obtain ⟨p, cap, rfl, -, -, hR, -⟩ := Out.rd hO
    have T := l8Together_any ring p cap l w B w.heap.size hR (by omega) (by omega) (fun x h => by have := hlt x h; omega)
    rw [res8_zero, ok8_zero]
    have hll : ((ints l).length : Int) = 2 * (k : Int) := by rw [ints_length]; omega
    obtain ⟨m, hm⟩ : ∃ m, (ints l).length = m := ⟨_, rfl⟩
    obtain ⟨R, hR2⟩ : ∃ R, tog8 ring l = R := ⟨_, rfl⟩
    rw [hR2] at T ⊢
    rw [hm] at T hO hll ⊢
    have hwk : IntKind.i64.wrap (2 * (k : Int)) = 2 * (k : Int) := IntWalk.i64_in _ (by omega)
    have HD : Hid (((R : Int) == 0) = decide (R = 0)) := by
      show _ = _
      by_cases h : R = 0
      · subst h; rfl
      · rw [decide_eq_false h]; simp; omega
    have HO := Lib.hid hO
    replace T := Lib.hid T
    clear hO hR hlt hm hR2
    go_enter Try.func35, Try.ntmps35
    go_wp2_with fail
    refine T.out.mono ?_
    rintro e w1 ⟨rfl, -, hb⟩
    have HO2 := Lib.hid (Out.kept8 HO.out (grown_of_below hb none) (.inr rfl))
    have HB2 := Lib.hid hb
    clear hb
    go_wp2_with fail
    go_ret2
    exact ⟨_, by rw [← HD.out]; rfl, HO2.out, HB2.out⟩
  | succ f ih =>
    intro l B v w hlf hlt hO hB
    obtain ⟨p, cap, rfl, -, -, hR0, -⟩ := Out.rd hO
    have hlen1000 : (ints l).length ≤ 1000 := by rw [ints_length]; omega
    have HAS := Lib.hid (fun (x : Nat) (w' : World) (h : Out B w' (.slice p (ints l).length cap) (ints l)) => by
      have := l1Has_any p cap (ints l) (x : Int) w' _ _ h.riP.2 (by omega)
      rw [mem_ints8] at this
      exact this)
    have OWN := Lib.hid (fun (w' : World) (h : Out B w' (.slice p (ints l).length cap) (ints l)) => l1Own_any p cap (ints l) w' _ _ h.riP.2 hlen1000)
    have IH := Lib.hid (fun (x : Nat) (hx : x < 2 * k) v' w' B' (h : Out B' w' v' (ints l ++ [(x : Int)])) (h2 : B' ≤ w'.heap.size) => ih (l ++ [x]) B' v' w' (by rw [List.length_append]; simp; omega) (by intro y hy; rw [List.mem_append] at hy; rcases hy with hy | hy; exact hlt y hy; simp at hy; omega) (by rw [ints_snoc8]; exact h) h2)
    have HLC := Lib.hid (fun (w' : World) (h : Out B w' (.slice p (ints l).length cap) (ints l)) (h0 : 0 < l.length) => by
      obtain ⟨b, off, e, -, -, -, hc⟩ := h.riP.2.int (by rw [ints_length]; exact h0)
      have := hc (l.length - 1) (by rw [ints_length]; omega)
      rw [ints_get (by omega)] at this
      exact (⟨b, off, e, this⟩ : ∃ b off, p = some ⟨b, off, none⟩ ∧ w'.cell? ⟨b, off + (l.length - 1), none⟩ = some (.int .i64 ((l[l.length - 1]?.getD 0 : Nat) : Int))))
    have HLL := Lib.hid (fun (h0 : 0 < l.length) => hlt _ (nat_mem (show l.length - 1 < l.length by omega)))
    have HSK : Hid (∀ x, skip8 l x = (decide (x ∈ l) || (decide (0 < l.length) && decide (l[l.length - 1]?.getD 0 / 2 = x / 2)))) := fun x => rfl
    have HIT := Lib.hid (fun k' (hk : k' < 2 * k) h hs hn => none8_hit (ring := ring) (f := f) (l := l) (k := k') hk h hs hn)
    have HSP := Lib.hid (fun k' h hs => none8_skip (n := 2 * k) (ring := ring) (f := f) (l := l) (k := k') h hs)
    have HFL := Lib.hid (fun k' h hs hn => none8_fail (n := 2 * k) (ring := ring) (f := f) (l := l) (k := k') h hs hn)
    have HAL := Lib.hid (fun h => none8_all (n := 2 * k) (ring := ring) (f := f) (l := l) h)
    have H0 := Lib.hid (none8_zero (2 * k) ring f l)
    obtain ⟨R, hR⟩ : ∃ R, res8 (2 * k) ring (f + 1) l = R := ⟨_, rfl⟩
    obtain ⟨D, hD⟩ : ∃ D, ok8 (2 * k) ring (f + 1) l = D := ⟨_, rfl⟩
    simp only [hR, hD] at HIT HAL
    rw [hR, hD]
    have hll : l.length < 2 * k := by omega
    have HOL := Lib.hid (fun (L : List Int) => (rfl : L = L))
    have hlne : ¬ ((ints l).length : Int) = 2 * (k : Int) := by rw [ints_length]; omega
    have HLE : Hid ((ints l).length = l.length) := ints_length l
    obtain ⟨m, hm⟩ : ∃ m, l.length = m := ⟨_, rfl⟩
    have hmi : (ints l).length = m := by rw [ints_length, hm]
    rw [hm] at HLC HLL HSK hll
    rw [hmi] at HAS OWN hO hlne HLC hlen1000 ⊢
    have hwk : IntKind.i64.wrap (2 * (k : Int)) = 2 * (k : Int) := IntWalk.i64_in _ (by omega)
    have hmk : ((m : Int) == 2 * (k : Int)) = false := by simp; omega
    have HO0 := Lib.hid hO
    have HB0 := Lib.hid (Below.refl w.heap.size w)
    have HMI := Lib.hid hmi
    clear hO hR0 hlt hm hR hD ih hlf HOL HLE hmi
    go_enter Try.func35, Try.ntmps35
    go_wp2_with fail
    go_loopw [8] (fun i wr => ∃ x : Nat, x ≤ 2 * k ∧ i = .int .i64 (x : Int) ∧ Hid (none8 (2 * k) ring f l x) ∧ Hid (Below w.heap.size w wr)) (fun i _ => 2 * k - (intOf i).toNat)
    case atStart => exact ⟨0, Nat.zero_le _, rfl, H0, HB0⟩
    case round =>
      obtain ⟨x, hx, rfl, HN, HB⟩ := hrel
      clear H0 HB0
      have hsz := HB.out.size
      have HOr := Lib.hid (Out.kept8 HO0.out (grown_of_below HB.out none) (.inr rfl))
      by_cases hlt : x < 2 * k
      · have hk1 : (x : Int) < 2 * (k : Int) := by omega
        have HS1 := HAS.out x wr HOr.out
        have sk := HSK.out x
        have hwx : IntKind.i64.wrap ((x : Int) + 1) = (x : Int) + 1 := IntWalk.i64_in _ (by omega)
        by_cases hmem : x ∈ l
        · rw [decide_eq_true hmem] at HS1 sk
          have HN2 := Lib.hid (HSP.out x HN.out (by rw [sk]; rfl))
          replace HS1 := Lib.hid HS1
          clear sk hmem
          go_wp2_with fail
          refine HS1.out.mono ?_
          rintro e w1 ⟨rfl, rfl⟩
          go_wp2_with fail
          go_roundw
          case rel => exact ⟨x + 1, by omega, by go_num, HN2, HB⟩
          case measure => simp [intOf]; omega
        · rw [decide_eq_false hmem] at HS1 sk
          replace HS1 := Lib.hid HS1
          obtain ⟨K, hK⟩ : ∃ K : Bool, (decide (0 < m) && decide (l[m - 1]?.getD 0 / 2 = x / 2)) = K := ⟨_, rfl⟩
          rw [hK] at sk
          cases K with
          | true =>
            simp only [Bool.and_eq_true, decide_eq_true_eq] at hK
            obtain ⟨hm0, hq⟩ := hK
            have HN2 := Lib.hid (HSP.out x HN.out (by rw [sk]; rfl))
            obtain ⟨b, off, rfl, cl⟩ := HLC.out wr HOr.out hm0
            have hlast := HLL.out hm0
            obtain ⟨y, hy⟩ : ∃ y, l[m - 1]?.getD 0 = y := ⟨_, rfl⟩
            rw [hy] at cl hq hlast
            have q1 : (y : Int).tdiv 2 = ((y / 2 : Nat) : Int) := (Int.ofNat_tdiv y 2).symm
            have q2 : (x : Int).tdiv 2 = ((x / 2 : Nat) : Int) := (Int.ofNat_tdiv x 2).symm
            have l1 : y / 2 ≤ y := Nat.div_le_self _ _
            rw [← hq] at q2
            obtain ⟨u, hu⟩ : ∃ u, y / 2 = u := ⟨_, rfl⟩
            rw [hu] at q1 q2 l1
            have hwu : IntKind.i64.wrap (u : Int) = (u : Int) := IntWalk.i64_in _ (by omega)
            obtain ⟨t, htm⟩ : ∃ t, m - 1 = t := ⟨_, rfl⟩
            rw [htm] at cl
            have ht0 : (0 : Int) < (m : Int) := by omega
            have ht1 : (m : Int) - 1 = (t : Int) := by omega
            have hwt : IntKind.i64.wrap (t : Int) = (t : Int) := IntWalk.i64_in _ (by omega)
            have htt : (t : Int) < (m : Int) := by omega
            clear sk hmem hy hu hq htm
            go_wp2_with fail
            refine HS1.out.mono ?_
            rintro e w1 ⟨rfl, rfl⟩
            go_wp2_with fail
            go_roundw
            case rel => exact ⟨x + 1, by omega, by go_num, HN2, HB⟩
            case measure => simp [intOf]; omega
          | false =>
            have hskip : skip8 l x = false := by rw [sk]; rfl
            have OW := Lib.hid (OWN.out wr HOr.out)
            have IX := Lib.hid (IH.out x hlt)
            have HF1 := Lib.hid (HFL.out x HN.out hskip)
            have HH1 := Lib.hid (HIT.out x hlt HN.out hskip)
            obtain ⟨K2, hK2⟩ : ∃ K2, ok8 (2 * k) ring f (l ++ [x]) = K2 := ⟨_, rfl⟩
            obtain ⟨R2, hR2⟩ : ∃ R2, res8 (2 * k) ring f (l ++ [x]) = R2 := ⟨_, rfl⟩
            rw [hK2] at IX HF1 HH1
            rw [hR2] at IX HH1
            clear sk hmem hskip hK2 hR2 HFL HIT HSP
            by_cases hm0 : 0 < m
            · obtain ⟨b, off, rfl, cl⟩ := HLC.out wr HOr.out hm0
              have hq : ¬ l[m - 1]?.getD 0 / 2 = x / 2 := by simpa [hm0] using hK
              have hlast := HLL.out hm0
              obtain ⟨y, hy⟩ : ∃ y, l[m - 1]?.getD 0 = y := ⟨_, rfl⟩
              rw [hy] at cl hq hlast
              have q1 : (y : Int).tdiv 2 = ((y / 2 : Nat) : Int) := (Int.ofNat_tdiv y 2).symm
              have q2 : (x : Int).tdiv 2 = ((x / 2 : Nat) : Int) := (Int.ofNat_tdiv x 2).symm
              have l1 : y / 2 ≤ y := Nat.div_le_self _ _
              have l2 : x / 2 ≤ x := Nat.div_le_self _ _
              obtain ⟨u, hu⟩ : ∃ u, y / 2 = u := ⟨_, rfl⟩
              obtain ⟨z, hz⟩ : ∃ z, x / 2 = z := ⟨_, rfl⟩
              rw [hu] at q1 l1 hq
              rw [hz] at q2 l2 hq
              have hwu : IntKind.i64.wrap (u : Int) = (u : Int) := IntWalk.i64_in _ (by omega)
              have hwz : IntKind.i64.wrap (z : Int) = (z : Int) := IntWalk.i64_in _ (by omega)
              have huz : ¬ (u : Int) = (z : Int) := by omega
              obtain ⟨t, htm⟩ : ∃ t, m - 1 = t := ⟨_, rfl⟩
              rw [htm] at cl
              have ht0 : (0 : Int) < (m : Int) := by omega
              have ht1 : (m : Int) - 1 = (t : Int) := by omega
              have hwt : IntKind.i64.wrap (t : Int) = (t : Int) := IntWalk.i64_in _ (by omega)
              have htt : (t : Int) < (m : Int) := by omega
              clear hy hu hz hq hK htm
              go_wp2_with fail
              refine HS1.out.mono ?_
              rintro e w1 ⟨rfl, rfl⟩
              go_wp2_with fail
              refine OW.out.mono ?_
              rintro e w1 ⟨g1, c1, rfl, -, -, -, hO1, hb1⟩
              have hs1 := hb1.size
              have HOV := Lib.hid (Out.kept8 HOr.out (grown_of_below hb1 none) (.inr rfl))
              have HO1 := Lib.hid hO1
              have HB1 := Lib.hid (HB.out.trans (hb1.mono hsz))
              have hblk := Lib.hid (own_block hO1)
              clear hO1
              go_wp2_with (at_builtin; refine wpList_app rfl _ _ rfl wr.heap.size _ (ints l) rfl (World.ownsRow.alloc HO1.out (.cells #[.int .i64 (x : Int)] 3)) _ 1 1 0 (w1.heap.size + 1) [(x : Int)] rfl (lit_one (OwnArr.made w1 _ [_]) _ (Nat.lt_succ_self _) (by simp)) rfl (by rw [HMI.out]; omega) (by simp; omega) ?_; intro v3 w3 hO3 hg3 hn3)
              have hG3 : Below wr.heap.size w1 w3 := ((Below.refl wr.heap.size w1).alloc hs1 _).grown hg3 (by simp; omega) hblk.out
              have hs3 := hG3.size
              have HB3 := Lib.hid (HB1.out.trans (hG3.mono hsz))
              have hs3' : wr.heap.size ≤ w3.heap.size := by omega
              clear hg3 hn3 HO1 HOV hG3 HB1 hblk
              refine (IX.out v3 w3 wr.heap.size hO3 hs3').mono ?_
              rintro e w4 ⟨v4, rfl, hO4, hb4⟩
              have HB4 := Lib.hid (HB3.out.trans (hb4.mono HB3.out.size))
              have HO4 := Lib.hid (hO4.mono (Nat.le_trans hB hsz))
              clear hO3 hO4 hb4 HB3 IX
              cases K2 with
              | true =>
                obtain ⟨rfl, rfl⟩ := HH1.out rfl
                clear HH1 HF1
                go_wp2_with fail
                go_ret2
                exact ⟨_, rfl, HO4.out, HB4.out⟩
              | false =>
                have HN4 := Lib.hid (HF1.out rfl)
                clear HH1 HF1
                go_wp2_with fail
                go_roundw
                case rel => exact ⟨x + 1, by omega, by go_num, HN4, HB4⟩
                case measure => simp [intOf]; omega
            · have hm00 : ¬ (0 : Int) < (m : Int) := by omega
              clear hK
              go_wp2_with fail
              refine HS1.out.mono ?_
              rintro e w1 ⟨rfl, rfl⟩
              go_wp2_with fail
              refine OW.out.mono ?_
              rintro e w1 ⟨g1, c1, rfl, -, -, -, hO1, hb1⟩
              have hs1 := hb1.size
              have HOV := Lib.hid (Out.kept8 HOr.out (grown_of_below hb1 none) (.inr rfl))
              have HO1 := Lib.hid hO1
              have HB1 := Lib.hid (HB.out.trans (hb1.mono hsz))
              have hblk := Lib.hid (own_block hO1)
              clear hO1
              go_wp2_with (at_builtin; refine wpList_app rfl _ _ rfl wr.heap.size _ (ints l) rfl (World.ownsRow.alloc HO1.out (.cells #[.int .i64 (x : Int)] 3)) _ 1 1 0 (w1.heap.size + 1) [(x : Int)] rfl (lit_one (OwnArr.made w1 _ [_]) _ (Nat.lt_succ_self _) (by simp)) rfl (by rw [HMI.out]; omega) (by simp; omega) ?_; intro v3 w3 hO3 hg3 hn3)
              have hG3 : Below wr.heap.size w1 w3 := ((Below.refl wr.heap.size w1).alloc hs1 _).grown hg3 (by simp; omega) hblk.out
              have hs3 := hG3.size
              have HB3 := Lib.hid (HB1.out.trans (hG3.mono hsz))
              have hs3' : wr.heap.size ≤ w3.heap.size := by omega
              clear hg3 hn3 HO1 HOV hG3 HB1 hblk
              refine (IX.out v3 w3 wr.heap.size hO3 hs3').mono ?_
              rintro e w4 ⟨v4, rfl, hO4, hb4⟩
              have HB4 := Lib.hid (HB3.out.trans (hb4.mono HB3.out.size))
              have HO4 := Lib.hid (hO4.mono (Nat.le_trans hB hsz))
              clear hO3 hO4 hb4 HB3 IX
              cases K2 with
              | true =>
                obtain ⟨rfl, rfl⟩ := HH1.out rfl
                clear HH1 HF1
                go_wp2_with fail
                go_ret2
                exact ⟨_, rfl, HO4.out, HB4.out⟩
              | false =>
                have HN4 := Lib.hid (HF1.out rfl)
                clear HH1 HF1
                go_wp2_with fail
                go_roundw
                case rel => exact ⟨x + 1, by omega, by go_num, HN4, HB4⟩
                case measure => simp [intOf]; omega
      · have hxe : x = 2 * k := by omega
        subst hxe
        have hk1 : ¬ ((2 * k : Nat) : Int) < 2 * (k : Int) := by omega
        obtain ⟨rfl, rfl⟩ := HAL.out HN.out
        have HOZ := Lib.hid ((Out.nilLit wr).mono (Nat.le_trans hB hsz))
        have HBZ := Lib.hid (HB.out.alloc hsz (.cells #[] 3))
        go_wp2_with fail
        go_ret2
        exact ⟨_, rfl, HOZ.out, HBZ.out⟩
end Go.Proofs.Yteabodhkgkffiaa
