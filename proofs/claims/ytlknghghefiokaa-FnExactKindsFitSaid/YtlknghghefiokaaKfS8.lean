/- Chapter 8: spec.KindsFit. -/
import Derived.Test.YtlknghghefiokaaKinS8
import Derived.Test.YtlknghghefiokaaFreeS
import Derived.Test.YtlknghghefiokaaGapS
import Derived.Deep.RegionHeld3
import Derived.Deep.RegionWith
import Derived.BigGuard
namespace Go.Proofs.Ytlknghghefiokaa
open Go.RowKit

/-- an operation of no world taken first, its slot's number given -/
theorem take_at8 {P : Program} {md : Region.Mode} {ops : Array Oper} {Q : Exit → Act → World → Prop} {i d : Nat} {oi : Oper} {v : Value} {fuel : Nat} {listed : Array Bool} {a : Act} {w : World} (hi : ops[i]? = some oi) (hd : oi.dst = some d)
    (hs : Region.noSelect ops = true) (hf : Region.free md ops listed i = true) (hr : (Region.ready md ops listed).contains i = true)
    (hQ : ∀ c a w, Q (.panic c) (a.put oi.dst v) w → Q (.panic c) a w) (hy : Yields P ops oi v a)
    (h : wpAny P md ops Q fuel (listed.setIfInBounds i true) (a.put (some d) v) w) : wpAny P md ops Q (fuel + 1) listed a w :=
  wpAny_take hi hs hf hr hQ hy (hd ▸ h)

set_option maxRecDepth 4000 in
set_option maxHeartbeats 1000000 in
theorem kindsFitS_bad (s : Int) (ring : Bool) (p : Option Addr) (cap : Nat) (xs : List Int) (u : Int) (q : Option Addr) (c : Nat) (us : List Int) (kp : Option Addr) (kc : Nat) (ks : List Int) (w : World) (lo hi lo2 hi2 lo3 hi3 : Nat)
    (hin : Ri lo hi w p xs) (hin2 : Ri lo2 hi2 w q us) (hin3 : Ri lo3 hi3 w kp ks) (hlen : xs.length ≤ 1048576) (hlen2 : us.length ≤ 1048576) (hlen3 : ks.length ≤ 1048576) (h : kinB s ring xs u us ks = false) :
    Calls Try.prog 14 #[rowV s ring p xs.length cap, ruleV u q us.length c, .slice kp ks.length kc] w fun e w' => e = .returned (.tuple #[.bool false, .bool false]) ∧ Below w.heap.size w w' := by
  have hE := TwoE.start w s ring p xs.length cap u q us.length c
  have K := fun w' (hb : Below w.heap.size w w') => l8Kinds_any s ring p cap xs u q c us kp kc ks w' lo hi lo2 hi2 lo3 hi3 (hin.bel hb) (hin2.bel hb) (hin3.bel hb) hlen hlen2 hlen3
  rw [h] at K
  replace K := Lib.hid K
  obtain ⟨m, hm⟩ : ∃ m, xs.length = m := ⟨_, rfl⟩
  obtain ⟨m2, hm2⟩ : ∃ m, us.length = m := ⟨_, rfl⟩
  obtain ⟨m3, hm3⟩ : ∃ m, ks.length = m := ⟨_, rfl⟩
  rw [hm, hm2, hm3] at K
  rw [hm, hm2] at hE
  rw [hm, hm2, hm3]
  have HE := Lib.hid hE
  obtain ⟨c0, c1, c2, -⟩ := HE.out.row.three
  obtain ⟨d0, d1, -⟩ := HE.out.rul.two
  clear hin hin2 hin3 hm hm2 hm3 hE hlen hlen2 hlen3 h
  go_enter Try.func14, Try.ntmps14
  go_wp2_with fail
  refine (K.out _ HE.out.bel).mono ?_
  rintro e w1 ⟨rfl, hb⟩
  have HE1 := Lib.hid (HE.out.next hb)
  clear hb c0 c1 c2 d0 d1
  go_wp2_with fail
  go_ret2
  exact ⟨rfl, HE1.out.bel⟩

set_option maxRecDepth 4000 in
set_option maxHeartbeats 4000000 in
theorem kindsFitS_good (n : Nat) (ring : Bool) (p : Option Addr) (cap : Nat) (S : Nat → Bool) (nk : Nat) (q : Option Addr) (c : Nat) (us : List Int) (kp : Option Addr) (kc : Nat) (l : List Nat) (w : World) (lo hi lo2 hi2 lo3 hi3 : Nat)
    (hin : Ri lo hi w p (ints (tk n S))) (hin2 : Ri lo2 hi2 w q us) (hin3 : Ri lo3 hi3 w kp (ints l)) (hn : n ≤ 24) (hk3 : nk ≤ 3) (hkl : us.length = nk * nk) (hl : l.length = (tk n fun x => !S x).length) (hlk : ∀ x ∈ l, x < nk)
    (h : kinB n ring (ints (tk n S)) nk us (ints l) = true) :
    Calls Try.prog 14 #[rowV n ring p (ints (tk n S)).length cap, ruleV nk q us.length c, .slice kp (ints l).length kc] w fun e w' => e = .returned (.tuple #[.bool (fitB l.length (clash n ring nk (fun i => us[i]?.getD 0) (fun i => (tk n fun x => !S x)[i]?.getD 0) (fun i => l[i]?.getD 0))), .bool true]) ∧ Below w.heap.size w w' := by
  have htl := ints_tk_len n S
  have hfl := ints_tk_len n (fun x => !S x)
  have hus9 : us.length ≤ 9 := by rw [hkl]; exact Nat.mul_le_mul hk3 hk3
  have hE := TwoE.start w n ring p (ints (tk n S)).length cap nk q us.length c
  have K := fun w' (hb : Below w.heap.size w w') => l8Kinds_any n ring p cap (ints (tk n S)) nk q c us kp kc (ints l) w' lo hi lo2 hi2 lo3 hi3 (hin.bel hb) (hin2.bel hb) (hin3.bel hb) (by omega) (by omega) (by rw [ints_length]; rw [ints_length] at hfl; omega)
  rw [h] at K
  have FRE := Lib.hid (fun w' (hb : Below w.heap.size w w') => freeS_any n ring p cap S w' lo hi (hin.bel hb) hn)
  have GA := Lib.hid (fun a b (ha : a < n) (hb : b < n) w' => gapS_any n ring p (ints (tk n S)).length cap a b w' hn ha hb)
  have MA := Lib.hid (fun a b (ha : a < nk) (hb : b < nk) w' (hbw : Below w.heap.size w w') => l8May_any nk q c us a b w' lo2 hi2 (hin2.bel hbw) hk3 hkl ha hb)
  have HFM := Lib.hid (fun j (h : j < (tk n fun x => !S x).length) => (mem_tk.1 (nat_mem h)).1)
  have HKM := Lib.hid (fun j (h : j < l.length) => hlk _ (nat_mem h))
  have HKC := Lib.hid (fun (w' : World) (hb : Below w.heap.size w w') (h0 : 0 < l.length) => (hin3.bel hb).int (by rw [ints_length]; exact h0))
  have HKG := Lib.hid (fun j (h : j < l.length) => ints_get h)
  have HFG := Lib.hid (fun j (h : j < (tk n fun x => !S x).length) => ints_get h)
  rw [← hl] at HFM HFG
  have HCL : Hid (∀ i j, clash n ring nk (fun i => us[i]?.getD 0) (fun i => (tk n fun x => !S x)[i]?.getD 0) (fun i => l[i]?.getD 0) i j = (decide (gapM n ring ((tk n fun x => !S x)[i]?.getD 0) ((tk n fun x => !S x)[j]?.getD 0) = 1) && !decide (us[l[i]?.getD 0 * nk + l[j]?.getD 0]?.getD 0 = 1))) := fun i j => rfl
  obtain ⟨C, hC⟩ : ∃ C, clash n ring nk (fun i => us[i]?.getD 0) (fun i => (tk n fun x => !S x)[i]?.getD 0) (fun i => l[i]?.getD 0) = C := ⟨_, rfl⟩
  rw [hC] at HCL ⊢
  have HT := Lib.hid (fitB_true (F := l.length) (C := C))
  have HF := Lib.hid (fun i j hi hj h => fitB_false (F := l.length) (C := C) (i := i) (j := j) hi hj h)
  obtain ⟨R, hR⟩ : ∃ R, fitB l.length C = R := ⟨_, rfl⟩
  simp only [hR] at HF HT
  rw [hR]
  have HFL : Hid ((ints (tk n fun x => !S x)).length = l.length) := by show _ = _; rw [ints_length, hl]
  obtain ⟨fr, hfr⟩ : ∃ fr, tk n (fun x => !S x) = fr := ⟨_, rfl⟩
  simp only [hfr] at FRE HFM HFG HCL HFL
  have hF24 : l.length ≤ 24 := by rw [ints_length] at hfl; omega
  have hil : (ints l).length = l.length := ints_length l
  rw [hil] at K ⊢
  obtain ⟨F, hFF⟩ : ∃ F, l.length = F := ⟨_, rfl⟩
  have HLF := Lib.hid hFF
  rw [hFF] at K HFM HFG HKM HKC HKG HF HT HFL hF24 ⊢
  obtain ⟨m, hm⟩ : ∃ m, (ints (tk n S)).length = m := ⟨_, rfl⟩
  obtain ⟨m2, hm2⟩ : ∃ m, us.length = m := ⟨_, rfl⟩
  rw [hm, hm2] at K
  rw [hm] at FRE GA
  rw [hm2] at MA
  rw [hm, hm2] at hE
  rw [hm, hm2]
  replace K := Lib.hid K
  have HE := Lib.hid hE
  obtain ⟨c0, c1, c2, -⟩ := HE.out.row.three
  obtain ⟨d0, d1, -⟩ := HE.out.rul.two
  clear hin hin2 hin3 hm hm2 hE h hR hC hFF hil hfr htl hfl hus9 hlk hl hkl
  go_enter Try.func14, Try.ntmps14
  go_wp2_with fail
  refine (K.out _ HE.out.bel).mono ?_
  rintro e w1 ⟨rfl, hb⟩
  have HE1 := Lib.hid (HE.out.next hb)
  clear hb c0 c1 c2 d0 d1 K HE
  obtain ⟨c0, c1, c2, -⟩ := HE1.out.row.three
  go_wp2_with fail
  refine (FRE.out _ HE1.out.bel).mono ?_
  rintro e w2 ⟨v, rfl, hO, hb⟩
  have HE2 := Lib.hid (HE1.out.next hb)
  obtain ⟨fp, fc, rfl, -, -, hfR, -⟩ := Out.rd hO
  have HFR := Lib.hid hfR
  rw [HFL.out]
  clear hb c0 c1 c2 FRE HE1 hO hfR
  go_wp2_with fail
  go_loopw [9, 10] (fun i _ wr => ∃ a : Nat, a ≤ F ∧ i = .int .i64 (a : Int) ∧ Hid (∀ i', i' < a → ∀ j', j' < i' → C i' j' = false) ∧ Hid (Below w2.heap.size w2 wr)) (fun i _ _ => F - (intOf i).toNat)
  case atStart => exact ⟨0, Nat.zero_le _, rfl, by show ∀ _, _; intro a h; omega, Below.refl _ _⟩
  case round =>
    obtain ⟨a, ha, rfl, HA, HB⟩ := hrel
    by_cases hlt : a < F
    · have hai : (a : Int) < (F : Int) := by omega
      have hwa : IntKind.i64.wrap ((a : Int) + 1) = (a : Int) + 1 := IntWalk.i64_in _ (by omega)
      go_wp2_with fail
      go_loopw [10] (fun i wr => ∃ b : Nat, b ≤ a ∧ i = .int .i64 (b : Int) ∧ Hid (∀ j', j' < b → C a j' = false) ∧ Hid (Below w2.heap.size w2 wr)) (fun i _ => a - (intOf i).toNat)
      case atStart => exact ⟨0, Nat.zero_le _, rfl, by show ∀ _, _; intro a h; omega, HB⟩
      case round =>
        obtain ⟨d, hd, rfl, HD, HB3⟩ := hrel
        clear HB
        by_cases hdl : d < a
        · have hda : (d : Int) < (a : Int) := by omega
          have hdf : (d : Int) < (F : Int) := by omega
          have hwd : IntKind.i64.wrap ((d : Int) + 1) = (d : Int) + 1 := IntWalk.i64_in _ (by omega)
          have cl := HCL.out a d
          have g := GA.out _ _ (HFM.out a hlt) (HFM.out d (by omega))
          have my := MA.out _ _ (HKM.out a hlt) (HKM.out d (by omega))
          have bad := HF.out a d hlt hdl
          obtain ⟨fb, fo, rfl, -, -, hfb, hfc⟩ := HFR.out.int (by rw [HFL.out]; omega)
          obtain ⟨kb, ko, rfl, -, -, hkb, hkc⟩ := HKC.out wr (HE2.out.bel.trans (HB3.out.mono HE2.out.bel.size)) (by omega)
          have CEL : Hid (∀ w' : World, Below wr.heap.size wr w' → w'.cell? ⟨w.heap.size, 0, none⟩ = some (.int .i64 (n : Int)) ∧ w'.cell? ⟨w.heap.size, 1, none⟩ = some (.bool ring) ∧ w'.cell? ⟨w.heap.size, 2, none⟩ = some (.slice p m cap) ∧ w'.cell? ⟨w.heap.size + 1, 0, none⟩ = some (.int .i64 (nk : Int)) ∧ w'.cell? ⟨w.heap.size + 1, 1, none⟩ = some (.slice q m2 c) ∧
              w'.cell? ⟨fb, fo + a, none⟩ = some (.int .i64 ((fr[a]?.getD 0 : Nat) : Int)) ∧ w'.cell? ⟨fb, fo + d, none⟩ = some (.int .i64 ((fr[d]?.getD 0 : Nat) : Int)) ∧ w'.cell? ⟨kb, ko + a, none⟩ = some (.int .i64 ((l[a]?.getD 0 : Nat) : Int)) ∧ w'.cell? ⟨kb, ko + d, none⟩ = some (.int .i64 ((l[d]?.getD 0 : Nat) : Int)) ∧ Hid (Below wr.heap.size wr w')) := by
            intro w' hb
            have hb2 := HB3.out.trans (hb.mono HB3.out.size)
            have x := HE2.out.next hb2
            obtain ⟨e0, e1, e2, -⟩ := x.row.three
            obtain ⟨e3, e4, -⟩ := x.rul.two
            refine ⟨e0, e1, e2, e3, e4, ?_, ?_, ?_, ?_, hb⟩
            · exact (hb2.cell (p := ⟨fb, fo + a, none⟩) hfb).trans ((hfc a (by rw [HFL.out]; omega)).trans (by rw [HFG.out a hlt]))
            · exact (hb2.cell (p := ⟨fb, fo + d, none⟩) hfb).trans ((hfc d (by rw [HFL.out]; omega)).trans (by rw [HFG.out d (by omega)]))
            · exact (hb.cell (p := ⟨kb, ko + a, none⟩) (by assumption)).trans ((hkc a (by rw [ints_length, HLF.out]; omega)).trans (by rw [HKG.out a hlt]))
            · exact (hb.cell (p := ⟨kb, ko + d, none⟩) (by assumption)).trans ((hkc d (by rw [ints_length, HLF.out]; omega)).trans (by rw [HKG.out d (by omega)]))
          have HBW := Lib.hid (fun (w' : World) (hb : Below wr.heap.size wr w') => HE2.out.bel.trans ((HB3.out.trans (hb.mono HB3.out.size)).mono HE2.out.bel.size))
          have HBN := Lib.hid (fun (w' : World) (hb : Below wr.heap.size wr w') => HB3.out.trans (hb.mono HB3.out.size))
          obtain ⟨x, hx⟩ : ∃ x, fr[a]?.getD 0 = x := ⟨_, rfl⟩
          obtain ⟨y, hy⟩ : ∃ y, fr[d]?.getD 0 = y := ⟨_, rfl⟩
          obtain ⟨k1, hk1⟩ : ∃ k, l[a]?.getD 0 = k := ⟨_, rfl⟩
          obtain ⟨k2, hk2⟩ : ∃ k, l[d]?.getD 0 = k := ⟨_, rfl⟩
          rw [hx, hy] at cl g CEL
          rw [hk1, hk2] at cl my CEL
          have S0 := CEL.out wr.drew (Below.refl _ wr).drew
          obtain ⟨gv, hgv⟩ : ∃ g, gapM n ring x y = g := ⟨_, rfl⟩
          rw [hgv] at cl g
          obtain ⟨mv, hmv⟩ : ∃ b, decide (us[k1 * nk + k2]?.getD 0 = 1) = b := ⟨_, rfl⟩
          rw [hmv] at cl my
          replace g := Lib.hid g
          replace my := Lib.hid my
          have HANEXT : Hid (C a d = false → ∀ j', j' < d + 1 → C a j' = false) := by
            intro h c hc
            by_cases e : c = d
            · subst e; exact h
            · exact HD.out c (by omega)
          clear hx hy hk1 hk2 hgv hmv hfc hkc hfb hkb HB3 HD
          by_cases hg1 : gv = 1
          · subst hg1
            cases mv with
            | true =>
              have HN := Lib.hid (HANEXT.out (by rw [cl]; rfl))
              clear cl bad HANEXT
              go_wp2_with fail
              go_region_held3 (fun w' => w'.cell? ⟨w.heap.size, 0, none⟩ = some (.int .i64 (n : Int)) ∧ w'.cell? ⟨w.heap.size, 1, none⟩ = some (.bool ring) ∧ w'.cell? ⟨w.heap.size, 2, none⟩ = some (.slice p m cap) ∧ w'.cell? ⟨w.heap.size + 1, 0, none⟩ = some (.int .i64 (nk : Int)) ∧ w'.cell? ⟨w.heap.size + 1, 1, none⟩ = some (.slice q m2 c) ∧ w'.cell? ⟨fb, fo + a, none⟩ = some (.int .i64 (x : Int)) ∧ w'.cell? ⟨fb, fo + d, none⟩ = some (.int .i64 (y : Int)) ∧ w'.cell? ⟨kb, ko + a, none⟩ = some (.int .i64 (k1 : Int)) ∧ w'.cell? ⟨kb, ko + d, none⟩ = some (.int .i64 (k2 : Int)) ∧ Hid (Below wr.heap.size wr w')) ((first | exact S0 | exact S1 | exact S2)) (first
                | (go_at_call 34; obtain ⟨-, -, -, -, -, -, -, -, -, HWc⟩ := (by assumption : _ ∧ _ ∧ _ ∧ _ ∧ _ ∧ _ ∧ _ ∧ _ ∧ _ ∧ Hid (Below wr.heap.size wr _)); refine (g.out _).mono ?_; rintro e w' ⟨rfl, hb'⟩; have S1 := CEL.out w' (HWc.out.trans (hb'.mono HWc.out.size)); clear hb')
                | (go_at_call 35; obtain ⟨-, -, -, -, -, -, -, -, -, HWc⟩ := (by assumption : _ ∧ _ ∧ _ ∧ _ ∧ _ ∧ _ ∧ _ ∧ _ ∧ _ ∧ Hid (Below wr.heap.size wr _)); refine (my.out _ (HBW.out _ HWc.out)).mono ?_; rintro e w' ⟨rfl, hb'⟩; have S2 := CEL.out w' (HWc.out.trans (hb'.mono HWc.out.size)); clear hb'))
              obtain ⟨-, -, -, -, -, -, -, -, -, HWf⟩ := (by assumption : _ ∧ _ ∧ _ ∧ _ ∧ _ ∧ _ ∧ _ ∧ _ ∧ _ ∧ Hid (Below wr.heap.size wr _))
              have HBZ := Lib.hid (HBN.out _ HWf.out)
              go_wp2_with fail
              go_roundw
              case rel => exact ⟨d + 1, by omega, by go_num, HN, HBZ⟩
              case measure => simp [intOf]; omega
            | false =>
              have hRf : R = false := bad (by rw [cl]; rfl)
              subst hRf
              clear cl bad HANEXT
              go_wp2_with fail
              go_region_held3 (fun w' => w'.cell? ⟨w.heap.size, 0, none⟩ = some (.int .i64 (n : Int)) ∧ w'.cell? ⟨w.heap.size, 1, none⟩ = some (.bool ring) ∧ w'.cell? ⟨w.heap.size, 2, none⟩ = some (.slice p m cap) ∧ w'.cell? ⟨w.heap.size + 1, 0, none⟩ = some (.int .i64 (nk : Int)) ∧ w'.cell? ⟨w.heap.size + 1, 1, none⟩ = some (.slice q m2 c) ∧ w'.cell? ⟨fb, fo + a, none⟩ = some (.int .i64 (x : Int)) ∧ w'.cell? ⟨fb, fo + d, none⟩ = some (.int .i64 (y : Int)) ∧ w'.cell? ⟨kb, ko + a, none⟩ = some (.int .i64 (k1 : Int)) ∧ w'.cell? ⟨kb, ko + d, none⟩ = some (.int .i64 (k2 : Int)) ∧ Hid (Below wr.heap.size wr w')) ((first | exact S0 | exact S1 | exact S2)) (first
                | (go_at_call 34; obtain ⟨-, -, -, -, -, -, -, -, -, HWc⟩ := (by assumption : _ ∧ _ ∧ _ ∧ _ ∧ _ ∧ _ ∧ _ ∧ _ ∧ _ ∧ Hid (Below wr.heap.size wr _)); refine (g.out _).mono ?_; rintro e w' ⟨rfl, hb'⟩; have S1 := CEL.out w' (HWc.out.trans (hb'.mono HWc.out.size)); clear hb')
                | (go_at_call 35; obtain ⟨-, -, -, -, -, -, -, -, -, HWc⟩ := (by assumption : _ ∧ _ ∧ _ ∧ _ ∧ _ ∧ _ ∧ _ ∧ _ ∧ _ ∧ Hid (Below wr.heap.size wr _)); refine (my.out _ (HBW.out _ HWc.out)).mono ?_; rintro e w' ⟨rfl, hb'⟩; have S2 := CEL.out w' (HWc.out.trans (hb'.mono HWc.out.size)); clear hb'))
              obtain ⟨-, -, -, -, -, -, -, -, -, HWf⟩ := (by assumption : _ ∧ _ ∧ _ ∧ _ ∧ _ ∧ _ ∧ _ ∧ _ ∧ _ ∧ Hid (Below wr.heap.size wr _))
              have HBZ := Lib.hid (HBW.out _ HWf.out)
              go_wp2_with fail
              go_ret2
              exact ⟨rfl, HBZ.out⟩
          · have HN := Lib.hid (HANEXT.out (by rw [cl, decide_eq_false hg1]; rfl))
            have hg1i : ¬ (gv : Int) = 1 := by omega
            clear cl bad HANEXT my
            have hgf : ((gv : Int) == 1) = false := by simp; omega
            obtain ⟨c0, c1, c2, d0, d1, f1, f2, n1, n2, -⟩ := S0
            clear d0 d1 n1 n2
            replace hgf := Lib.hid hgf
            go_wp2_with fail
            go_region_with (go_at_call 34; refine (g.out _).mono ?_; rintro e w' ⟨rfl, hb'⟩; have HWZ := Lib.hid (HBN.out w' ((Below.refl _ wr).drew.trans hb')); clear hb'; go_wp2_with fail; refine take_at8 (i := 10) (d := 39) (v := .bool ((gv : Int) == 1)) rfl (by kernel_rfl) (by kernel_rfl) (by kernel_rfl) (by kernel_rfl) (fun _ _ _ h => h) (Or.inl ⟨by kernel_rfl, fun _ => rfl⟩) ?_; simp only [hgf.out]; refine take_at8 (i := 11) (d := 40) (v := .bool false) rfl (by kernel_rfl) (by kernel_rfl) (by kernel_rfl) (by kernel_rfl) (fun _ _ _ h => h) (Or.inl ⟨by kernel_rfl, fun _ => rfl⟩) ?_; refine take_at8 (i := 12) (d := 41) (v := undef) rfl (by kernel_rfl) (by kernel_rfl) (by kernel_rfl) (by kernel_rfl) (fun _ _ _ h => h) (Or.inr ⟨by kernel_rfl, rfl⟩) ?_; refine take_at8 (i := 13) (d := 42) (v := undef) rfl (by kernel_rfl) (by kernel_rfl) (by kernel_rfl) (by kernel_rfl) (fun _ _ _ h => h) (Or.inr ⟨by kernel_rfl, rfl⟩) ?_; refine take_at8 (i := 14) (d := 43) (v := undef) rfl (by kernel_rfl) (by kernel_rfl) (by kernel_rfl) (by kernel_rfl) (fun _ _ _ h => h) (Or.inr ⟨by kernel_rfl, rfl⟩) ?_; refine take_at8 (i := 15) (d := 44) (v := undef) rfl (by kernel_rfl) (by kernel_rfl) (by kernel_rfl) (by kernel_rfl) (fun _ _ _ h => h) (Or.inr ⟨by kernel_rfl, rfl⟩) ?_; refine take_at8 (i := 16) (d := 45) (v := undef) rfl (by kernel_rfl) (by kernel_rfl) (by kernel_rfl) (by kernel_rfl) (fun _ _ _ h => h) (Or.inr ⟨by kernel_rfl, rfl⟩) ?_; refine take_at8 (i := 17) (d := 46) (v := undef) rfl (by kernel_rfl) (by kernel_rfl) (by kernel_rfl) (by kernel_rfl) (fun _ _ _ h => h) (Or.inr ⟨by kernel_rfl, rfl⟩) ?_; refine take_at8 (i := 18) (d := 47) (v := undef) rfl (by kernel_rfl) (by kernel_rfl) (by kernel_rfl) (by kernel_rfl) (fun _ _ _ h => h) (Or.inr ⟨by kernel_rfl, rfl⟩) ?_; refine take_at8 (i := 19) (d := 48) (v := undef) rfl (by kernel_rfl) (by kernel_rfl) (by kernel_rfl) (by kernel_rfl) (fun _ _ _ h => h) (Or.inr ⟨by kernel_rfl, rfl⟩) ?_; refine take_at8 (i := 20) (d := 49) (v := undef) rfl (by kernel_rfl) (by kernel_rfl) (by kernel_rfl) (by kernel_rfl) (fun _ _ _ h => h) (Or.inr ⟨by kernel_rfl, rfl⟩) ?_; refine take_at8 (i := 21) (d := 50) (v := undef) rfl (by kernel_rfl) (by kernel_rfl) (by kernel_rfl) (by kernel_rfl) (fun _ _ _ h => h) (Or.inr ⟨by kernel_rfl, rfl⟩) ?_; refine take_at8 (i := 22) (d := 51) (v := undef) rfl (by kernel_rfl) (by kernel_rfl) (by kernel_rfl) (by kernel_rfl) (fun _ _ _ h => h) (Or.inr ⟨by kernel_rfl, rfl⟩) ?_; simp only [Act.put, List.setIfInBounds_toArray, List.set_cons_zero, List.set_cons_succ])
            all_goals
              go_wp2_with fail
              go_roundw
              case rel => exact ⟨d + 1, by omega, by go_num, HN, HWZ⟩
              case measure => simp [intOf]; omega
        · have hda : d = a := by omega
          subst hda
          have hno : ¬ (d : Int) < (d : Int) := by omega
          have HA2 : Hid (∀ i', i' < d + 1 → ∀ j', j' < i' → C i' j' = false) := by
            show ∀ _, _
            intro c hc
            by_cases e : c = d
            · subst e; exact HD.out
            · exact HA.out c (by omega)
          go_wp2_with fail
          go_roundw
          case rel => exact ⟨d + 1, by omega, by go_num, HA2, HB3⟩
          case measure => simp [intOf]; omega
    · have haF : a = F := by omega
      subst haF
      have hno : ¬ (a : Int) < (a : Int) := by omega
      have hRt : R = true := HT.out HA.out
      subst hRt
      have HBZ := Lib.hid (HE2.out.bel.trans (HB.out.mono HE2.out.bel.size))
      go_wp2_with fail
      go_ret2
      exact ⟨rfl, HBZ.out⟩
end Go.Proofs.Ytlknghghefiokaa
