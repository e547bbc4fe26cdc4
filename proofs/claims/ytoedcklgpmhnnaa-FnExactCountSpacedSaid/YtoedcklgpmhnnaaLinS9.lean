/- Chapter 9, spec side: spec.l9Line. -/
import Derived.Test.YtoedcklgpmhnnaaLinM9
import Derived.Test.YtoedcklgpmhnnaaOutS9
import Derived.Test.YtoedcklgpmhnnaaLLs
import Derived.Test.YtoedcklgpmhnnaaMarks
import Derived.Test.YtoedcklgpmhnnaaOwnL
import Derived.Deep.RegionHeld3
import Derived.Deep.DeepCutAuto
namespace Go.Proofs.Ytoedcklgpmhnnaa
open Go.RowKit

theorem LL.of_nil {w : World} {g B : Nat} (h : OwnArr w g 22 []) (hB : B ≤ g) : LL B B w (.slice (some ⟨g, 0, none⟩) 0 0) [] :=
  ⟨g, 0, [], rfl, ⟨rfl, .inr ⟨g, 0, #[], rfl, hB, h, Nat.le_refl _, by unfold maxLen; omega, rfl, rfl⟩⟩, h.lt, fun i x hx => by simp at hx⟩
/-- the rows of the first t seats from a on -/
def linT (D : Nat) (O : Nat → Bool) (a t : Nat) : List (List Int) := (List.range t).map fun i => ints (crow D (rngL O a (a + i + 1)))
theorem linT_len (D : Nat) (O : Nat → Bool) (a t : Nat) : (linT D O a t).length = t := by unfold linT; simp
theorem linT_get {D : Nat} {O : Nat → Bool} {a t i : Nat} (h : i < t) : (linT D O a t)[i]? = some (ints (crow D (rngL O a (a + i + 1)))) := by unfold linT; simp [h]
theorem linT_next (D : Nat) (O : Nat → Bool) (a t : Nat) : linT D O a (t + 1) = linT D O a t ++ [ints (crow D (rngL O a (a + t + 1)))] := by
  unfold linT
  rw [List.range_succ, List.map_append]; rfl
theorem iv_get9 {l : List Nat} {i : Nat} (h : i < l.length) : (iv (ints l))[i]? = some (.int .i64 ((l[i]?.getD 0 : Nat) : Int)) := by
  unfold iv ints
  simp [h]
theorem lit_ll {w : World} {g c : Nat} : (∀ j u, [Value.slice (some ⟨g, 0, none⟩) 25 c][j]? = some u → (w.alloc (.cells #[.slice (some ⟨g, 0, none⟩) 25 c] 22)).cell? ((⟨w.heap.size, 0, none⟩ : Addr).add j) = some u) ∧ (∀ u ∈ [Value.slice (some ⟨g, 0, none⟩) 25 c], u.oneCell' = true) := by
  refine ⟨fun j u hu => ?_, fun u hu => ?_⟩
  · have ho : OwnArr (w.alloc (.cells #[.slice (some ⟨g, 0, none⟩) 25 c] 22)) w.heap.size 22 [.slice (some ⟨g, 0, none⟩) 25 c] := OwnArr.made w _ [_]
    rw [Addr.add_lit, Nat.zero_add, ho.cell j]
    exact hu
  · rw [List.mem_singleton] at hu
    subst hu; rfl
theorem ints_set9 (l : List Nat) (k z : Nat) : (ints l).set k (z : Int) = ints (l.set k z) := by
  unfold ints; rw [List.map_set]
theorem cell_set9 {w : World} {g gb k i : Nat} {v : Value} (h : ¬ g = gb) : (w.setCell ⟨g, k, none⟩ v).cell? ⟨gb, i, none⟩ = w.cell? ⟨gb, i, none⟩ :=
  World.cell?_of_block (a := ⟨gb, i, none⟩) (Below.heap_setCell _ _ _ _ (by show gb ≠ g; exact fun e => h e.symm))
/-- the cells of a row of counts -/
theorem out_cells9 {B : Nat} {w : World} {g n c d : Nat} {l : List Nat} (h : Out B w (.slice (some ⟨g, 0, none⟩) n c) (ints (crow d l))) : ∀ i, i < 25 → w.cell? ⟨g, i, none⟩ = some (.int .i64 ((chl d i l : Nat) : Int)) := by
  intro i hi
  have := (h.at9 (i := i) (by rw [ints_length, crow_len]; exact hi)).1
  rw [ints_get (by rw [crow_len]; exact hi), crow_get hi] at this
  exact this

set_option maxRecDepth 4000 in
set_option maxHeartbeats 2000000 in
theorem l9Line_any (n a e D : Nat) (O : Nat → Bool) (q : Option Addr) (cap : Nat) (w : World) (lo hi : Nat) (hR : Rd lo hi w q (bv (bl n O))) (he : e < n) (hn : n ≤ 24) (ha : a ≤ 48) (hD : 1 ≤ D) (hD2 : D ≤ 24) :
    Calls Try.prog 64 #[.slice q n cap, .int .i64 (a : Int), .int .i64 (e : Int), .int .i64 (D : Int)] w fun ex w' => ∃ g c, ex = .returned (.slice (some ⟨g, 0, none⟩) 25 c) ∧ Out w.heap.size w' (.slice (some ⟨g, 0, none⟩) 25 c) (ints (crow D (rngL O a (e + 1)))) ∧ Below w.heap.size w w' := by
  obtain ⟨i0, hi0, hz0, hz1, hz2⟩ := info_parts infoSl7
  obtain ⟨ob, oo, rfl, -⟩ := hR.cells (by rw [bv_length, bl_length]; omega)
  have HC : Hid (∀ (w' : World), Below w.heap.size w w' → ∀ i, i < n → w'.cell? ⟨ob, oo + i, none⟩ = some (.bool (O i))) := by
    show ∀ _, _
    intro w' h' i hi'
    obtain ⟨b2, o2, e2, -, -, hc⟩ := (hR.below h' hR.top).cells (by rw [bv_length, bl_length]; omega)
    simp only [Option.some.injEq, Addr.mk.injEq, and_true] at e2
    obtain ⟨rfl, rfl⟩ := e2
    rw [hc i (by rw [bv_length, bl_length]; exact hi'), bv_get (by rw [bl_length]; exact hi'), bl_getD hi']
  have hT0 : OwnArr ((w.alloc (.cells #[] 22)).alloc (.cells (List.replicate 25 (Value.int .i64 0)).toArray 3)) w.heap.size 22 [] := (OwnArr.made w 22 []).alloc _
  have hZ0 : OwnArr ((w.alloc (.cells #[] 22)).alloc (.cells (List.replicate 25 (Value.int .i64 0)).toArray 3)) (w.heap.size + 1) 3 (List.replicate 25 (Value.int .i64 0)) := by
    have := OwnArr.made (w.alloc (.cells #[] 22)) 3 (List.replicate 25 (Value.int .i64 0))
    simpa using this
  have hcell0 : ((w.alloc (.cells #[] 22)).alloc (.cells (List.replicate 25 (Value.int .i64 0)).toArray 3)).cell? ⟨w.heap.size + 1, 0, none⟩ = some (.int .i64 0) := hZ0.cell 0
  have hfree0 := hZ0.free 0
  have hB0 : Below w.heap.size w ((w.alloc (.cells #[] 22)).alloc (.cells (List.replicate 25 (Value.int .i64 0)).toArray 3)) := ((Below.refl _ _).alloc (Nat.le_refl _) _).alloc (by simp) _
  obtain ⟨w1, hw1⟩ : ∃ w1, w1 = (w.alloc (.cells #[] 22)).alloc (.cells (List.replicate 25 (Value.int .i64 0)).toArray 3) := ⟨_, rfl⟩
  rw [← hw1] at hT0 hZ0 hcell0 hfree0 hB0
  have hsz : (w.alloc (.cells #[] 22)).heap.size = w.heap.size + 1 := by simp
  have hmk := @run_make_row' Try.prog 22 3 (.int .i64 0) 8 Try.underlying22 infoInt rfl .i64 .i64 25 (by omega) (by omega) (w.alloc (.cells #[] 22))
  rw [madeCells_one, ← hw1, hsz, show ((25 : Nat) : Int) = 25 from rfl] at hmk
  have hset := hZ0.set 0 (.int .i64 1)
  have HZ1 : Hid (OwnArr (w1.setCell ⟨w.heap.size + 1, 0, none⟩ (.int .i64 1)) (w.heap.size + 1) 3 (iv (ints (crow D [])))) := hset
  have hT1 := hT0.below (((Below.refl (w.heap.size + 1) w1).setCell (p := ⟨w.heap.size + 1, 0, none⟩) (Nat.le_refl _) (.int .i64 1))) (Nat.lt_succ_self _)
  have HT1 : Hid (LL w.heap.size w.heap.size (w1.setCell ⟨w.heap.size + 1, 0, none⟩ (.int .i64 1)) (.slice (some ⟨w.heap.size, 0, none⟩) 0 0) (linT D O a (a - a))) := by
    show LL _ _ _ _ _
    rw [Nat.sub_self]
    exact LL.of_nil hT1 (Nat.le_refl _)
  have HB1 := Lib.hid (hB0.setCell (p := ⟨w.heap.size + 1, 0, none⟩) (by show w.heap.size ≤ w.heap.size + 1; omega) (.int .i64 1))
  have HNE1 : Hid (¬ (Value.slice (some ⟨w.heap.size, 0, none⟩) 0 0).ownBlock = some (w.heap.size + 1)) := by
    show ¬ _
    simp [Value.ownBlock]
  clear hR hset hT1 hT0 hZ0 hB0 hw1 hsz
  go_enter Try.func64, Try.ntmps64
  go_wp2_with fail
  clear hmk hcell0 hfree0
  have HSH := Lib.hid (fun (w' : World) (h' : Below w.heap.size w w') => h'.size)
  go_loopw [9, 11, 12, 13, 14] (fun v pv _ _ _ wr => ∃ (p : Nat), a ≤ p ∧ (p ≤ e + 1 ∨ p ≤ a) ∧ pv = .int .i64 (p : Int) ∧ Hid (LL w.heap.size w.heap.size wr v (linT D O a (p - a))) ∧ Hid (¬ v.ownBlock = some (w.heap.size + 1)) ∧ Hid (OwnArr wr (w.heap.size + 1) 3 (iv (ints (crow D [])))) ∧ Hid (Below w.heap.size w wr)) (fun _ pv _ _ _ _ => e + 1 - (intOf pv).toNat)
  case atStart => exact ⟨a, Nat.le_refl _, .inr (Nat.le_refl _), rfl, HT1, HNE1, HZ1, HB1⟩
  case round =>
    obtain ⟨p, hp1, hp2, rfl, HT, HNE, HZ, HB⟩ := hrel
    clear HT1 HNE1 HZ1 HB1
    obtain ⟨t, ht⟩ : ∃ t, p - a = t := ⟨_, rfl⟩
    have hpt : (p : Int) - (a : Int) = (t : Int) := by omega
    have hwt : IntKind.i64.wrap (t : Int) = (t : Int) := IntWalk.i64_in _ (by omega)
    rw [ht] at HT
    obtain ⟨gT, cT, vsT, eT, -, -, -, -, hgT⟩ := HT.out.parts
    rw [linT_len] at eT
    subst eT
    have HGT := Lib.hid hgT
    clear hgT
    by_cases hlt : p ≤ e
    · have hle : (p : Int) ≤ (e : Int) := by omega
      have HPA := Lib.hid (show p = a + t by omega)
      have Z1 := l1Own_any (some ⟨w.heap.size + 1, 0, none⟩) 25 (ints (crow D [])) wr 0 wr.heap.size (by have h5 := Rd.of_own HZ.out (Nat.zero_le _) HZ.out.lt (Nat.le_refl _) 25; exact h5) (by rw [ints_length, crow_len]; omega)
      have Z2 : Hid (∀ w', Below wr.heap.size wr w' → Calls Try.prog 80 #[.slice (some ⟨w.heap.size + 1, 0, none⟩) 25 25] w' fun e w'' => ∃ g c, e = .returned (.slice (some ⟨g, 0, none⟩) 25 c) ∧ w'.heap.size ≤ g ∧ 25 ≤ c ∧ c ≤ maxLen ∧ Out w'.heap.size w'' (.slice (some ⟨g, 0, none⟩) 25 c) (ints (crow D [])) ∧ Below w'.heap.size w' w'') := by
        show ∀ _, _
        intro w' h'
        have := l1Own_any (some ⟨w.heap.size + 1, 0, none⟩) 25 (ints (crow D [])) w' 0 w'.heap.size (by have h5 := HZ.out.below h' HZ.out.lt; exact Rd.of_own h5 (Nat.zero_le _) h5.lt (Nat.le_refl _) 25) (by rw [ints_length, crow_len]; omega)
        rw [show (ints (crow D [])).length = 25 by rw [ints_length, crow_len]] at this
        exact this
      have Z0 := Lib.hid (Z2.out wr (Below.refl _ _))
      obtain ⟨b, hb⟩ : ∃ b, O p = b := ⟨_, rfl⟩
      clear Z1 hp2
      go_wp2_with fail
      refine Z0.out.mono ?_
      rintro ex w2 ⟨g1, c1, rfl, -, -, -, hO1, hb2⟩
      have HO1 := Lib.hid hO1
      have HB2 := Lib.hid hb2
      clear hO1 hb2 Z0
      go_wp2_with fail
      refine (Z2.out _ HB2.out).mono ?_
      rintro ex w3 ⟨g2, c2, rfl, -, -, -, hO2, hb3⟩
      have HO3 := Lib.hid (HO1.out.below hb3)
      have HO2 := Lib.hid (hO2.mono HB2.out.size)
      have HN2 : Hid (¬ g1 = g2) := by
        show ¬ _
        have h1 := HO1.out.in9.2.1
        have h2 := hO2.in9.1
        omega
      have HB3 := Lib.hid (HB2.out.trans (hb3.mono HB2.out.size))
      clear hO2 hb3 HO1 HB2 Z2
      go_upto_if 31 with fail
      go_cut [12] (fun v wx => ∃ g c, v = .slice (some ⟨g, 0, none⟩) 25 c ∧ Hid (Out wr.heap.size wx (.slice (some ⟨g, 0, none⟩) 25 c) (ints (crow D (rngL O a p)))) ∧ Hid (Out wr.heap.size wx (.slice (some ⟨g2, 0, none⟩) 25 c2) (ints (crow D []))) ∧ Hid (¬ g = g2) ∧ Hid (Below wr.heap.size wr wx))
      case first =>
        by_cases ht0 : t = 0
        · have hpa : ¬ (a : Int) < (p : Int) := by have := HPA.out; omega
          have HR0 : Hid (Out wr.heap.size w3 (.slice (some ⟨g1, 0, none⟩) 25 c1) (ints (crow D (rngL O a p)))) := by
            show Out _ _ _ _
            rw [rngL_empty (by have := HPA.out; omega)]
            exact HO3.out
          clear HO3 ht0
          go_wp2_with fail
          go_meet
          exact ⟨_, _, rfl, HR0, HO2, HN2, HB3⟩
        · have hpa : (a : Int) < (p : Int) := by have := HPA.out; omega
          obtain ⟨t1, ht1⟩ : ∃ t1, t - 1 = t1 := ⟨_, rfl⟩
          have hti : (t : Int) - 1 = (t1 : Int) := by omega
          have hwt1 : IntKind.i64.wrap (t1 : Int) = (t1 : Int) := IntWalk.i64_in _ (by omega)
          have h10 : (0 : Int) ≤ (t1 : Int) := by omega
          have h1t : (t1 : Int) < (t : Int) := by omega
          obtain ⟨gx, cx, u, ex, hcx, ⟨bx, cy, rfl, hcy1, hcy2⟩, hox⟩ := (HT.out.below HB3.out).cell (linT_get (i := t1) (by omega))
          rw [linT_len] at ex
          simp only [Value.slice.injEq, Option.some.injEq, Addr.mk.injEq, and_true, true_and] at ex
          obtain ⟨rfl, rfl⟩ := ex
          have hpe : a + t1 + 1 = p := by have := HPA.out; omega
          rw [hpe] at hcx hox hcy1
          have hl25 : (ints (crow D (rngL O a p))).length = 25 := by rw [ints_length, crow_len]
          obtain ⟨px, cxx, exx, -, -, hrx, -⟩ := hox.rd
          simp only [Value.slice.injEq, Option.some.injEq, Addr.mk.injEq, and_true, true_and] at exx
          obtain ⟨rfl, rfl⟩ := exx
          have C3 := l1Own_any _ cy _ w3 _ _ hrx (by omega)
          rw [hl25] at hcx C3
          replace C3 := Lib.hid C3
          clear hox hrx hl25 hcy1 hcy2 hpe ht1
          go_wp2_with fail
          refine C3.out.mono ?_
          rintro ex w4 ⟨g3, c3, rfl, hg3, -, -, hO4, hb4⟩
          have HO4 := Lib.hid (hO4.mono HB3.out.size)
          have HO5 := Lib.hid (HO2.out.below hb4)
          have HN5 : Hid (¬ g3 = g2) := by
            show ¬ _
            have := HO2.out.in9.2.1
            omega
          have HB4 := Lib.hid (HB3.out.trans (hb4.mono HB3.out.size))
          clear hO4 hb4 C3 hcx hg3
          go_wp2_with fail
          go_meet
          exact ⟨_, _, rfl, HO4, HO5, HN5, HB4⟩
      case rest =>
        obtain ⟨g, c, rfl, HRW0, HBE0, HN0, HB5⟩ := hcut
        clear HO3 HO2 HN2 HB3
        obtain ⟨Bq, hBq⟩ : ∃ Bq, (rngL O a p).filter (fun q => decide (q + D ≤ p)) = Bq := ⟨_, rfl⟩
        go_upto_if 44 with fail
        go_cut [13] (fun v wx => ∃ gb cb, v = .slice (some ⟨gb, 0, none⟩) 25 cb ∧ Hid (∀ i, i < 25 → wx.cell? ⟨gb, i, none⟩ = some (.int .i64 ((chl D i Bq : Nat) : Int))) ∧ Hid (¬ g = gb) ∧ Hid (Out wr.heap.size wx (.slice (some ⟨g, 0, none⟩) 25 c) (ints (crow D (rngL O a p)))) ∧ Hid (Below wr.heap.size wr wx))
        case first =>
          by_cases hd : a + D ≤ p
          · have hBe : Bq = rngL O a (p - D + 1) := by rw [← hBq]; exact rngL_filter hD hd
            obtain ⟨x, hx⟩ : ∃ x, p - D = x := ⟨_, rfl⟩
            have hxi : (p : Int) - (D : Int) = (x : Int) := by omega
            have hwx : IntKind.i64.wrap (x : Int) = (x : Int) := IntWalk.i64_in _ (by omega)
            have hge : (a : Int) ≤ (x : Int) := by omega
            obtain ⟨t2, ht2⟩ : ∃ t2, t - D = t2 := ⟨_, rfl⟩
            have hpa := HPA.out
            have hti : (t : Int) - (D : Int) = (t2 : Int) := by omega
            have hwt2 : IntKind.i64.wrap (t2 : Int) = (t2 : Int) := IntWalk.i64_in _ (by omega)
            have h10 : (0 : Int) ≤ (t2 : Int) := by omega
            have h1t : (t2 : Int) < (t : Int) := by omega
            obtain ⟨gx, cx, u, ex, hcx, ⟨bx, cy, rfl, hcy1, hcy2⟩, hox⟩ := (HT.out.below HB5.out).cell (linT_get (i := t2) (by omega))
            rw [linT_len] at ex
            simp only [Value.slice.injEq, Option.some.injEq, Addr.mk.injEq, and_true, true_and] at ex
            obtain ⟨rfl, rfl⟩ := ex
            have hpe : a + t2 + 1 = p - D + 1 := by omega
            rw [hpe, ← hBe] at hcx hox
            have hl25 : (ints (crow D Bq)).length = 25 := by rw [ints_length, crow_len]
            rw [hl25] at hcx hox
            have HCE : Hid (∀ i, i < 25 → wc.cell? ⟨bx, i, none⟩ = some (.int .i64 ((chl D i Bq : Nat) : Int))) := out_cells9 hox
            have HNG : Hid (¬ g = bx) := by
              show ¬ _
              intro e5
              have h1 := HRW0.out.in9.1
              obtain ⟨gx2, cx2, u2, ex2, hcx2, ⟨bx2, cy2, eu, -, -⟩, hox2⟩ := HT.out.cell (linT_get (i := t2) (by omega))
              rw [linT_len] at ex2
              simp only [Value.slice.injEq, Option.some.injEq, Addr.mk.injEq, and_true, true_and] at ex2
              obtain ⟨rfl, rfl⟩ := ex2
              have h3 := HB5.out.cell (p := ⟨gT, t2, none⟩) HGT.out
              rw [hcx, hcx2, eu] at h3
              simp only [Option.some.injEq, Value.slice.injEq, Addr.mk.injEq, and_true] at h3
              rw [eu] at hox2
              have h2 := hox2.in9.2.1
              omega
            clear hox hl25 hcy1 hcy2 hpe ht2 hBe hx hBq hpa
            go_wp2_with fail
            go_meet
            exact ⟨_, _, rfl, HCE, HNG, HRW0, HB5⟩
          · obtain ⟨X, hX⟩ : ∃ X, (p : Int) - (D : Int) = X := ⟨_, rfl⟩
            have hwX : IntKind.i64.wrap X = X := IntWalk.i64_in _ (by omega)
            have hge : ¬ (a : Int) ≤ X := by omega
            have hBe : Bq = [] := by rw [← hBq]; exact rngL_filter0 (by omega)
            have HCE : Hid (∀ i, i < 25 → wc.cell? ⟨g2, i, none⟩ = some (.int .i64 ((chl D i Bq : Nat) : Int))) := by
              show ∀ _, _
              rw [hBe]
              exact out_cells9 HBE0.out
            clear hBe hBq hd
            go_wp2_with fail
            go_meet
            exact ⟨_, _, rfl, HCE, HN0, HRW0, HB5⟩
        case rest =>
          obtain ⟨gb, cb, rfl, HCB, HNB, HRW, HB6⟩ := hcut
          clear HRW0 HBE0 HN0 HB5
          obtain ⟨wo, hwo⟩ : ∃ wo, wo = wr := ⟨_, rfl⟩
          subst hwo
          obtain ⟨L, hL⟩ : ∃ L, rngL O a p = L := ⟨_, rfl⟩
          have hlb : ∀ i, chl D i L ≤ 16777216 := by intro i; rw [← hL]; exact chl_bound (by omega)
          have hqb : ∀ i, chl D i Bq ≤ 16777216 := by
            intro i
            rw [← hBq]
            by_cases hd : a + D ≤ p
            · rw [rngL_filter hD hd]; exact chl_bound (by omega)
            · rw [rngL_filter0 (by omega)]
              exact Nat.le_trans (chl_le D i []) (by decide)
          have HNX1 : Hid (b = true → mixR (fun k => chl D k L) (fun k => chl D k Bq) 25 = crow D (rngL O a (p + 1))) := by
            show _ → _
            intro h
            rw [← hL]
            exact crow_next hD hp1 (by rw [hb, h]) hBq
          have HNX0 : Hid (b = false → mixR (fun k => chl D k L) (fun k => chl D k Bq) 1 = crow D (rngL O a (p + 1))) := by
            show _ → _
            intro h
            rw [mixR_one, rngL_no (by rw [hb, h]), hL]; rfl
          have HLT : Hid (linT D O a (t + 1) = linT D O a t ++ [ints (crow D (rngL O a (p + 1)))]) := by
            show _ = _
            rw [linT_next, ← HPA.out]
          have HLN := Lib.hid (linT_len D O a t)
          have HR0 : Hid (Out wo.heap.size wc (.slice (some ⟨g, 0, none⟩) 25 c) (ints (mixR (fun k => chl D k L) (fun k => chl D k Bq) 1))) := by
            show Out _ _ _ _
            rw [mixR_one, ← hL]
            exact HRW.out
          obtain ⟨f1, hf1⟩ : ∃ f : Nat → Nat, (fun k => chl D k L) = f := ⟨_, rfl⟩
          obtain ⟨f2, hf2⟩ : ∃ f : Nat → Nat, (fun k => chl D k Bq) = f := ⟨_, rfl⟩
          have hg1 : ∀ k, chl D k L = f1 k := fun k => by rw [← hf1]
          have hg2 : ∀ k, chl D k Bq = f2 k := fun k => by rw [← hf2]
          rw [hf1, hf2] at HNX1 HNX0 HR0
          simp only [hg1] at hlb
          simp only [hg2] at hqb HCB
          have HLB := Lib.hid hlb
          have HQB := Lib.hid hqb
          obtain ⟨R1, hR1⟩ : ∃ R, crow D (rngL O a (p + 1)) = R := ⟨_, rfl⟩
          rw [hR1] at HNX1 HNX0 HLT
          have HRL : Hid (R1.length = 25) := by show _ = _; rw [← hR1]; exact crow_len _ _
          have HCO := Lib.hid (fun w' (h' : Below wo.heap.size wo w') => HC.out w' (HB.out.trans (h'.mono HB.out.size)) p (by omega))
          rw [hb] at HCO
          have hpi : (p : Int) < (n : Int) := by omega
          have HP1 : Hid (p + 1 - a = t + 1) := by show _ = _; omega
          clear HRW hlb hqb hg1 hg2 hf1 hf2 hR1 hL hBq hb HPA
          cases b with
          | false =>
            have hcc := HCO.out wc HB6.out
            have HRW5 := HR0
            rw [HNX0.out rfl] at HRW5
            have HB5 := HB6
            clear HR0 HNX0 HNX1 HB6 HCB HNB HLB HQB
            go_wp2_with fail
            go_loopw [14] (fun v wx => v = .int .i64 1 ∧ wc = wx) (fun _ _ => 0)
            case atStart => exact ⟨rfl, rfl⟩
            case round =>
              obtain ⟨rfl, rfl⟩ := hrel
              have hs5 := HB5.out.size
              have hL5 := HT.out.below HB5.out
              have hla := hL5.below ((Below.refl wc.heap.size wc).alloc (Nat.le_refl _) (.cells #[.slice (some ⟨g, 0, none⟩) 25 c] 22))
              have hone := LL.one (w := wc) (B := wo.heap.size) (u := .slice (some ⟨g, 0, none⟩) 25 c) ⟨g, c, by rw [ints_length, HRL.out], HRW5.out.in9.2.1⟩ HRW5.out
              have hba := HB5.out.alloc hs5 (.cells #[.slice (some ⟨g, 0, none⟩) 25 c] 22)
              obtain ⟨gL, cL, vsL, eL, oL, lL, -, -, hgL⟩ := hla.parts
              have oR : (wc.alloc (.cells #[.slice (some ⟨g, 0, none⟩) 25 c] 22)).ownsRow wc.heap.size 22 1 (.slice (some ⟨wc.heap.size, 0, none⟩) 1 1) [ints R1].length [.slice (some ⟨g, 0, none⟩) 25 c] := own_lit [_] 1 1 rfl (by unfold maxLen; omega)
              have hgT := HGT.out
              have hsep : ∀ x, (Value.slice (some ⟨gT, 0, none⟩) t cT).ownBlock = some x → x < wo.heap.size := by
                intro x hx
                simp [Value.ownBlock] at hx
                omega
              have HJ := Lib.hid (fun (v6 : Value) (w6 : World) hg6 ho6 hn6 hat6 => LL.join (v' := v6) (w' := w6) hla hone (Nat.le_trans (by omega) HB.out.size) hsep hg6 oL oR ho6 hn6 hat6)
              rw [HLN.out, ← HLT.out] at HJ
              have HZa := Lib.hid ((HZ.out.below HB5.out HZ.out.lt).alloc (.cells #[.slice (some ⟨g, 0, none⟩) 25 c] 22))
              have HBa := Lib.hid hba
              have hsa : (wc.alloc (.cells #[.slice (some ⟨g, 0, none⟩) 25 c] 22)).heap.size = wc.heap.size + 1 := by simp
              rw [HLN.out] at oL lL
              have hSW := HB.out.size
              have HOK := Lib.hid (lit_ll (w := wc) (g := g) (c := c))
              clear hla hone hba eL oR hL5 hgL HT HB5 HRW5
              go_wp2_with (at_builtin; refine wpList_append_own_at _ rfl _ _ 87 rfl w.heap.size 22 i0 (.slice none 0 0) 1 24 Try.underlying87 hi0 hz0 hz1 hz2 rfl (by decide) _ _ _ rfl oL ⟨wc.heap.size, 0, none⟩ 1 1 [.slice (some ⟨g, 0, none⟩) 25 c] rfl rfl HOK.out.1 HOK.out.2 (by unfold maxLen; omega) (by omega) (by simp; omega) ?_; intro v6 w6 ho6 hg6 hnil6 hat6)
              have HL6 := Lib.hid (HJ.out v6 w6 hg6 ho6 (fun e => absurd (hnil6.1 e).1 (by intro e; cases e)) hat6)
              have HBw := Lib.hid ((HB.out.trans (HBa.out.mono hSW)).grown hg6 (by omega) (own_block oL))
              have HZ6 := Lib.hid (HZa.out.grown hg6 HNE.out)
              have HN6 : Hid (¬ v6.ownBlock = some (w.heap.size + 1)) := by
                show ¬ _
                rcases hat6 with h | h
                · rw [h]; exact HNE.out
                · rw [h]; simp; have := HZa.out.lt; omega
              clear HJ ho6 hg6 hnil6 hat6 oL HBa HZa HB HZ HOK
              go_wp2_with fail
              go_roundw
              case rel => exact ⟨p + 1, by omega, by omega, by go_num, by rw [HP1.out]; exact HL6, HN6, HZ6, HBw⟩
              case measure => simp [intOf]; omega
          | true =>
            have HN25 := Lib.hid (HNX1.out rfl)
            clear HNX0 HNX1
            go_wp2_with fail
            go_loopw [14] (fun v wx => ∃ (k : Nat), 1 ≤ k ∧ k ≤ 25 ∧ v = .int .i64 (k : Int) ∧ Hid (Out wo.heap.size wx (.slice (some ⟨g, 0, none⟩) 25 c) (ints (mixR f1 f2 k))) ∧ Hid (∀ i, i < 25 → wx.cell? ⟨gb, i, none⟩ = some (.int .i64 ((f2 i : Nat) : Int))) ∧ Hid (Below wo.heap.size wo wx)) (fun v _ => 25 - (intOf v).toNat)
            case atStart => exact ⟨1, Nat.le_refl _, by omega, rfl, HR0, HCB, HB6⟩
            case round =>
              obtain ⟨k, hk1, hk2, rfl, HR5, HC5, HB5⟩ := hrel
              clear HR0 HCB HB6
              have hcc := HCO.out _ HB5.out
              by_cases hk : k ≤ 24
              · have hki : (k : Int) ≤ 24 := by omega
                obtain ⟨k1, hk1'⟩ : ∃ k1, k - 1 = k1 := ⟨_, rfl⟩
                have hk1e : (k : Int) - 1 = (k1 : Int) := by omega
                have hwk1 : IntKind.i64.wrap (k1 : Int) = (k1 : Int) := IntWalk.i64_in _ (by omega)
                have hwk2 : IntKind.i64.wrap ((k : Int) + 1) = (k : Int) + 1 := IntWalk.i64_in _ (by omega)
                have hp25 : (k1 : Int) < 25 := by omega
                have hp0 : (0 : Int) ≤ (k1 : Int) := by omega
                have hp26 : (k : Int) < 25 := by omega
                obtain ⟨hca, hfa⟩ := HR5.out.at9 (i := k) (by rw [ints_length, mixR_len]; omega)
                rw [ints_get (by rw [mixR_len]; omega), mixR_get (by omega)] at hca
                have hcb := HC5.out k1 (by omega)
                have hb1 := HLB.out k
                have hb2 := HQB.out k1
                obtain ⟨x, hx⟩ : ∃ x, f1 k = x := ⟨_, rfl⟩
                obtain ⟨y, hy⟩ : ∃ y, f2 k1 = y := ⟨_, rfl⟩
                obtain ⟨z, hz⟩ : ∃ z, x + y = z := ⟨_, rfl⟩
                have hset := HR5.out.set9 (k := k) ((z : Nat) : Int)
                rw [ints_set9, ← hz, ← hx, ← hy, ← hk1', mixR_set f1 f2 hk1, hx, hk1', hy, hz] at hset
                rw [hx] at hca hb1
                rw [hy] at hcb hb2
                have hxy : (x : Int) + (y : Int) = (z : Int) := by omega
                have hwz : IntKind.i64.wrap (z : Int) = (z : Int) := IntWalk.i64_in _ (by omega)
                have HR6 := Lib.hid hset
                have hgB := HR5.out.in9.1
                have HB6 := Lib.hid (HB5.out.setCell (p := ⟨g, k, none⟩) hgB (.int .i64 (z : Int)))
                have HC6 : Hid (∀ i, i < 25 → (wr.setCell ⟨g, k, none⟩ (.int .i64 (z : Int))).cell? ⟨gb, i, none⟩ = some (.int .i64 ((f2 i : Nat) : Int))) := by
                  show ∀ _, _
                  intro i hi'
                  rw [cell_set9 HNB.out]
                  exact HC5.out i hi'
                clear hset hx hy hz hk1' HR5 HC5 HB5 hgB HLB HQB
                go_wp2_with fail
                go_region
                all_goals
                  go_wp2_with fail
                  go_roundw
                  case rel => exact ⟨k + 1, by omega, by omega, by go_num, HR6, HC6, Lib.hid HB6.out.drew⟩
                  case measure => simp [intOf]; omega
              · have hk25 : k = 25 := by omega
                have hki : ¬ (k : Int) ≤ 24 := by omega
                have HRW5 := HR5
                rw [hk25, HN25.out] at HRW5
                clear HR5 HC5 HN25 HNB HLB HQB hk25
                have hs5 := HB5.out.size
                have hL5 := HT.out.below HB5.out
                have hla := hL5.below ((Below.refl wr.heap.size wr).alloc (Nat.le_refl _) (.cells #[.slice (some ⟨g, 0, none⟩) 25 c] 22))
                have hone := LL.one (w := wr) (B := wo.heap.size) (u := .slice (some ⟨g, 0, none⟩) 25 c) ⟨g, c, by rw [ints_length, HRL.out], HRW5.out.in9.2.1⟩ HRW5.out
                have hba := HB5.out.alloc hs5 (.cells #[.slice (some ⟨g, 0, none⟩) 25 c] 22)
                obtain ⟨gL, cL, vsL, eL, oL, lL, -, -, hgL⟩ := hla.parts
                have oR : (wr.alloc (.cells #[.slice (some ⟨g, 0, none⟩) 25 c] 22)).ownsRow wr.heap.size 22 1 (.slice (some ⟨wr.heap.size, 0, none⟩) 1 1) [ints R1].length [.slice (some ⟨g, 0, none⟩) 25 c] := own_lit [_] 1 1 rfl (by unfold maxLen; omega)
                have hgT := HGT.out
                have hsep : ∀ x, (Value.slice (some ⟨gT, 0, none⟩) t cT).ownBlock = some x → x < wo.heap.size := by
                  intro x hx
                  simp [Value.ownBlock] at hx
                  omega
                have HJ := Lib.hid (fun (v6 : Value) (w6 : World) hg6 ho6 hn6 hat6 => LL.join (v' := v6) (w' := w6) hla hone (Nat.le_trans (by omega) HB.out.size) hsep hg6 oL oR ho6 hn6 hat6)
                rw [HLN.out, ← HLT.out] at HJ
                have HZa := Lib.hid ((HZ.out.below HB5.out HZ.out.lt).alloc (.cells #[.slice (some ⟨g, 0, none⟩) 25 c] 22))
                have HBa := Lib.hid hba
                have hsa : (wr.alloc (.cells #[.slice (some ⟨g, 0, none⟩) 25 c] 22)).heap.size = wr.heap.size + 1 := by simp
                rw [HLN.out] at oL lL
                have hSW := HB.out.size
                have HOK := Lib.hid (lit_ll (w := wr) (g := g) (c := c))
                clear hla hone hba eL oR hL5 hgL HT HB5 HRW5
                go_wp2_with (at_builtin; refine wpList_append_own_at _ rfl _ _ 87 rfl w.heap.size 22 i0 (.slice none 0 0) 1 24 Try.underlying87 hi0 hz0 hz1 hz2 rfl (by decide) _ _ _ rfl oL ⟨wr.heap.size, 0, none⟩ 1 1 [.slice (some ⟨g, 0, none⟩) 25 c] rfl rfl HOK.out.1 HOK.out.2 (by unfold maxLen; omega) (by omega) (by simp; omega) ?_; intro v6 w6 ho6 hg6 hnil6 hat6)
                have HL6 := Lib.hid (HJ.out v6 w6 hg6 ho6 (fun e => absurd (hnil6.1 e).1 (by intro e; cases e)) hat6)
                have HBw := Lib.hid ((HB.out.trans (HBa.out.mono hSW)).grown hg6 (by omega) (own_block oL))
                have HZ6 := Lib.hid (HZa.out.grown hg6 HNE.out)
                have HN6 : Hid (¬ v6.ownBlock = some (w.heap.size + 1)) := by
                  show ¬ _
                  rcases hat6 with h | h
                  · rw [h]; exact HNE.out
                  · rw [h]; simp; have := HZa.out.lt; omega
                clear HJ ho6 hg6 hnil6 hat6 oL HBa HZa HB HZ HOK
                go_wp2_with fail
                go_roundw
                case rel => exact ⟨p + 1, by omega, by omega, by go_num, by rw [HP1.out]; exact HL6, HN6, HZ6, HBw⟩
                case measure => simp [intOf]; omega
    · have hle : ¬ (p : Int) ≤ (e : Int) := by omega
      by_cases ht0 : t = 0
      · have hae : e + 1 ≤ a := by omega
        have HRS : Hid (Out w.heap.size wr (.slice (some ⟨w.heap.size + 1, 0, none⟩) 25 25) (ints (crow D (rngL O a (e + 1))))) := by
          show Out _ _ _ _
          rw [rngL_empty hae]
          exact out_arr9 HZ.out (by omega) (by rw [ints_length, crow_len]) (by omega)
        have hti : (t : Int) = 0 := by omega
        clear HT HZ hpt ht hp2 hp1
        subst ht0
        go_wp2_with fail
        go_ret
        exact ⟨_, _, rfl, HRS.out, HB.out⟩
      · have hti : ¬ (t : Int) = 0 := by omega
        obtain ⟨t1, ht1⟩ : ∃ t1, t - 1 = t1 := ⟨_, rfl⟩
        have hte : (t : Int) - 1 = (t1 : Int) := by omega
        have hwt1 : IntKind.i64.wrap (t1 : Int) = (t1 : Int) := IntWalk.i64_in _ (by omega)
        have h10 : (0 : Int) ≤ (t1 : Int) := by omega
        have h1t : (t1 : Int) < (t : Int) := by omega
        obtain ⟨gx, cx, u, ex, hcx, ⟨bx, cy, rfl, hcy1, hcy2⟩, hox⟩ := HT.out.cell (linT_get (i := t1) (by omega))
        rw [linT_len] at ex
        simp only [Value.slice.injEq, Option.some.injEq, Addr.mk.injEq, and_true, true_and] at ex
        obtain ⟨rfl, rfl⟩ := ex
        have hpe : a + t1 + 1 = e + 1 := by omega
        rw [hpe] at hcx hox
        have hl25 : (ints (crow D (rngL O a (e + 1)))).length = 25 := by rw [ints_length, crow_len]
        rw [hl25] at hcx hox
        have HRS := Lib.hid hox
        clear hox HT HZ hpt ht hp2 hp1 hpe hl25 ht1 hcy1
        go_wp2_with fail
        go_ret
        exact ⟨_, _, rfl, HRS.out, HB.out⟩
end Go.Proofs.Ytoedcklgpmhnnaa
