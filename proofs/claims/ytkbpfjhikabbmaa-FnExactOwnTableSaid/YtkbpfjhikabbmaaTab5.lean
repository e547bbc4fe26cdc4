/- Chapter 5, spec side: spec.OwnTable. -/
import Derived.Test.YtkbpfjhikabbmaaTabM5
import Derived.Test.YtkbpfjhikabbmaaAllB5
import Derived.Test.YtkbpfjhikabbmaaChn5
import Derived.Test.YtkbpfjhikabbmaaChs5
namespace Go.Proofs.Ytkbpfjhikabbmaa
open Go.RowKit

/-- lists of lists that can be read, with their capacities -/
def RdC (lo hi : Nat) (w : World) (p : Option Addr) (Ls : List (List Int)) : Prop :=
  ∃ us : List Value, Rd lo hi w p us ∧ us.length = Ls.length ∧ ∀ (i : Nat) (x : List Int), Ls[i]? = some x → ∃ q c, us[i]? = some (.slice q x.length c) ∧ x.length ≤ c ∧ c ≤ maxLen ∧ Ri lo hi w q x
theorem RdC.bel {lo hi : Nat} {w w' : World} {p : Option Addr} {Ls : List (List Int)} (h : RdC lo hi w p Ls) (hb : Below w.heap.size w w') : RdC lo hi w' p Ls := by
  obtain ⟨us, h1, h2, h3⟩ := h
  refine ⟨us, h1.bel hb, h2, fun i x hx => ?_⟩
  obtain ⟨q, c, e, e1, e2, hr⟩ := h3 i x hx
  exact ⟨q, c, e, e1, e2, hr.bel hb⟩
theorem RdC.keep {lo hi a b : Nat} {w w' : World} {p : Option Addr} {Ls : List (List Int)} (h : RdC a b w p Ls) (hk : Keep lo hi w w') (hd : b ≤ lo ∨ hi ≤ a) : RdC a b w' p Ls := by
  obtain ⟨us, h1, h2, h3⟩ := h
  refine ⟨us, h1.keep hk hd, h2, fun i x hx => ?_⟩
  obtain ⟨q, c, e, e1, e2, hr⟩ := h3 i x hx
  exact ⟨q, c, e, e1, e2, hr.keep hk hd⟩
theorem RdC.at {lo hi : Nat} {w : World} {p : Option Addr} {Ls : List (List Int)} (h : RdC lo hi w p Ls) {i : Nat} (hi' : i < Ls.length) : ∃ b off q c x, Ls[i]? = some x ∧ p = some ⟨b, off, none⟩ ∧ w.cell? ⟨b, off + i, none⟩ = some (.slice q x.length c) ∧ x.length ≤ c ∧ c ≤ maxLen ∧ Ri lo hi w q x := by
  obtain ⟨us, h1, h2, h3⟩ := h
  obtain ⟨b, off, e, -, -, hc⟩ := h1.cells (by omega)
  obtain ⟨q, c, e2, e3, e4, hr⟩ := h3 i Ls[i] (List.getElem?_eq_getElem hi')
  exact ⟨b, off, q, c, Ls[i], List.getElem?_eq_getElem hi', e, (hc i (by omega)).trans e2, e3, e4, hr⟩
theorem LL.rdc {lo B1 B2 : Nat} {w : World} {v : Value} {Ls : List (List Int)} (h : LL B1 B2 w v Ls) (h1 : lo ≤ B1) (h2 : lo ≤ B2) : ∃ p c, v = .slice p Ls.length c ∧ RdC lo w.heap.size w p Ls := by
  obtain ⟨g, c, vs, e, hr, hg, hi⟩ := h
  obtain ⟨p, cap, e2, -, -, hrd, -⟩ := rd_ownsRow hr
  have hvl : vs.length = Ls.length := by have := hr.1; omega
  refine ⟨p, cap, e2, vs, hrd.mono h2 (Nat.le_refl _) (Nat.le_refl _), hvl, fun i x hx => ?_⟩
  obtain ⟨u, hu, -, ho⟩ := hi i x hx
  obtain ⟨q, c', rfl, a1, a2, hq, -⟩ := Out.rd ho
  exact ⟨q, c', hu, a1, a2, hq.mono h1 (Nat.le_refl _) (Nat.le_refl _)⟩

/-- the table -/
def tabR (n k : Nat) (i : Nat) : List (Int × Int) := (List.range i).map fun j => chP (tabM n k (seatM n k n []) j)
theorem tabR_succ (n k i : Nat) : tabR n k (i + 1) = tabR n k i ++ [chP (tabM n k (seatM n k n []) i)] := by
  unfold tabR
  rw [List.range_succ, List.map_append]; rfl
theorem tabR_len (n k i : Nat) : (tabR n k i).length = i := by unfold tabR; rw [List.length_map, List.length_range]
theorem take_snoc {α : Type} {L : List α} {j : Nat} {x : α} (h : L[j]? = some x) : L.take (j + 1) = L.take j ++ [x] := by
  have hj := (List.getElem?_eq_some_iff.1 h).1
  rw [List.take_succ_eq_append_getElem hj]
  rw [List.getElem?_eq_getElem hj] at h
  simp only [Option.some.injEq] at h
  rw [h]

set_option maxRecDepth 4000 in
set_option maxHeartbeats 4000000 in
theorem tabS_any (n k : Nat) (h1 : 1 ≤ n) (hn : n ≤ 7) (hk : k ≤ n) (w : World) :
    Calls Try.prog 11 #[.int .i64 (n : Nat), .int .i64 (k : Nat)] w fun e w' => ∃ v, e = .returned (.tuple #[v, .bool true]) ∧ OutP w.heap.size w' v (tabR n k n) ∧ Below w.heap.size w w' := by
  obtain ⟨i0, hi0, hz0, hz1, hz2⟩ := info_parts infoPair
  have G := fun w' => l5Good_any (n : Int) (k : Int) w'
  rw [good5_of h1 (by omega) hk] at G
  replace G := Lib.hid G
  obtain ⟨wa, hwa⟩ : ∃ wa, w.alloc (.cells #[] 48) = wa := ⟨_, rfl⟩
  have hsa : wa.heap.size = w.heap.size + 1 := by rw [← hwa]; simp
  have A := Lib.hid (l5All_any n k h1 hn n [] (some ⟨wa.heap.size, 0, none⟩) 0 wa.heap.size (wa.alloc (.cells #[] 3)) (by simp) (Out.nilLit wa) (by simp))
  have HO0 : Hid (OutP w.heap.size wa (.slice (some ⟨w.heap.size, 0, none⟩) 0 0) []) := by rw [← hwa]; exact OutP.nilLit w
  have HB0 : Hid (Below w.heap.size w wa) := by rw [← hwa]; exact (Below.refl _ _).alloc (Nat.le_refl _) _
  have HBA : Hid (Below wa.heap.size wa (wa.alloc (.cells #[] 3))) := (Below.refl _ _).alloc (Nat.le_refl _) _
  have hn7 : ¬ (7 : Int) < (n : Int) := by omega
  have hAL := Lib.hid (seat_poss (n := n) (k := k) n [] (by simp) (by simp [possM]))
  have HCH := Lib.hid (fun x (hx : x ∈ seatM n k n []) => chance_sha (n := n) (k := k) (by omega) hx)
  have HTL := Lib.hid (fun j i => tab_le (n := n) (k := k) j i)
  have HWA := Lib.hid hwa
  have HSA := Lib.hid hsa
  obtain ⟨LA, hLA⟩ : ∃ L, seatM n k n [] = L := ⟨_, rfl⟩
  have HLE := Lib.hid hLA
  rw [hLA] at A hAL HCH HTL
  clear hwa hsa hLA
  go_enter Try.func11, Try.ntmps11
  go_wp2_with fail
  rw [HWA.out]
  refine (G.out _).mono ?_
  rintro e w1 ⟨rfl, rfl⟩
  go_wp2_with fail
  refine A.out.mono ?_
  rintro e w3 ⟨va, rfl, hLL, hb3⟩
  obtain ⟨pa, ca, rfl, hrc⟩ := hLL.rdc (lo := wa.heap.size) (Nat.le_refl _) (by simp)
  have hb3' : Below wa.heap.size wa w3 := HBA.out.trans (hb3.mono (by simp))
  rw [HSA.out] at hrc
  have HR3 := Lib.hid hrc
  have HO3 := Lib.hid (OutP.below HO0.out hb3')
  have HB3 := Lib.hid (HB0.out.trans (hb3'.mono (by rw [HSA.out]; omega)))
  obtain ⟨z3, hz3⟩ : ∃ z, w3.heap.size = z := ⟨_, rfl⟩
  rw [hz3] at HR3
  obtain ⟨N, hN⟩ : ∃ N, LA.length = N := ⟨_, rfl⟩
  have HN := Lib.hid hN
  rw [hN]
  clear hLL hb3 hb3' hrc hz3 hN
  go_wp2_with fail
  go_loopw [6, 8] (fun v iv' wr => ∃ (i : Nat), i ≤ n ∧ iv' = .int .i64 (i : Int) ∧ Hid (OutP w.heap.size wr v (tabR n k i)) ∧ Hid (Below w.heap.size w wr) ∧ Hid (RdC (w.heap.size + 1) z3 wr pa LA) ∧ Hid (∀ g, v.ownBlock = some g → g = w.heap.size ∨ z3 ≤ g)) (fun _ iv' _ => n - (intOf iv').toNat)
  case atStart => exact ⟨0, Nat.zero_le _, rfl, HO3, HB3, HR3, by show ∀ _, _; intro g h; simp [Value.ownBlock] at h; exact .inl h.symm⟩
  case round =>
    obtain ⟨i, hi, rfl, HO, HB, HC, HV⟩ := hrel
    clear HO3 HB3 HR3
    by_cases hlt : i < n
    · have hi1 : (i : Int) < (n : Int) := by omega
      have hwi : IntKind.i64.wrap ((i : Int) + 1) = (i : Int) + 1 := IntWalk.i64_in _ (by omega)
      obtain ⟨sb, hsb⟩ : ∃ sb, wr.heap.size = sb := ⟨_, rfl⟩
      obtain ⟨ws, hws⟩ : ∃ ws, wr.alloc (.cells #[.int .i64 0, .int .i64 1] 48) = ws := ⟨_, rfl⟩
      have hS0 : OwnArr ws sb 48 [.int .i64 (chP (tabM n k (LA.take 0) i)).1, .int .i64 (chP (tabM n k (LA.take 0) i)).2] := by
        rw [← hws, ← hsb]
        have e0 : chP (tabM n k (LA.take 0) i) = (0, 1) := by
          rw [List.take_zero]
          show chP 0 = _
          unfold chP
          rw [show ((0 : Nat) : Int) = 0 from rfl, Rat.zero_mkRat]; rfl
        rw [e0]
        exact OwnArr.made wr _ [_, _]
      have HS0 := Lib.hid hS0
      have HW0 : Hid (Below sb wr ws) := by rw [← hws, ← hsb]; exact (Below.refl _ _).alloc (Nat.le_refl _) _
      have HWS := Lib.hid hws
      have HSB := Lib.hid hsb
      clear hS0 hws
      go_wp2_with fail
      rw [HWS.out]
      clear hsb HWS
      obtain ⟨wo, hwo⟩ : ∃ wo, wo = wr := ⟨_, rfl⟩
      subst hwo
      go_loopw [10] (fun jv wq => ∃ (j : Nat), j ≤ N ∧ jv = .int .i64 (j : Int) ∧ Hid (OwnArr wq sb 48 [.int .i64 (chP (tabM n k (LA.take j) i)).1, .int .i64 (chP (tabM n k (LA.take j) i)).2]) ∧ Hid (Below sb wo wq)) (fun jv _ => N - (intOf jv).toNat)
      case atStart => exact ⟨0, Nat.zero_le _, rfl, HS0, HW0⟩
      case round =>
        obtain ⟨j, hj, rfl, HS, HW⟩ := hrel
        clear HS0 HW0
        have hbq : Below wo.heap.size wo wr := by rw [HSB.out]; exact HW.out
        have hcq := HC.out.bel hbq
        by_cases hjl : j < N
        · have hj1 : (j : Int) < (N : Int) := by omega
          have hj0 : (0 : Int) ≤ (j : Int) := by omega
          have hi0 : (0 : Int) ≤ (i : Int) := by omega
          have hN24 : N ≤ 35831808 := by
            rw [← HN.out, ← HLE.out]
            exact Nat.le_trans (seat_len (n := n) (k := k) (by omega) n []) (Nat.le_trans (Nat.pow_le_pow_right (by omega) hn) (by decide))
          have hwj : IntKind.i64.wrap ((j : Int) + 1) = (j : Int) + 1 := IntWalk.i64_in _ (by omega)
          obtain ⟨b, off, q, c, x, hx, rfl, c1, hc1, hc2, r1⟩ := hcq.at (i := j) (by rw [HN.out]; exact hjl)
          have hxm : x ∈ LA := List.mem_of_getElem? hx
          have hxl := (hAL.out x hxm).1
          rw [hxl] at c1 hc1
          obtain ⟨qb, qo, rfl, -, -, hqc⟩ := r1.cells (by rw [iv_length, hxl]; omega)
          have c2 := (hqc i (by rw [iv_length, hxl]; exact hlt)).trans (iv_get (by rw [hxl]; exact hlt))
          have T := tab_snoc n k (LA.take j) x i
          rw [← take_snoc hx] at T
          have CH0 := fun (w' : World) (h' : Below wr.heap.size wr w') => l5Chance_any n k (some ⟨qb, qo, none⟩) c x w' _ _ (r1.bel h') h1 (by omega) hk hxl hc1 hc2
          rw [HCH.out x hxm] at CH0
          have hT1 := HTL.out j i
          have hT2 := sha_le n k x
          have PL0 := fun (w' : World) => l2Plus_any (mkRat ((tabM n k (LA.take j) i : Nat) : Int) 479001600) (mkRat ((shaM n k x : Nat) : Int) 479001600) (Nat.le_trans (Nat.mul_le_mul (rat_small hT1).1 (rat_small hT2).2) (by decide)) (Nat.le_trans (Nat.mul_le_mul (rat_small hT2).1 (rat_small hT1).2) (by decide)) (Nat.le_trans (Nat.mul_le_mul (rat_small hT1).2 (rat_small hT2).2) (by decide)) w'
          rw [rat_add] at PL0
          obtain ⟨y, hy⟩ : ∃ y, x[i]?.getD 0 = y := ⟨_, rfl⟩
          rw [hy] at c2 T
          by_cases hyi : y = (i : Int)
          · rw [if_pos hyi] at T
            rw [← T] at PL0
            subst hyi
            change ∀ w', Calls _ _ #[.agg #[.int .i64 (chP (tabM n k (LA.take j) i)).1, .int .i64 (chP (tabM n k (LA.take j) i)).2], .agg #[.int .i64 (chP (shaM n k x)).1, .int .i64 (chP (shaM n k x)).2]] w' (fun e w'' => e = .returned (.agg #[.int .i64 (chP (tabM n k (LA.take (j + 1)) i)).1, .int .i64 (chP (tabM n k (LA.take (j + 1)) i)).2]) ∧ Below w'.heap.size w' w'') at PL0
            change ∀ w', _ → Calls _ _ _ w' (fun e w'' => e = .returned (.agg #[.int .i64 (chP (shaM n k x)).1, .int .i64 (chP (shaM n k x)).2]) ∧ Below w'.heap.size w' w'') at CH0
            obtain ⟨t1, ht1⟩ : ∃ t, (chP (tabM n k (LA.take j) i)).1 = t := ⟨_, rfl⟩
            obtain ⟨t2, ht2⟩ : ∃ t, (chP (tabM n k (LA.take j) i)).2 = t := ⟨_, rfl⟩
            obtain ⟨v1, hv1⟩ : ∃ t, (chP (shaM n k x)).1 = t := ⟨_, rfl⟩
            obtain ⟨v2, hv2⟩ : ∃ t, (chP (shaM n k x)).2 = t := ⟨_, rfl⟩
            obtain ⟨s1, hs1⟩ : ∃ t, (chP (tabM n k (LA.take (j + 1)) i)).1 = t := ⟨_, rfl⟩
            obtain ⟨s2, hs2⟩ : ∃ t, (chP (tabM n k (LA.take (j + 1)) i)).2 = t := ⟨_, rfl⟩
            rw [ht1, ht2, hv1, hv2, hs1, hs2] at PL0
            rw [hv1, hv2] at CH0
            rw [ht1, ht2] at HS
            have CH := Lib.hid CH0
            have PL := Lib.hid PL0
            have HS1 := Lib.hid hs1
            have HS2 := Lib.hid hs2
            have e0 := HS.out.cell 0
            have e1 := HS.out.cell 1
            have HBd := Lib.hid ((Below.refl wr.heap.size wr).drew)
            have hsl := HS.out.lt
            have AF := Lib.hid (show ∀ w2, Below wr.drew.heap.size wr.drew w2 → Hid (OwnArr w2 sb 48 [.int .i64 t1, .int .i64 t2]) ∧ Hid (Below sb wo w2) ∧ w2.cell? ⟨sb, 0, none⟩ = some (.int .i64 t1) ∧ w2.cell? ⟨sb, 1, none⟩ = some (.int .i64 t2) from fun w2 h2 => by
              have h2' : Below wr.heap.size wr w2 := (Below.refl _ wr).drew.trans h2
              have ho := HS.out.below h2' hsl
              exact ⟨ho, HW.out.trans (h2'.mono (by omega)), ho.cell 0, ho.cell 1⟩)
            clear hs1 hs2 ht1 ht2 hv1 hv2 CH0 PL0 T hx hxm hxl hqc r1 hcq hbq hT1 hT2 hc1 hc2 hy hsl
            go_wp2_with fail
            go_region_law (first
              | (go_simp; go_at_call 29; refine (CH.out _ HBd.out).mono ?_; rintro e w2 ⟨rfl, hb2⟩; obtain ⟨HS2', HW2, d0, d1⟩ := AF.out _ hb2; clear hb2)
              | (go_simp; go_at_call 28; refine (PL.out _).mono ?_; rintro e w5 ⟨rfl, hb5⟩; have hO5 := HS2'.out.below hb5 HS2'.out.lt; have HW5 := Lib.hid (HW2.out.trans (hb5.mono (by have := HS2'.out.lt; omega))); have f0 := hO5.cell 0; have f1 := hO5.cell 1; have f2 := hO5.free 0; have f3 := hO5.free 1; have HO5 := Lib.hid hO5; clear hO5 hb5))
            all_goals
              have hfin : OwnArr ((w5.setCell ⟨sb, 0, none⟩ (.int .i64 s1)).setCell ⟨sb, 1, none⟩ (.int .i64 s2)) sb 48 [.int .i64 s1, .int .i64 s2] := (HO5.out.set 0 (.int .i64 s1)).set 1 (.int .i64 s2)
              have kfin : KeepP (fun j => j = sb) w5 ((w5.setCell ⟨sb, 0, none⟩ (.int .i64 s1)).setCell ⟨sb, 1, none⟩ (.int .i64 s2)) := ((KeepP.refl (fun j => j = sb) w5).set (S := fun j => j = sb) (.inl rfl) 0 (.int .i64 s1)).set (S := fun j => j = sb) (.inl rfl) 1 (.int .i64 s2)
              have hs5 := HO5.out.lt
              have hbf := HW5.out.trans (kfin.below (b := sb) (fun j h => by have h' : j = sb := h; omega) (by omega))
              obtain ⟨w6, hw6⟩ : ∃ w6, (w5.setCell ⟨sb, 0, none⟩ (.int .i64 s1)).setCell ⟨sb, 1, none⟩ (.int .i64 s2) = w6 := ⟨_, rfl⟩
              rw [hw6] at hfin hbf ⊢
              have HS6 : Hid (OwnArr w6 sb 48 [.int .i64 (chP (tabM n k (LA.take (j + 1)) i)).1, .int .i64 (chP (tabM n k (LA.take (j + 1)) i)).2]) := by
                show OwnArr _ _ _ _
                rw [HS1.out, HS2.out]; exact hfin
              have HW6 := Lib.hid hbf
              clear hfin kfin hs5 hbf hw6 HO5 HW5 HS2' HW2 f0 f1 f2 f3 d0 d1 e0 e1 HS HW AF
              go_wp2_with fail
              go_roundw
              case rel => exact ⟨j + 1, by omega, by go_num, HS6, HW6⟩
              case measure => simp [intOf]; omega
          · have T' : tabM n k (LA.take (j + 1)) i = tabM n k (LA.take j) i := by rw [T, if_neg hyi]; rfl
            rw [← T'] at HS
            clear T'
            clear CH0 PL0 T hx hxm hxl hqc r1 hcq hbq hT1 hT2 hc1 hc2 hy
            go_wp2_with fail
            go_roundw
            case rel => exact ⟨j + 1, by omega, by go_num, HS, HW⟩
            case measure => simp [intOf]; omega
        · have hjn : j = N := by omega
          subst hjn
          have hno : ¬ (j : Int) < (j : Int) := by omega
          have hTN : LA.take j = LA := List.take_of_length_le (by rw [HN.out]; exact Nat.le_refl _)
          rw [hTN] at HS
          have hsucc := tabR_succ n k i
          rw [HLE.out] at hsucc
          obtain ⟨t1, ht1⟩ : ∃ t, (chP (tabM n k LA i)).1 = t := ⟨_, rfl⟩
          obtain ⟨t2, ht2⟩ : ∃ t, (chP (tabM n k LA i)).2 = t := ⟨_, rfl⟩
          have hpair : chP (tabM n k LA i) = (t1, t2) := by rw [← ht1, ← ht2]
          rw [hpair] at hsucc
          rw [ht1, ht2] at HS
          have e0 := HS.out.cell 0
          have e1 := HS.out.cell 1
          have how := OutP.below HO.out hbq
          obtain ⟨l, vs, hl, hvs, hown⟩ := how.open'
          have hlk := tabR_len n k i
          rw [hl] at hlk
          have HLL' := Lib.hid hl
          have HVS := Lib.hid hvs
          have hbw := HB.out.trans (hbq.mono HB.out.size)
          have hsz := hbw.size
          have hblk := Lib.hid (own_block hown)
          have HCQ := Lib.hid hcq
          have HBW := Lib.hid hbw
          have HSU := Lib.hid hsucc
          have HVL := Lib.hid (World.ownsRow.lt hown)
          clear hl hvs hTN hsucc ht1 ht2 hpair how hcq hbq hbw HS HW
          go_wp2_with (at_builtin; refine wpList_append_own_at _ rfl _ _ 28 rfl w.heap.size 48 i0 (.agg #[.int .i64 0, .int .i64 0]) 2 16 Try.underlying28 hi0 hz0 hz1 hz2 rfl (by decide) u6 l vs rfl (hown.alloc _) ⟨wr.heap.size, 0, none⟩ 1 1 [.int .i64 t1, .int .i64 t2] rfl rfl (cell_two_new _ _ _ _) (two_one _ _) (by unfold maxLen; omega) (by omega) (by simp; omega) ?_; intro v' w3 hown' hgrow3 hnil3 hat3)
          have hsa : (wr.alloc (.cells #[.int .i64 t1, .int .i64 t2] 48)).heap.size = wr.heap.size + 1 := World.size_alloc _ _
          have hza : z3 ≤ wr.heap.size := by obtain ⟨us, hu, -, -⟩ := HCQ.out; exact hu.top
          have HB3 := Lib.hid ((HBW.out.alloc hsz (.cells #[.int .i64 t1, .int .i64 t2] 48)).grown hgrow3 (by omega) hblk.out)
          have HO3 : Hid (OutP w.heap.size w3 v' (tabR n k (i + 1))) := by
            show OutP _ _ _ _
            rw [HSU.out]; exact OutP.close HLL'.out HVS.out hown'
          have hca := HCQ.out.bel ((Below.refl wr.heap.size wr).alloc (Nat.le_refl _) (.cells #[.int .i64 t1, .int .i64 t2] 48))
          have HC3 : Hid (RdC (w.heap.size + 1) z3 w3 pa LA) := by
            show RdC _ _ _ _ _
            obtain ⟨k1, k2, k3, k4, k5⟩ := hgrow3
            cases hu : u6.ownBlock with
            | none => exact hca.keep (lo := z3) (hi := z3) ⟨k1, k2, k3, k4, fun b hb _ => k5 b hb (by rw [hu]; simp)⟩ (.inl (Nat.le_refl _))
            | some g =>
              refine hca.keep (lo := g) (hi := g + 1) ⟨k1, k2, k3, k4, fun b hb hne => k5 b hb ?_⟩ ?_
              · rw [hu]; intro e; simp only [Option.some.injEq] at e; omega
              · have := HV.out g hu
                omega
          have HV3 : Hid (∀ g, v'.ownBlock = some g → g = w.heap.size ∨ z3 ≤ g) := by
            show ∀ _, _
            intro g hg
            rcases hat3 with h | h
            · exact HV.out g (by rw [← h]; exact hg)
            · rw [h] at hg
              simp only [Option.some.injEq] at hg
              omega
          clear hown' hgrow3 hnil3 hat3 hown hca hsa
          go_wp2_with fail
          go_roundw
          case rel => exact ⟨i + 1, by omega, by go_num, HO3, HB3, HC3, HV3⟩
          case measure => simp [intOf]; omega
    · have hin : i = n := by omega
      subst hin
      have hno : ¬ (i : Int) < (i : Int) := by omega
      go_wp2_with fail
      go_ret2
      exact ⟨_, rfl, HO.out, HB.out⟩
end Go.Proofs.Ytkbpfjhikabbmaa
