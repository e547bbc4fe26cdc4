/- impl.RunsOf, for every Row. -/
import Derived.Test.YtbgmfjhcgfnfoaaFiltR
import Derived.Test.YtbgmfjhcgfnfoaaStartI
import Derived.Test.YtbgmfjhcgfnfoaaFreeFrom
import Derived.Test.YtbgmfjhcgfnfoaaPairM
import Derived.Test.YtbgmfjhcgfnfoaaNe
namespace Go.Proofs.Ytbgmfjhcgfnfoaa
open Go.RowKit

/-- pairs of numbers as the results show them -/
def prs (l : List (Nat × Nat)) : List (Int × Int) := l.map fun x => ((x.1 : Int), (x.2 : Int))
def runP (n : Nat) (ring : Bool) (S : Nat → Bool) (l : List Nat) : List (Int × Int) := l.map fun (p : Nat) => ((p : Int), ((runM n ring S p : Nat) : Int))
theorem runP_all (n : Nat) (ring : Bool) (S : Nat → Bool) : prs (runsM n ring S) = runP n ring S (tk n (startM n ring S)) := by
  unfold prs runsM runP
  rw [List.map_map]; rfl
theorem runP_snoc {n : Nat} {ring : Bool} {S : Nat → Bool} {l : List Nat} {k : Nat} (h : k < l.length) : runP n ring S (l.take (k + 1)) = runP n ring S (l.take k) ++ [(((l[k]?.getD 0 : Nat) : Int), ((runM n ring S (l[k]?.getD 0) : Nat) : Int))] := by
  unfold runP
  rw [List.take_succ_eq_append_getElem h, List.map_append, List.getElem?_eq_getElem h]; rfl
theorem runP_len (n : Nat) (ring : Bool) (S : Nat → Bool) (l : List Nat) (k : Nat) : (runP n ring S (l.take k)).length ≤ k := by
  unfold runP
  rw [List.length_map]; exact List.length_take_le k l
theorem runM_le (n : Nat) (ring : Bool) (S : Nat → Bool) (p : Nat) : runM n ring S p ≤ n := by
  unfold runM
  have h1 := firstM_le (reachM n ring p) (fun k => S ((p + k) % n))
  have h2 : reachM n ring p ≤ n := by unfold reachM; split <;> omega
  omega
/-- a row of pairs is no box of a Row, and no row of numbers -/
theorem own_neP {B : Nat} {w : World} {v : Value} {ps : List (Int × Int)} {R : Nat} {ys : List Value} (h : OutP B w v ps) (hR : OwnArr w R 28 ys) : ¬ v.ownBlock = some R := by
  intro e
  rcases h.2 with ⟨hv, _⟩ | ⟨g, cap, cur, hv, _, hh, _⟩
  · subst hv; simp [Value.ownBlock] at e
  · subst hv
    simp only [Value.ownBlock, Option.some.injEq] at e
    subst e
    unfold OwnArr at hR
    rw [hR] at hh
    simp only [Option.some.injEq, Obj.cells.injEq] at hh
    exact absurd hh.2.1 (by decide)
theorem own_nePI {B B' : Nat} {w : World} {v u : Value} {ps : List (Int × Int)} {xs : List Int} (h : OutP B w v ps) (h' : Out B' w u xs) : u.ownBlock = none ∨ u.ownBlock ≠ v.ownBlock := by
  rcases h'.2 with ⟨hv, _⟩ | ⟨g, cap, cur, hv, _, hh, _⟩
  · subst hv; exact .inl rfl
  · refine .inr fun e => ?_
    subst hv
    rcases h.2 with ⟨hv2, _⟩ | ⟨g2, cap2, cur2, hv2, _, hh2, _⟩
    · subst hv2; simp [Value.ownBlock] at e
    · subst hv2
      simp only [Value.ownBlock, Option.some.injEq] at e
      subst e
      rw [hh] at hh2
      simp only [Option.some.injEq, Obj.cells.injEq] at hh2
      exact absurd hh2.2.1 (by decide)

set_option maxRecDepth 4000 in
set_option maxHeartbeats 2000000 in
theorem runsI_ok (n : Nat) (ring : Bool) (p : Option Addr) (cap : Nat) (S : Nat → Bool) (w : World) (lo hi' : Nat) (hin : Ri lo hi' w p (ints (tk n S))) (h2 : 2 ≤ n) (hn : n ≤ 24) (h3 : ring = true → 3 ≤ n) :
    Calls Try.prog 19 #[rowV n ring p (ints (tk n S)).length cap] w fun e w' => ∃ v, e = .returned (.tuple #[v, .bool true]) ∧ OutP w.heap.size w' v (prs (runsM n ring S)) ∧ Below w.heap.size w w' := by
  obtain ⟨i0, hi, hz0, hz1, hz2⟩ := info_parts infoPair
  rw [runP_all]
  have hb := (box_below w n ring p (ints (tk n S)).length cap 28).alloc (by simp) (.cells #[] 55)
  have ST := Lib.hid (seatsRun_any n ring p cap S (startM n ring S) _ lo hi' (hin.below hb hin.top) h2 hn h3 (fun k hk w'' hb' => startsRun_any n ring p cap S k w'' lo hi' ((hin.below hb hin.top).bel hb') hn hk))
  have FF := Lib.hid (fun (a : Nat) (ha : a < n) (w' : World) (h' : Below w.heap.size w w') => freeFrom_any n ring p cap S a w' lo hi' (hin.below h' hin.top) h2 hn ha)
  have HX0 := Lib.hid ((OwnArr.made w 28 [.int .i64 n, .bool ring, .slice p (ints (tk n S)).length cap]).alloc (.cells #[] 55))
  have hO0 := OutP.nilLit (w.alloc (.cells #[.int .i64 n, .bool ring, .slice p (ints (tk n S)).length cap] 28))
  have hs0 : (w.alloc (.cells #[.int .i64 n, .bool ring, .slice p (ints (tk n S)).length cap] 28)).heap.size = w.heap.size + 1 := by simp
  rw [hs0] at hO0
  have HO0 := Lib.hid hO0
  have HB0 := Lib.hid hb
  have HRL : Hid (∀ x, runM n ring S x ≤ 24) := by show ∀ _, _; intro x; have := runM_le n ring S x; omega
  obtain ⟨l, hl⟩ : ∃ l, tk n (startM n ring S) = l := ⟨_, rfl⟩
  have hlm : ∀ x ∈ l, x < n := fun x hx => by rw [← hl] at hx; exact (mem_tk.1 hx).1
  have hll : l.length ≤ 24 := by rw [← hl]; have := tk_length_le n (startM n ring S); omega
  rw [hl] at ST ⊢
  have HLM := Lib.hid hlm
  have hel := ints_length l
  obtain ⟨k0, hk0⟩ : ∃ k, l.length = k := ⟨_, rfl⟩
  rw [hk0] at hll hel
  replace hel := Lib.hid hel
  have HM := Lib.hid hk0
  obtain ⟨m, hm⟩ : ∃ m, (ints (tk n S)).length = m := ⟨_, rfl⟩
  rw [hm] at ST FF HX0 HO0 HB0 ⊢
  clear hin hb h3 hO0 hs0 hl hlm hm hk0
  obtain ⟨c0, c1, c2, -⟩ := HX0.out.three
  go_enter Try.func19, Try.ntmps19
  go_wp2_with fail
  refine ST.out.mono ?_
  rintro e w1 ⟨sv, rfl, hS, hb1⟩
  obtain ⟨q, c, rfl, -⟩ := hS.rd
  rw [hel.out]
  rw [hel.out] at hS
  have HS1 := Lib.hid (hS.mono (by simp; omega : w.heap.size ≤ _))
  have HX1 := Lib.hid (HX0.out.below hb1 HX0.out.lt)
  have HO1 := Lib.hid (HO0.out.below hb1)
  have HB1 := Lib.hid (HB0.out.trans (hb1.mono HB0.out.size))
  clear HX0 HO0 HB0 hb1 hS c0 c1 c2 ST
  go_wp2_with fail
  go_loopw [4, 8, 17] (fun v _ i wr => ∃ (k : Nat), k ≤ k0 ∧ i = .int .i64 k ∧ Hid (OwnArr wr w.heap.size 28 [.int .i64 n, .bool ring, .slice p m cap]) ∧ Hid (OutP (w.heap.size + 1) wr v (runP n ring S (l.take k))) ∧ Hid (Out w.heap.size wr (.slice q k0 c) (ints l)) ∧ Hid (Below w.heap.size w wr)) (fun _ _ i _ => k0 - (intOf i).toNat)
  case atStart => exact ⟨0, Nat.zero_le _, rfl, HX1, HO1, HS1, HB1⟩
  case round =>
    obtain ⟨k, hk, rfl, HX, HO, HS, HB⟩ := hrel
    clear HX1 HO1 HS1 HB1
    obtain ⟨c0, c1, c2, -⟩ := HX.out.three
    by_cases hlt : k < k0
    · have hk1 : (k : Int) < (k0 : Int) := by omega
      have hkl : k < l.length := by have := HM.out; omega
      obtain ⟨q', c', e', -, -, hR, -⟩ := HS.out.rd
      simp only [Value.slice.injEq] at e'
      obtain ⟨rfl, -, rfl⟩ := e'
      obtain ⟨b, off, rfl, -, -, hbw, hc⟩ := hR.int (by rw [hel.out]; omega)
      have h0 := hc k (by rw [hel.out]; exact hlt)
      rw [ints_get hkl] at h0
      have hxn := HLM.out _ (nat_mem hkl)
      have HST := Lib.hid (runP_snoc (n := n) (ring := ring) (S := S) hkl)
      have HLn := Lib.hid (runP_len n ring S l k)
      obtain ⟨x, hx⟩ : ∃ x, l[k]?.getD 0 = x := ⟨_, rfl⟩
      rw [hx] at h0 hxn HST
      have F := FF.out x hxn wr HB.out
      have hrl := HRL.out x
      obtain ⟨d, hd⟩ : ∃ d, runM n ring S x = d := ⟨_, rfl⟩
      rw [hd] at F HST hrl
      have HF := Lib.hid F
      clear hx hd hc hR F
      go_wp2_with fail
      refine HF.out.mono ?_
      rintro e w2 ⟨rfl, hb2⟩
      have HX2 := Lib.hid (HX.out.below hb2 HX.out.lt)
      have HO2 := Lib.hid (HO.out.below hb2)
      have HS2 := Lib.hid (HS.out.below hb2)
      have HB2 := Lib.hid (HB.out.trans (hb2.mono HB.out.size))
      clear HX HO HS HB hb2 c0 c1 c2 h0 HF
      have hne1 := Lib.hid (own_neP HO2.out HX2.out)
      have hne2 := Lib.hid (own_nePI HO2.out HS2.out)
      have hblk := Lib.hid (own_block HO2.out)
      obtain ⟨n2, vs, hnl, hvs, hown⟩ := HO2.out.open'
      have hlk := HLn.out
      rw [hnl] at hlk
      have hsz2 := HX2.out.lt
      replace hnl := Lib.hid hnl
      replace hvs := Lib.hid hvs
      clear HLn
      go_wp2_with (at_builtin; refine wpList_append_own _ rfl _ _ 35 rfl (w.heap.size + 1) 55 i0 (.agg #[.int .i64 0, .int .i64 0]) 2 16 Try.underlying35 hi hz0 hz1 hz2 rfl (by decide) _ _ _ rfl (hown.alloc _) ⟨w2.heap.size, 0, none⟩ 1 1 [.int .i64 (x : Int), .int .i64 (d : Int)] rfl rfl (cell_two_new _ _ _ _) (two_one _ _) (by unfold maxLen; omega) (by omega) (by simp; omega) ?_; intro v' w3 hown' hgrow3 hnil3)
      have hG : Below (w.heap.size + 1) w2 w3 := ((Below.refl (w.heap.size + 1) w2).alloc (by omega) _).grown hgrow3 (by simp; omega) hblk.out
      have HX3 := Lib.hid (HX2.out.below hG (Nat.lt_succ_self _))
      have HB3 := Lib.hid (HB2.out.trans (hG.mono (Nat.le_succ _)))
      have HS3 := Lib.hid (World.ownsRow.kept (World.ownsRow.alloc HS2.out _) hgrow3 hne2.out)
      have HO3 : Hid (OutP (w.heap.size + 1) w3 v' (runP n ring S (l.take (k + 1)))) := by
        show OutP _ _ _ _
        rw [HST.out]; exact OutP.close hnl.out hvs.out hown'
      clear hown' hgrow3 hnil3 hown hG hne1 hne2 hblk hnl hvs HX2 HO2 HS2 HB2 HST hlk
      go_wp2_with fail
      go_roundw
      case rel => exact ⟨k + 1, by omega, by go_num, HX3, HO3, HS3, HB3⟩
      case measure => simp [intOf]; omega
    · have hkm : l.take k = l := List.take_of_length_le (by have := HM.out; omega)
      have ho := HO.out
      rw [hkm] at ho
      replace ho := Lib.hid ho
      clear HO hkm
      go_wp2_with fail
      go_ret2
      exact ⟨_, rfl, ho.out.mono (Nat.le_succ _), HB.out⟩

set_option maxHeartbeats 800000 in
theorem runsI_no (s : Int) (ring : Bool) (p : Option Addr) (cap : Nat) (xs : List Int) (w : World) (lo hi : Nat) (hin : Ri lo hi w p xs) (hlen : xs.length ≤ 1048576) (hr : rowB s ring xs = false) :
    Calls Try.prog 19 #[rowV s ring p xs.length cap] w fun e w' => ∃ v, e = .returned (.tuple #[v, .bool false]) ∧ OutP w.heap.size w' v [] ∧ Below w.heap.size w w' := by
  have hb := (box_below w s ring p xs.length cap 28).alloc (by simp) (.cells #[] 55)
  have R := Lib.hid (fun fv => seatsR_no s ring p cap xs fv _ lo hi (hin.below hb hin.top) hlen hr)
  have hO0 := OutP.nilLit (w.alloc (.cells #[.int .i64 s, .bool ring, .slice p xs.length cap] 28))
  have hs0 : (w.alloc (.cells #[.int .i64 s, .bool ring, .slice p xs.length cap] 28)).heap.size = w.heap.size + 1 := by simp
  rw [hs0] at hO0
  have HO0 := Lib.hid (hO0.mono (Nat.le_succ _))
  have HX0 := Lib.hid ((OwnArr.made w 28 [.int .i64 s, .bool ring, .slice p xs.length cap]).alloc (.cells #[] 55))
  have HB := Lib.hid hb
  clear hb hin hr hO0 hs0
  obtain ⟨c0, c1, c2, -⟩ := HX0.out.three
  go_enter Try.func19, Try.ntmps19
  go_wp2_with fail
  refine (R.out _).mono ?_
  rintro e w1 ⟨v, rfl, hO, hb1⟩
  obtain ⟨q, c, rfl, -⟩ := hO.rd
  have HO1 := Lib.hid (HO0.out.below hb1)
  have HB1 := Lib.hid (HB.out.trans (hb1.mono HB.out.size))
  clear hO hb1 HO0 HB c0 c1 c2 R HX0
  go_wp2_with fail
  refine wp_loop_rounds 1 ?_
  rw [rounds_succ]
  go_wp2_with fail
  go_ret2
  exact ⟨_, rfl, HO1.out, HB1.out⟩
end Go.Proofs.Ytbgmfjhcgfnfoaa
