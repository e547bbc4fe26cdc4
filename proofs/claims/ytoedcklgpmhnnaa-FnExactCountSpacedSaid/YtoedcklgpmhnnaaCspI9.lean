/- Chapter 9, impl side: impl.CountSpaced. -/
import Derived.Test.YtoedcklgpmhnnaaTelI9
import Derived.Test.YtoedcklgpmhnnaaSpoI9
import Derived.Test.YtoedcklgpmhnnaaCtsS9
import Derived.Deep.RegionHeld3
namespace Go.Proofs.Ytoedcklgpmhnnaa
open Go.RowKit

/-- a whole array is read at a step of a region that draws its order -/
theorem step_loadArr {P : Program} {ops : Array Oper} {o : Oper} {a : Act} {w : World} {K : Act → World → Prop} {Q : Exit → Act → World → Prop} {E : Prop} (hgd : o.guard = none) (ty : TypeId) (x : Operand) (ho : o.op = .load ty x)
    (b off : Nat) (hx : a.eval x = .pointer (some ⟨b, off, none⟩)) (cs : List Value) (d : TypeDesc) (hc : w.rangeAt b off cs)
    (hu : P.underlying ty = some d) (hd : d.isRow = true) (hi : (P.info? ty).map (·.size) = some cs.length)
    (h : K (a.put o.dst (.agg cs.toArray)) w) : if Region.wanted o (yielded ops a.tmps) = true then Oper.wp P o a w K Q else E := by
  rw [if_pos (by simp [Region.wanted, hgd])]
  exact wp_load_mid ty x ho b off hx cs d hc hu hd hi h

theorem World.size_setCells9 (b : Nat) : ∀ (vs : List Value) (o : Nat) (w : World), (w.setCells b o vs).heap.size = w.heap.size
  | [], _, _ => rfl
  | v :: vs, o, w => by
    show ((w.setCell ⟨b, o, none⟩ v).setCells b (o + 1) vs).heap.size = _
    rw [World.size_setCells9 b vs (o + 1)]
    simp [World.setCell]
theorem there_alloc9 (w : World) (cells : Array Value) (n : Nat) (hn : n ≤ cells.size) : (w.alloc (.cells cells 55)).there w.heap.size 0 n := by
  have h := OwnArr.made w 55 cells.toList
  rw [Array.toArray_toList] at h
  exact h.thereA (by simpa using hn)
theorem run_buildOne (w : World) : (Instr.build 55 #[(0, .int .i64 1)]).run Try.prog w = .ok (.agg (cv oneA).toArray) w := by kernel_rfl
theorem wpList_buildOne {ops : Array Oper} {rest : List Oper} {o : Oper} {a : Act} {w : World} {Q : Exit → Act → World → Prop} (hg : o.guard = none) (ho : o.op = .build 55 #[(0, .const (.int .i64 1))])
    (h : wpList Try.prog ops Q rest (a.put o.dst (.agg (cv oneA).toArray)) w) : wpList Try.prog ops Q (o :: rest) a w :=
  wpList_plain hg fun _ hK => by
    have hb : (Instr.build 55 (#[(0, Operand.const (.int .i64 1))].map fun (i, x) => (i, a.eval x))).run Try.prog w = .ok (.agg (cv oneA).toArray) w := by
      have e : (#[((0 : Nat), Operand.const (.int .i64 1))].map fun (i, x) => (i, a.eval x)) = #[(0, .int .i64 1)] := by simp [Act.eval]
      rw [e]
      exact run_buildOne w
    unfold Oper.wp execOp
    simp only [ho, Sem.run_bind, hb, Result.andThen_ok]
    exact hK _ _ h

theorem cells25 {w : World} {g : Nat} {e : TypeId} (h : OwnArr w g e (cv oneA)) : w.cell? ⟨g, 0, none⟩ = some (.int .i64 1) ∧ w.cell? ⟨g, 1, none⟩ = some (.int .i64 0) ∧ w.cell? ⟨g, 2, none⟩ = some (.int .i64 0) ∧ w.cell? ⟨g, 3, none⟩ = some (.int .i64 0) ∧ w.cell? ⟨g, 4, none⟩ = some (.int .i64 0) ∧ w.cell? ⟨g, 5, none⟩ = some (.int .i64 0) ∧ w.cell? ⟨g, 6, none⟩ = some (.int .i64 0) ∧ w.cell? ⟨g, 7, none⟩ = some (.int .i64 0) ∧ w.cell? ⟨g, 8, none⟩ = some (.int .i64 0) ∧ w.cell? ⟨g, 9, none⟩ = some (.int .i64 0) ∧ w.cell? ⟨g, 10, none⟩ = some (.int .i64 0) ∧ w.cell? ⟨g, 11, none⟩ = some (.int .i64 0) ∧ w.cell? ⟨g, 12, none⟩ = some (.int .i64 0) ∧ w.cell? ⟨g, 13, none⟩ = some (.int .i64 0) ∧ w.cell? ⟨g, 14, none⟩ = some (.int .i64 0) ∧ w.cell? ⟨g, 15, none⟩ = some (.int .i64 0) ∧ w.cell? ⟨g, 16, none⟩ = some (.int .i64 0) ∧ w.cell? ⟨g, 17, none⟩ = some (.int .i64 0) ∧ w.cell? ⟨g, 18, none⟩ = some (.int .i64 0) ∧ w.cell? ⟨g, 19, none⟩ = some (.int .i64 0) ∧ w.cell? ⟨g, 20, none⟩ = some (.int .i64 0) ∧ w.cell? ⟨g, 21, none⟩ = some (.int .i64 0) ∧ w.cell? ⟨g, 22, none⟩ = some (.int .i64 0) ∧ w.cell? ⟨g, 23, none⟩ = some (.int .i64 0) ∧ w.cell? ⟨g, 24, none⟩ = some (.int .i64 0) :=
  ⟨h.cell 0, h.cell 1, h.cell 2, h.cell 3, h.cell 4, h.cell 5, h.cell 6, h.cell 7, h.cell 8, h.cell 9, h.cell 10, h.cell 11, h.cell 12, h.cell 13, h.cell 14, h.cell 15, h.cell 16, h.cell 17, h.cell 18, h.cell 19, h.cell 20, h.cell 21, h.cell 22, h.cell 23, h.cell 24⟩
theorem lit25 : (cv oneA).toArray = #[Value.int .i64 1, Value.int .i64 0, Value.int .i64 0, Value.int .i64 0, Value.int .i64 0, Value.int .i64 0, Value.int .i64 0, Value.int .i64 0, Value.int .i64 0, Value.int .i64 0, Value.int .i64 0, Value.int .i64 0, Value.int .i64 0, Value.int .i64 0, Value.int .i64 0, Value.int .i64 0, Value.int .i64 0, Value.int .i64 0, Value.int .i64 0, Value.int .i64 0, Value.int .i64 0, Value.int .i64 0, Value.int .i64 0, Value.int .i64 0, Value.int .i64 0] := by kernel_rfl

set_option maxHeartbeats 1000000 in
theorem countSpacedI_bad (s : Int) (ring : Bool) (p : Option Addr) (cap : Nat) (xs : List Int) (k d : Int) (w : World) (lo hi : Nat) (hin : Ri lo hi w p xs) (hlen : xs.length ≤ 1048576) (hr : ((rowB s ring xs && decide (1 ≤ d)) && (decide (0 ≤ k) && decide (k ≤ 24))) = false) :
    Calls Try.prog 17 #[rowV s ring p xs.length cap, .int .i64 k, .int .i64 d] w fun e w' => e = .returned (.tuple #[.int .i64 0, .bool false]) ∧ Below w.heap.size w w' := by
  have hB := (box_below w s ring p xs.length cap 28).alloc (by simp) (.cells #[.int .i64 k] 3)
  have I := canSpace_any s ring p cap xs d _ lo hi (hin.below hB hin.top) hlen
  have hK : OwnArr ((w.alloc (.cells #[.int .i64 s, .bool ring, .slice p xs.length cap] 28)).alloc (.cells #[.int .i64 k] 3)) (w.heap.size + 1) 3 [.int .i64 k] := by
    have := OwnArr.made (w.alloc (.cells #[.int .i64 s, .bool ring, .slice p xs.length cap] 28)) 3 [.int .i64 k]
    rw [World.size_alloc] at this
    exact this
  obtain ⟨b, hb⟩ : ∃ b, (rowB s ring xs && decide (1 ≤ d)) = b := ⟨_, rfl⟩
  rw [hb] at I hr
  replace I := Lib.hid I
  obtain ⟨m0, hm0⟩ : ∃ m, xs.length = m := ⟨_, rfl⟩
  rw [hm0] at hB I hK ⊢
  have HB := Lib.hid hB
  have HK := Lib.hid hK
  clear hin hm0 hlen hB hb hK
  cases b with
  | false =>
    go_enter Try.func17, Try.ntmps17
    go_wp2_with fail
    refine I.out.mono ?_
    rintro e w2 ⟨rfl, hb2⟩
    have HB2 := Lib.hid (HB.out.trans (hb2.mono HB.out.size))
    clear I HB hb2 hr
    go_wp2_with fail
    go_ret2
    exact ⟨rfl, HB2.out⟩
  | true =>
    by_cases h0 : k < 0
    · clear hr
      go_enter Try.func17, Try.ntmps17
      go_wp2_with fail
      refine I.out.mono ?_
      rintro e w2 ⟨rfl, hb2⟩
      have HB2 := Lib.hid (HB.out.trans (hb2.mono HB.out.size))
      have hk2 := (HK.out.below hb2 HK.out.lt).cell 0
      simp only [List.getElem?_cons_zero] at hk2
      clear I HB hb2 HK
      go_wp2_with fail
      go_ret2
      exact ⟨rfl, HB2.out⟩
    · have h1 : 24 < k := by
        simp only [Bool.true_and, Bool.and_eq_false_iff, decide_eq_false_iff_not] at hr
        omega
      clear hr
      go_enter Try.func17, Try.ntmps17
      go_wp2_with fail
      refine I.out.mono ?_
      rintro e w2 ⟨rfl, hb2⟩
      have HB2 := Lib.hid (HB.out.trans (hb2.mono HB.out.size))
      have hk2 := (HK.out.below hb2 HK.out.lt).cell 0
      simp only [List.getElem?_cons_zero] at hk2
      clear I HB hb2 HK
      go_wp2_with fail
      go_ret2
      exact ⟨rfl, HB2.out⟩

set_option maxRecDepth 4000 in
set_option maxHeartbeats 2000000 in
theorem countSpacedI_any (n : Nat) (ring : Bool) (p : Option Addr) (cap : Nat) (S : Nat → Bool) (k D : Nat) (w : World) (lo hi : Nat) (hin : Ri lo hi w p (ints (tk n S))) (hr : rowB n ring (ints (tk n S)) = true) (hk : k ≤ 24) (hD : 1 ≤ D) :
    Calls Try.prog 17 #[rowV n ring p (ints (tk n S)).length cap, .int .i64 (k : Int), .int .i64 (D : Int)] w fun e w' => e = .returned (.tuple #[.int .i64 ((spkM n ring D (opn n ring S D) k : Nat) : Int), .bool true]) ∧ Below w.heap.size w w' := by
  obtain ⟨n', S', e', -, h2, hn', h3'⟩ := rowB_is hr
  obtain rfl : n = n' := by omega
  have hlen := ints_tk_len n S
  have hB := (box_below w n ring p (ints (tk n S)).length cap 28).alloc (by simp) (.cells #[.int .i64 (k : Int)] 3)
  have I := canSpace_any n ring p cap (ints (tk n S)) (D : Int) _ lo hi (hin.below hB hin.top) (by omega)
  rw [hr, decide_eq_true (show (1 : Int) ≤ (D : Int) by omega)] at I
  replace I := Lib.hid I
  have hX : OwnArr ((w.alloc (.cells #[.int .i64 n, .bool ring, .slice p (ints (tk n S)).length cap] 28)).alloc (.cells #[.int .i64 (k : Int)] 3)) w.heap.size 28 [.int .i64 n, .bool ring, .slice p (ints (tk n S)).length cap] := (OwnArr.made w _ [_, _, _]).alloc _
  have hK : OwnArr ((w.alloc (.cells #[.int .i64 n, .bool ring, .slice p (ints (tk n S)).length cap] 28)).alloc (.cells #[.int .i64 (k : Int)] 3)) (w.heap.size + 1) 3 [.int .i64 (k : Int)] := by
    have := OwnArr.made (w.alloc (.cells #[.int .i64 n, .bool ring, .slice p (ints (tk n S)).length cap] 28)) 3 [.int .i64 (k : Int)]
    rw [World.size_alloc] at this
    exact this
  have SPO := Lib.hid (fun (w' : World) (h' : Below w.heap.size w w') => spacingOf_any n ring p cap S D w' lo hi (hin.below h' hin.top) h2 hn' h3')
  have hol : (opn n ring S D).length ≤ 24 := Nat.le_trans (tk_length_le n _) hn'
  have TEL := Lib.hid (fun (m : Nat) (qo : Option Addr) (c cb kb c0 : Nat) (w' : World) (lo hi : Nat) (h1 : Ri lo hi w' qo (ints (opn n ring S D))) (hs : cb < lo ∨ hi ≤ cb) (hlc : (opn n ring S D).length ≤ c) (hcm : c ≤ maxLen) (hC : OwnArr w' cb 3 [.int .i64 (c0 : Int)]) (hK : OwnArr w' kb 3 [.int .i64 (k : Int)]) (hne : kb ≠ cb) (hc0 : c0 ≤ 1) => tellEndings_any n ring p m cap D qo c (opn n ring S D) cb kb k c0 w' lo hi h1 hs (opn_sorted _ _ _ _) opn_lt hol hlc hcm hn' hD hC hK hne hk hc0)
  have hfin := firU_all (n := n) (ring := ring) (d := D) (l := opn n ring S D) k
  obtain ⟨V, hV⟩ : ∃ V, spkM n ring D (opn n ring S D) k = V := ⟨_, rfl⟩
  rw [hV] at hfin ⊢
  obtain ⟨l, hl⟩ : ∃ l, opn n ring S D = l := ⟨_, rfl⟩
  simp only [hl] at hfin SPO TEL
  have HFIN := Lib.hid hfin
  obtain ⟨m0, hm0⟩ : ∃ m, (ints (tk n S)).length = m := ⟨_, rfl⟩
  rw [hm0] at hB I hX hK ⊢
  simp only [hm0] at SPO
  have HB := Lib.hid hB
  have HX := Lib.hid hX
  have HK := Lib.hid hK
  have hk0 : ¬ (k : Int) < 0 := by omega
  have hk24 : ¬ (24 : Int) < (k : Int) := by omega
  have hki : (k : Int) < 25 := by omega
  have hkp : (0 : Int) ≤ (k : Int) := by omega
  clear hin hm0 hlen hB hK hX hV hl hfin hol h2 h3' hr e'
  go_enter Try.func17, Try.ntmps17
  go_wp2_with fail
  refine I.out.mono ?_
  rintro e w2 ⟨rfl, hb2⟩
  have HB2 := Lib.hid (HB.out.trans (hb2.mono HB.out.size))
  have HK2 := Lib.hid (HK.out.below hb2 HK.out.lt)
  have HX2 := Lib.hid (HX.out.below hb2 HX.out.lt)
  have hk2 := HK2.out.cell 0
  simp only [List.getElem?_cons_zero] at hk2
  obtain ⟨c0, c1, c2, -⟩ := HX2.out.three
  obtain ⟨w3, hw3⟩ : ∃ w3, w3 = (w2.alloc (.cells (List.replicate 25 (Value.int .i64 0)).toArray 55)).setCells w2.heap.size 0 (cv oneA).toArray.toList := ⟨_, rfl⟩
  have HW3 : Hid ((w2.alloc (.cells #[Value.int .i64 0, Value.int .i64 0, Value.int .i64 0, Value.int .i64 0, Value.int .i64 0, Value.int .i64 0, Value.int .i64 0, Value.int .i64 0, Value.int .i64 0, Value.int .i64 0, Value.int .i64 0, Value.int .i64 0, Value.int .i64 0, Value.int .i64 0, Value.int .i64 0, Value.int .i64 0, Value.int .i64 0, Value.int .i64 0, Value.int .i64 0, Value.int .i64 0, Value.int .i64 0, Value.int .i64 0, Value.int .i64 0, Value.int .i64 0, Value.int .i64 0] 55)).setCells w2.heap.size 0 (cv oneA).toArray.toList = w3) := hw3.symm
  have hb23 : Below w2.heap.size w2 w3 := by rw [hw3]; exact below_grownA (grown_setCellsA _ _ _ (grown_allocA (grown_reflA w2 none) _) (.inr (Nat.le_refl _)))
  have hE3 : OwnArr w3 w2.heap.size 55 (cv oneA) := by
    rw [hw3]
    exact (OwnArr.made w2 _ (List.replicate 25 (Value.int .i64 0))).setAllA (by rw [cv_len, List.length_replicate])
  have hk3 := (HK2.out.below hb23 HK2.out.lt).cell 0
  simp only [List.getElem?_cons_zero] at hk3
  have he3 := hE3.cell k
  rw [cv_get (by omega)] at he3
  obtain ⟨o1, ho1⟩ : ∃ o, oneA k = o := ⟨_, rfl⟩
  rw [ho1] at he3
  have hs3 : w3.heap.size = w2.heap.size + 1 := by rw [hw3]; exact (World.size_setCells9 _ _ _ _).trans (World.size_alloc _ _)
  obtain ⟨w4, hw4⟩ : ∃ w4, w4 = w3.alloc (.cells #[.int .i64 (o1 : Int)] 3) := ⟨_, rfl⟩
  have HW4 : Hid (w3.alloc (.cells #[.int .i64 (o1 : Int)] 3) = w4) := hw4.symm
  have hb34 : Below w3.heap.size w3 w4 := by rw [hw4]; exact (Below.refl _ _).alloc (Nat.le_refl _) _
  have HC4 : Hid (OwnArr w4 w3.heap.size 3 [.int .i64 (o1 : Int)]) := by rw [hw4]; exact OwnArr.made w3 _ [_]
  have hb24 : Below w2.heap.size w2 w4 := hb23.trans (hb34.mono (by omega))
  have HE4 := Lib.hid (hE3.below hb34 hE3.lt)
  have HX4 := Lib.hid (HX2.out.below hb24 HX2.out.lt)
  have HK4 := Lib.hid (HK2.out.below hb24 HK2.out.lt)
  have HB4 := Lib.hid (HB2.out.trans (hb24.mono HB2.out.size))
  have HO1 := Lib.hid ho1
  have ho1b : o1 ≤ 1 := by rw [← ho1]; unfold oneA; split <;> omega
  have hsz : w.heap.size + 1 < w3.heap.size ∧ w.heap.size ≤ w3.heap.size ∧ w2.heap.size < w3.heap.size := by
    have := HK2.out.lt
    omega
  have HSZ := Lib.hid hsz
  obtain ⟨E0, hE0⟩ : ∃ E0, cv oneA = E0 := ⟨_, rfl⟩
  have HEL : Hid (E0.length = 25) := by show _ = _; rw [← hE0]; exact cv_len _
  have HE0 := Lib.hid hE0
  clear I HB hb2 HK HX hw3 hw4 hb23 hb34 hb24 hE3 hs3 ho1 hE0 hsz
  have hall := cv_one oneA
  have hcz : (cv oneA).toArray.size = 25 := by rw [List.size_toArray, cv_len]
  have hsz2 : (Try.prog.info? 55).map (·.size) = some (cv oneA).toArray.size := by rw [infoCts, hcz]
  rw [← HE0.out] at HEL
  have HALL := Lib.hid hall
  have HSZ2 := Lib.hid hsz2
  have HCZ := Lib.hid hcz
  clear hall hcz hsz2
  go_upto_region 3 with fail
  go_wp2_with (first
    | (refine wpList_buildOne rfl rfl ?_)
    | (refine wpList_store_mid rfl 55 _ _ rfl w2.heap.size 0 (cv oneA).toArray (by rfl) (by rfl) (there_alloc9 w2 _ _ (by rw [HCZ.out]; exact Nat.le_refl _)) HSZ2.out HALL.out ?_; rw [HW3.out]))
  clear c0 c1 c2 hk2
  rw [HW4.out]
  clear hk3 he3
  obtain ⟨c0, c1, c2, -⟩ := HX4.out.three
  have SP := Lib.hid (SPO.out w4.drew HB4.out.drew)
  have HV6 : Hid (o1 + firU n ring D l k l.length = V) := by
    show _ = _
    rw [← HO1.out]; exact HFIN.out
  have HRG4 : Hid (w4.drew.rangeAt w2.heap.size 0 (cv oneA)) := HE4.out.rangeA 0 (fun j hj => by rw [Nat.zero_add])
  go_wp2_with fail
  have hu55 := Try.underlying55
  have hi55 : (Try.prog.info? 55).map (·.size) = some (cv oneA).length := by rw [infoCts, HEL.out]
  go_region_held3 (fun w' => w'.cell? ⟨w.heap.size, 0, none⟩ = some (.int .i64 n) ∧ w'.cell? ⟨w.heap.size, 1, none⟩ = some (.bool ring) ∧ w'.cell? ⟨w.heap.size, 2, none⟩ = some (.slice p m0 cap) ∧ w'.rangeAt w2.heap.size 0 (cv oneA)) ((first | with_reducible exact ⟨c0, c1, c2, HRG4.out⟩ | with_reducible exact ⟨d0, d1, d2, HRG5.out⟩ | with_reducible exact ⟨e0, e1, e2, HRG6.out⟩ | exact ⟨c0, c1, c2, HRG4.out⟩)) ((first
    | (go_at_call 34; refine SP.out.mono ?_; rintro e w5 ⟨v5, rfl, hO5, hb5⟩; have hb45 := ((Below.refl _ w4).drew).trans hb5; have HB45 := Lib.hid hb45; obtain ⟨d0, d1, d2, -⟩ := (HX4.out.below hb45 HX4.out.lt).three; have HRG5 : Hid (w5.rangeAt w2.heap.size 0 (cv oneA)) := (HE4.out.below hb45 HE4.out.lt).rangeA 0 (fun j hj => by rw [Nat.zero_add]); obtain ⟨q5, k5, rfl, -⟩ := hO5.rd; rw [ints_length] at hO5 ⊢; obtain ⟨hR5, -, hlc5, hcm5⟩ := hO5.riA; have TL := TEL.out m0 q5 k5 w3.heap.size (w.heap.size + 1) o1 w5 _ _ hR5 (.inl HC4.out.lt) hlc5 hcm5 (HC4.out.below hb45 HC4.out.lt) (HK4.out.below hb45 HK4.out.lt) (by have := HSZ.out.1; omega) ho1b; replace TL := Lib.hid TL; clear hO5 hb5 hb45 hR5 hlc5 hcm5)
    | (go_at_call 39; refine TL.out.mono ?_; rintro e w6 ⟨rfl, hC6, hg6⟩; obtain ⟨e0, e1, e2, -⟩ := ((HX4.out.below HB45.out HX4.out.lt).grown hg6 (by have := HSZ.out.1; simp only [Option.some.injEq]; omega)).three; have HRG6 : Hid (w6.rangeAt w2.heap.size 0 (cv oneA)) := ((HE4.out.below HB45.out HE4.out.lt).grown hg6 (by have := HSZ.out.2.2; simp only [Option.some.injEq]; omega)).rangeA 0 (fun j hj => by rw [Nat.zero_add]); rw [HV6.out] at hC6; have HC6 := Lib.hid hC6; have HB6 := Lib.hid ((HB4.out.trans (HB45.out.mono HB4.out.size)).grown hg6 (Nat.le_trans HB4.out.size HB45.out.size) (fun j ej => by have := HSZ.out.2.1; simp only [Option.some.injEq] at ej; omega)); clear hC6 hg6)))
  all_goals
    have hv6 := HC6.out.cell 0
    simp only [List.getElem?_cons_zero] at hv6
    go_wp2_with fail
    go_ret2
    exact ⟨rfl, HB6.out⟩
end Go.Proofs.Ytoedcklgpmhnnaa

