/- Chapter 5, impl side: impl.OwnTable. -/
import Derived.Test.YtkbpfjhikabbmaaTab5
import Derived.Test.YtkbpfjhikabbmaaShO5
namespace Go.Proofs.Ytkbpfjhikabbmaa
open Go.RowKit Go.Shelf
attribute [local go_sem] Oper.semAt_some

/-- the sums so far, those of the first i travelers with one seating more -/
def mixM (n k : Nat) (pre : List (List Int)) (x : List Int) (i : Nat) : List Nat := (List.range n).map fun q => if q < i then tabM n k (pre ++ [x]) q else tabM n k pre q
def sumM5 (n k : Nat) (pre : List (List Int)) : List Nat := (List.range n).map fun q => tabM n k pre q
theorem mix_zero (n k : Nat) (pre : List (List Int)) (x : List Int) : mixM n k pre x 0 = sumM5 n k pre := by
  unfold mixM sumM5
  apply List.map_congr_left
  intro q _
  rw [if_neg (by omega)]
theorem mix_full (n k : Nat) (pre : List (List Int)) (x : List Int) : mixM n k pre x n = sumM5 n k (pre ++ [x]) := by
  unfold mixM sumM5
  apply List.map_congr_left
  intro q hq
  rw [if_pos (List.mem_range.1 hq)]
theorem mix_at {n k : Nat} {pre : List (List Int)} {x : List Int} {i : Nat} (hi : i < n) : (iv (ints (mixM n k pre x i)))[i]? = some (.int .i64 ((tabM n k pre i : Nat) : Int)) := by
  unfold iv ints mixM
  rw [List.getElem?_map, List.getElem?_map, List.getElem?_map, List.getElem?_range hi]
  simp
theorem mix_set {n k : Nat} {pre : List (List Int)} {x : List Int} {i : Nat} (hi : i < n) : (iv (ints (mixM n k pre x i))).set i (.int .i64 ((tabM n k (pre ++ [x]) i : Nat) : Int)) = iv (ints (mixM n k pre x (i + 1))) := by
  apply List.ext_getElem?
  intro q
  unfold iv ints mixM
  by_cases e : i = q
  · subst e
    rw [List.getElem?_set_self (by simpa using hi), List.getElem?_map, List.getElem?_map, List.getElem?_map, List.getElem?_range hi]
    simp
  · rw [List.getElem?_set_ne e]
    simp only [List.getElem?_map]
    by_cases hq : q < n
    · rw [List.getElem?_range hq]
      simp only [Option.map_some]
      by_cases h : q < i
      · rw [if_pos h, if_pos (by omega)]
      · rw [if_neg h, if_neg (by omega)]
    · rw [List.getElem?_eq_none (by simp; omega)]
      rfl
theorem mix_skip {n k : Nat} {pre : List (List Int)} {x : List Int} {i : Nat} (hi : i < n) (h : tabM n k (pre ++ [x]) i = tabM n k pre i) : mixM n k pre x (i + 1) = mixM n k pre x i := by
  unfold mixM
  apply List.map_congr_left
  intro q _
  by_cases e : q = i
  · subst e
    rw [if_pos (by omega), if_neg (by omega), h]
  · by_cases h1 : q < i
    · rw [if_pos (by omega), if_pos h1]
    · rw [if_neg (by omega), if_neg h1]

/-- what OwnTable's loop keeps -/
def TbI (w0 : World) (n k : Nat) (L pb fb mb : Nat) (rec : Loop) (pre : List (List Int)) (S : Nat → Prop) (W : World) : Prop :=
  W.heap[L]? = some (.loop rec) ∧ OwnArr W pb 42 [.int .i64 (n : Nat), .int .i64 (k : Nat)] ∧ OwnArr W fb 33 [.slice (some ⟨mb, 0, none⟩) n n] ∧ OwnArr W mb 3 (iv (ints (sumM5 n k pre))) ∧ (∀ j, j < w0.heap.size → W.heap[j]? = w0.heap[j]?) ∧ ∀ j, S j ↔ (j < w0.heap.size ∨ j = L ∨ j = pb ∨ j = fb ∨ j = mb)
theorem tb_loc {w0 : World} {n k L pb fb mb : Nat} {rec : Loop} (pre : List (List Int)) (S : Nat → Prop) (W W' : World) (h : TbI w0 n k L pb fb mb rec pre S W) (_ : ∀ j, S j → j < W.heap.size) (hs : ∀ j, S j → W'.heap[j]? = W.heap[j]?) : TbI w0 n k L pb fb mb rec pre S W' := by
  obtain ⟨q1, q2, q3, q4, q5, q6⟩ := h
  exact ⟨(hs L ((q6 L).2 (by omega))).trans q1, own_same5 q2 (hs pb ((q6 pb).2 (by omega))), own_same5 q3 (hs fb ((q6 fb).2 (by omega))), own_same5 q4 (hs mb ((q6 mb).2 (by omega))), fun j hj => (hs j ((q6 j).2 (.inl hj))).trans (q5 j hj), q6⟩
theorem tb_after {w0 : World} {n k L pb fb mb : Nat} {rec rb : Loop} {pre : List (List Int)} {S : Nat → Prop} {X X3 : World} {x : List Int} {xb : Nat} (hI : TbI w0 n k L pb fb mb rec pre S X) (hlt : ∀ j, S j → j < X.heap.size) (hd : w0.heap.size ≤ L ∧ w0.heap.size ≤ mb ∧ pb ≠ L ∧ fb ≠ L ∧ mb ≠ L ∧ pb ≠ mb ∧ fb ≠ mb)
    (hk : KeepP (fun j => j = mb) (X.putObj L (.loop rb)) X3) (hm : OwnArr X3 mb 3 (iv (ints (sumM5 n k (pre ++ [x]))))) :
    X3.heap[L]? = some (.loop rb) ∧ (KeepP S X (X3.putObj L (.loop rec)) ∧ ∃ S', (∀ j, S' j → j < (X3.putObj L (.loop rec)).heap.size ∧ (S j ∨ j = xb ∨ X.heap.size ≤ j)) ∧ TbI w0 n k L pb fb mb rec (pre ++ [x]) S' (X3.putObj L (.loop rec))) := by
  obtain ⟨q1, q2, q3, q4, q5, q6⟩ := hI
  have hSL : S L := (q6 L).2 (by omega)
  have hLX := hlt L hSL
  have s1 : (X.putObj L (.loop rb)).heap.size = X.heap.size := by simp
  have hks := hk.size
  have k1 : KeepP (fun j => j = L ∨ j = mb) X X3 := ((KeepP.refl (fun j => j = L ∨ j = mb) X).put (.inl (.inl rfl)) (.loop rb)).same (hk.mono (fun _ h => .inr h))
  have k2 : KeepP (fun j => j = L ∨ j = mb) X (X3.putObj L (.loop rec)) := k1.put (.inl (.inl rfl)) _
  have hTS : ∀ j, (j = L ∨ j = mb) → S j := fun j h => (q6 j).2 (by omega)
  refine ⟨by rw [hk.block L (by omega) (fun e => hd.2.2.2.2.1 e.symm)]; exact World.putObj_heap_same hLX, k2.mono hTS, S, fun j hj => ⟨by have := hlt j hj; have := k2.size; omega, .inl hj⟩, World.putObj_heap_same (by omega), k2.own q2 (by omega), k2.own q3 (by omega), put_own5 hm hd.2.2.2.2.1, fun j hj => ?_, q6⟩
  rw [k2.block j (hlt j ((q6 j).2 (.inl hj))) (by omega)]
  exact q5 j hj
theorem sum_nil (n k : Nat) : iv (ints (sumM5 n k [])) = List.replicate n (.int .i64 0) := by
  have e : sumM5 n k [] = List.replicate n 0 := by
    unfold sumM5
    apply List.ext_getElem?
    intro q
    by_cases h : q < n
    · rw [List.getElem?_map, List.getElem?_range h, List.getElem?_replicate, if_pos h]; rfl
    · rw [List.getElem?_eq_none (by simp; omega), List.getElem?_eq_none (by simp; omega)]
  rw [e]
  unfold iv ints
  rw [List.map_replicate, List.map_replicate]; rfl

set_option maxRecDepth 100000 in
set_option maxHeartbeats 4000000 in
theorem tabI_any (n k : Nat) (h1 : 1 ≤ n) (hn : n ≤ 7) (hk : k ≤ n) (w : World) :
    Calls Try.prog 12 #[.int .i64 (n : Nat), .int .i64 (k : Nat)] w fun e w' => ∃ v, e = .returned (.tuple #[v, .bool true]) ∧ OutP w.heap.size w' v (tabR n k n) ∧ Below w.heap.size w w' := by
  have V := fun w' => isValid_any (n : Int) (k : Int) w'
  rw [good5_of h1 (by omega) hk] at V
  replace V := Lib.hid V
  have HP0 : Hid (OwnArr (w.alloc (planeB n k)) w.heap.size 42 [.int .i64 (n : Nat), .int .i64 (k : Nat)]) := OwnArr.made w _ [_, _]
  have HK0 : Hid (KeepP (fun _ => False) w (w.alloc (planeB n k))) := (KeepP.refl _ w).alloc _
  obtain ⟨a0, a1⟩ := box_plane HP0.out
  have hn7 : ¬ (7 : Int) < (n : Int) := by omega
  have hmk0 := @run_make_row' Try.prog 33 3 (.int .i64 0) 8 Try.underlying33 infoInt rfl .i64 .i64 n (by omega) (by omega)
  rw [madeCells_one] at hmk0
  have HMK0 := Lib.hid hmk0
  clear hmk0
  refine (callsIn_wide (n := 9)).1 ?_
  refine callsIn_of_wp_marks Try.func12 rfl trivial ?_ rfl
  simp only [Try.ntmps12, List.size_toArray, List.length_cons, List.length_nil, Nat.reduceAdd, Nat.reduceSub, Array.replicate_succ, Array.replicate_zero, List.push_toArray, List.append_toArray, List.nil_append, List.cons_append]
  refine wpIn_wide.2 ?_
  go_wp2_with fail
  refine (V.out _).mono ?_
  rintro e w1 ⟨rfl, hb1⟩
  have hp1 := HP0.out.below hb1 HP0.out.lt
  have hk1 := HK0.out.same (Below.keepP hb1)
  have hpl1 := hp1.lt
  have hmk := HMK0.out w1
  obtain ⟨w4, hw4⟩ : ∃ w4, w1.alloc (.cells (List.replicate n (Value.int .i64 0)).toArray 3) = w4 := ⟨_, rfl⟩
  rw [hw4] at hmk
  have hm4 : OwnArr w4 w1.heap.size 3 (iv (ints (sumM5 n k []))) := by rw [sum_nil, ← hw4]; exact OwnArr.made _ _ _
  have hk4 : KeepP (fun _ => False) w w4 := by rw [← hw4]; exact hk1.alloc _
  have hp4 : OwnArr w4 w.heap.size 42 [.int .i64 (n : Nat), .int .i64 (k : Nat)] := by rw [← hw4]; exact hp1.alloc _
  have hs4 : w4.heap.size = w1.heap.size + 1 := by rw [← hw4]; simp
  obtain ⟨d0, d1⟩ := box_plane (hp4.alloc (.cells #[.slice (some ⟨w1.heap.size, 0, none⟩) n n] 33))
  obtain ⟨w5, hw5⟩ : ∃ w5, w4.alloc (.cells #[.slice (some ⟨w1.heap.size, 0, none⟩) n n] 33) = w5 := ⟨_, rfl⟩
  have hf5 : OwnArr w5 w4.heap.size 33 [.slice (some ⟨w1.heap.size, 0, none⟩) n n] := by rw [← hw5]; exact OwnArr.made _ _ _
  have hm5 : OwnArr w5 w1.heap.size 3 (iv (ints (sumM5 n k []))) := by rw [← hw5]; exact hm4.alloc _
  have hk5 : KeepP (fun _ => False) w w5 := by rw [← hw5]; exact hk4.alloc _
  have hp5 : OwnArr w5 w.heap.size 42 [.int .i64 (n : Nat), .int .i64 (k : Nat)] := by rw [← hw5]; exact hp4.alloc _
  have hs5 : w5.heap.size = w4.heap.size + 1 := by rw [← hw5]; simp
  obtain ⟨b0, b1⟩ := box_plane hp1
  have HW5 := Lib.hid hw5
  have HALL5 := Lib.hid (And.intro hf5 (And.intro hm5 (And.intro hk5 hp5)))
  have HSZ := Lib.hid (show w.heap.size < w1.heap.size ∧ w4.heap.size = w1.heap.size + 1 ∧ w5.heap.size = w4.heap.size + 1 from ⟨hpl1, hs4, hs5⟩)
  clear hb1 hp1 hk1 hpl1 hw4 hm4 hk4 hp4 hs4 hw5 hf5 hm5 hk5 hp5 hs5 a0 a1 HMK0 HK0 HP0 V
  go_wp2_with fail
  rw [HW5.out]
  refine (seatingsFrom_any _ _ _ _ _ _).mono ?_
  rintro e wE ⟨rfl, hwE⟩
  obtain ⟨hf5, hm5, hk5, hp5⟩ := HALL5.out
  obtain ⟨z1, z2, z3⟩ := HSZ.out
  have hkE : KeepP (fun _ => False) w wE := by rw [hwE]; exact (hk5.alloc _).alloc _
  have hfE : OwnArr wE w4.heap.size 33 [.slice (some ⟨w1.heap.size, 0, none⟩) n n] := by rw [hwE]; exact (hf5.alloc _).alloc _
  have hmE : OwnArr wE w1.heap.size 3 (iv (ints (sumM5 n k []))) := by rw [hwE]; exact (hm5.alloc _).alloc _
  have hpE : OwnArr wE w.heap.size 42 [.int .i64 (n : Nat), .int .i64 (k : Nat)] := by rw [hwE]; exact (hp5.alloc _).alloc _
  have hPE : OwnArr wE w5.heap.size 42 [.int .i64 (n : Nat), .int .i64 (k : Nat)] := by rw [hwE]; exact (OwnArr.made w5 _ [_, _]).alloc _
  have hBE : OwnArr wE (w5.heap.size + 1) 33 [.slice none 0 0] := by
    have h := OwnArr.made (w5.alloc (planeB (n : Int) (k : Int))) 33 [.slice none 0 0]
    rw [World.size_alloc] at h
    rw [hwE]; exact h
  have hsE : wE.heap.size = w5.heap.size + 2 := by rw [hwE]; simp
  clear hwE hf5 hm5 hk5 hp5 HALL5 HSZ hmk b0 b1 d0 d1 HW5
  go_wp2_with fail
  rw [z3, z2] at hPE hBE
  rw [z2] at hfE
  obtain ⟨bb, hbb⟩ : ∃ bb, w1.heap.size + 1 + 1 + 1 = bb := ⟨_, rfl⟩
  obtain ⟨pi, hpi⟩ : ∃ pi, w1.heap.size + 1 + 1 = pi := ⟨_, rfl⟩
  obtain ⟨fb, hfb⟩ : ∃ fb, w1.heap.size + 1 = fb := ⟨_, rfl⟩
  obtain ⟨mb, hmb⟩ : ∃ mb, w1.heap.size = mb := ⟨_, rfl⟩
  obtain ⟨pb, hpb⟩ : ∃ pb, w.heap.size = pb := ⟨_, rfl⟩
  rw [hbb] at hBE ⊢
  rw [hpi] at hPE ⊢
  rw [hfb] at hfE ⊢
  rw [hmb] at hfE hmE ⊢
  rw [show Value.pointer (some (⟨w.heap.size, 0, none⟩ : Addr)) = Value.pointer (some ⟨pb, 0, none⟩) by rw [hpb]]
  rw [hpb] at hpE
  have HALL := Lib.hid (And.intro hkE (And.intro hfE (And.intro hmE (And.intro hpE (And.intro hPE hBE)))))
  have HORD := Lib.hid (show w.heap.size = pb ∧ pb < mb ∧ fb = mb + 1 ∧ pi = fb + 1 ∧ bb = pi + 1 ∧ wE.heap.size = bb + 1 from by omega)
  have HPOS := Lib.hid (seat_poss (n := n) (k := k) n [] (by simp) (by simp [possM]))
  have HTL := Lib.hid (fun j i => tab_le (n := n) (k := k) j i)
  clear hkE hfE hmE hpE hPE hBE hsE hbb hpi hfb hmb hpb z1 z2 z3
  refine (wpIn_wide (n := 9)).1 ?_
  refine range_state (F := Fence.wide) (n := 9) rfl (by omega) (gf := 42) rfl trivial (enters_of Try.func42 (by kernel_rfl) rfl) ?_
  intro fn _ rec hrec
  have hC : ItC (wE.heap.size + 1) (TbI w n k (wE.heap.size + 1) pb fb mb rec) (fun pre x => ∃ b, seatM n k n [] = pre ++ x :: b) := by
    refine ⟨tb_loc, ?_⟩
    intro pre S X x xb cap2 hII hG hlt hnx hxb hc1 hc2 hcells
    obtain ⟨rb, hrb⟩ : ∃ rb, ({ rec with state := .busy } : Loop) = rb := ⟨_, rfl⟩
    have hor := HORD.out
    have AFT := Lib.hid (fun (X3 : World) hk hm => tb_after (rb := rb) (X3 := X3) (x := x) (xb := xb) hII hlt (by omega) hk hm)
    obtain ⟨q1, q2, q3, q4, q5, q6⟩ := hII
    have hxS : ∀ j, S j → xb ≠ j := fun j hj e => hnx (by rw [e]; exact hj)
    have hxL := hxS _ ((q6 (wE.heap.size + 1)).2 (by omega))
    have hxm := hxS _ ((q6 mb).2 (by omega))
    obtain ⟨bq, hbq⟩ := hG
    have hxe := HPOS.out x (by rw [hbq]; simp)
    have hxl := hxe.1
    have htk : (seatM n k n []).take (pre.length + 1) = pre ++ [x] := by
      rw [hbq, show pre ++ x :: bq = (pre ++ [x]) ++ bq by simp, List.take_left' (by simp)]
    have htl : ∀ i, tabM n k (pre ++ [x]) i ≤ 479001600 := fun i => by rw [← htk]; exact HTL.out _ i
    have hsn := fun i => tab_snoc n k pre x i
    refine yield_state trivial q1 (by rw [hrec]) (by rw [hrec]) (by rw [hrec]; rfl) ?_
    rw [hrb, congrArg Loop.assign hrec, congrArg Loop.body hrec, congrArg Loop.params hrec, congrArg Loop.tmps hrec]
    dsimp only
    rw [foldl_one7]
    simp only [List.setIfInBounds_toArray, List.set_cons_succ, List.set_cons_zero]
    have r2 := put_own5 (o := .loop rb) q2 (show pb ≠ wE.heap.size + 1 by omega)
    have r3 := put_own5 (o := .loop rb) q3 (show fb ≠ wE.heap.size + 1 by omega)
    have r4 := put_own5 (o := .loop rb) q4 (show mb ≠ wE.heap.size + 1 by omega)
    have yx := hcells.keep5 ((KeepP.refl (fun j => j = wE.heap.size + 1) X).put (.inl rfl) (.loop rb)) hxL
    obtain ⟨X1, hX1⟩ : ∃ X1, X.putObj (wE.heap.size + 1) (.loop rb) = X1 := ⟨_, rfl⟩
    simp only [hX1] at r2 r3 r4 AFT yx
    have hx1s : xb < X1.heap.size := by rw [← hX1]; simpa using hxb
    have T := Lib.hid (shareOf_any n k (some ⟨xb, 0, none⟩) cap2 x X1 0 X1.heap.size (yx.ri (Nat.zero_le _) hx1s (Nat.le_refl _)) h1 (by omega) hc1 hc2 (by rw [hxl]; omega))
    obtain ⟨c0, c1⟩ := box_plane r2
    have HCELL := Lib.hid (show ∀ X2, Below X1.heap.size X1 X2 → OwnArr X2 fb 33 [.slice (some ⟨mb, 0, none⟩) n n] ∧ OwnArr X2 mb 3 (iv (ints (sumM5 n k pre))) ∧ YL X2 xb x ∧ KeepP (fun j => j = mb) X1 X2 from fun X2 hb => ⟨r3.below hb r3.lt, r4.below hb r4.lt, yx.keep5 (S := fun _ => False) (Below.keepP hb) (fun e => e), Below.keepP hb⟩)
    rw [hxl] at T
    obtain ⟨sh, hsh⟩ : ∃ sh, shaM n k x = sh := ⟨_, rfl⟩
    rw [hsh] at T hsn
    rw [hxl]
    have HTB := Lib.hid htl
    have HSN := Lib.hid hsn
    have HXM := Lib.hid (And.intro hxm (show fb ≠ mb by omega))
    have HXL := Lib.hid hxl
    clear q2 q3 q4 q5 q6 hxS hxL hxm hbq hxe htk htl hsn r2 r3 r4 yx hx1s hlt hnx hxb hc1 hc2 hcells hrec hrb hsh hor hxl
    gi_wp2
    refine ⟨q1, ?_⟩
    rw [hX1]
    gi_wp2_with (refine ⟨trivial, ?_⟩; gi_at_call 30; refine (calls_round T.out).mono ?_; rintro e X2 ⟨rfl, hb⟩; obtain ⟨hF2, hM2, hY2, hK2⟩ := HCELL.out X2 hb)
    have HS0 : Hid (OwnArr X2 mb 3 (iv (ints (mixM n k pre x 0)))) := by show OwnArr _ _ _ _; rw [mix_zero]; exact hM2
    have HF0 := Lib.hid hF2
    have HY0 := Lib.hid hY2
    have HK0 := Lib.hid hK2
    clear hF2 hM2 hY2 hK2 hb HCELL T c0 c1 q1
    gi_loopw [33] (fun jv wq => ∃ i : Nat, i ≤ n ∧ jv = .int .i64 (i : Int) ∧ Hid (OwnArr wq mb 3 (iv (ints (mixM n k pre x i)))) ∧ Hid (OwnArr wq fb 33 [.slice (some ⟨mb, 0, none⟩) n n]) ∧ Hid (YL wq xb x) ∧ Hid (KeepP (fun j => j = mb) X1 wq)) (fun jv _ => n - (intOf jv).toNat)
    case atStart => exact ⟨0, Nat.zero_le _, rfl, HS0, HF0, HY0, HK0⟩
    case round =>
      obtain ⟨i, hi, rfl, HS, HF, HY, HK⟩ := hrel
      clear HS0 HF0 HY0 HK0
      by_cases hlt : i < n
      · have hi1 : (i : Int) < (n : Int) := by omega
        have hi0 : (0 : Int) ≤ (i : Int) := by omega
        have hwi : IntKind.i64.wrap ((i : Int) + 1) = (i : Int) + 1 := IntWalk.i64_in _ (by omega)
        have c0 := HY.out.1 i (by rw [HXL.out]; exact hlt)
        have ht1 := HTB.out i
        have hsn := HSN.out i
        have hset := mix_set (n := n) (k := k) (pre := pre) (x := x) hlt
        have hskp := mix_skip (n := n) (k := k) (pre := pre) (x := x) hlt
        have hat := mix_at (n := n) (k := k) (pre := pre) (x := x) hlt
        obtain ⟨y, hy⟩ : ∃ y, x[i]?.getD 0 = y := ⟨_, rfl⟩
        rw [hy] at c0 hsn
        by_cases hyi : y = (i : Int)
        · subst hyi
          rw [if_pos rfl] at hsn
          obtain ⟨tn, htn⟩ : ∃ t, tabM n k (pre ++ [x]) i = t := ⟨_, rfl⟩
          obtain ⟨tt, hto⟩ : ∃ t, tabM n k pre i = t := ⟨_, rfl⟩
          rw [htn] at ht1 hsn hset
          rw [hto] at hsn hat
          have hwt : IntKind.i64.wrap ((tt : Int) + (sh : Int)) = (tn : Int) := by
            rw [show (tt : Int) + (sh : Int) = (tn : Int) by omega]
            exact IntWalk.i64_in _ (by omega)
          have f0 := HF.out.cell 0
          have e0 : wr.cell? ⟨mb, i, none⟩ = some (.int .i64 (tt : Int)) := (HS.out.cell i).trans hat
          have e1 := HS.out.free i
          have hnew : Hid (OwnArr (wr.setCell ⟨mb, i, none⟩ (.int .i64 (tn : Int))) mb 3 (iv (ints (mixM n k pre x (i + 1))))) := by
            show OwnArr _ _ _ _
            rw [← hset]; exact HS.out.set i (.int .i64 (tn : Int))
          have hkn : KeepP (fun j => j = mb) wr (wr.setCell ⟨mb, i, none⟩ (.int .i64 (tn : Int))) := (KeepP.refl (fun j => j = mb) wr).set (S := fun j => j = mb) (.inl rfl) i (.int .i64 (tn : Int))
          have HF5 := Lib.hid (hkn.own HF.out HXM.out.2)
          have HY5 := Lib.hid (HY.out.keep5 hkn HXM.out.1)
          have HK5 := Lib.hid (HK.out.same hkn)
          clear hsn hset hskp hat hy htn hto ht1 hkn HS HF HY HK
          gi_wp2
          go_roundw
          case rel => exact ⟨i + 1, by omega, by go_num, hnew, HF5, HY5, HK5⟩
          case measure => simp [intOf]; omega
        · rw [if_neg hyi] at hsn
          have HS5 : Hid (OwnArr wr mb 3 (iv (ints (mixM n k pre x (i + 1))))) := by
            show OwnArr _ _ _ _
            rw [hskp hsn]; exact HS.out
          clear hsn hset hskp hat hy ht1 HS
          gi_wp2
          go_roundw
          case rel => exact ⟨i + 1, by omega, by go_num, HS5, HF, HY, HK⟩
          case measure => simp [intOf]; omega
      · have hin : i = n := by omega
        subst hin
        have hno : ¬ (i : Int) < (i : Int) := by omega
        have hfin := AFT.out wr HK.out (by rw [← mix_full]; exact HS.out)
        replace hfin := Lib.hid hfin
        clear AFT HS HF HY HK
        gi_wp2
        obtain ⟨u4, u5, S', u6, u7⟩ := hfin.out
        exact ⟨u4, u5, S', by simpa using u6, u7⟩
  obtain ⟨W5, hW5⟩ : ∃ W5, (wE.alloc (.deferred (some []))).alloc (.loop rec) = W5 := ⟨_, rfl⟩
  have hs5 : W5.heap.size = wE.heap.size + 2 := by rw [← hW5]; simp
  have hkk : ∀ T : Nat → Prop, KeepP T wE W5 := fun T => by rw [← hW5]; exact ((KeepP.refl _ _).alloc _).alloc _
  have h5L : W5.heap[wE.heap.size + 1]? = some (.loop rec) := by
    have h := World.alloc_heap_new (wE.alloc (.deferred (some []))) (.loop rec)
    rw [World.size_alloc, hW5] at h
    exact h
  have h5D : W5.heap[wE.heap.size]? = some (.deferred (some [])) := by
    rw [← hW5, Below.heap_alloc _ _ _ (by simp), World.alloc_heap_new]
  obtain ⟨hkE, hfE, hmE, hpE, hPE, hBE⟩ := HALL.out
  have hor := HORD.out
  have hI5 : TbI w n k (wE.heap.size + 1) pb fb mb rec [] (fun j => j < w.heap.size ∨ j = wE.heap.size + 1 ∨ j = pb ∨ j = fb ∨ j = mb) W5 :=
    ⟨h5L, (hkk (fun _ => False)).own hpE (fun e => e), (hkk (fun _ => False)).own hfE (fun e => e), (hkk (fun _ => False)).own hmE (fun e => e), fun j hj => ((hkk (fun _ => False)).block j (by omega) (fun e => e)).trans (hkE.block j hj (fun e => e)), fun _ => Iff.rfl⟩
  have hA5 : ItA W5 (fun j => j < w.heap.size ∨ j = wE.heap.size + 1 ∨ j = pb ∨ j = fb ∨ j = mb) n k bb pi none [] 0 bb :=
    entA5 ((hkk (fun _ => False)).own hBE (fun e => e)) ((hkk (fun _ => False)).own hPE (fun e => e)) (by omega) (by omega)
  have hIN := iter_any n k h1 (by omega) n [] (by simp) (wE.heap.size + 1) _ _ hC [] _ W5 bb pi 0 bb none hI5 (fun j hj => by omega) hA5 (fun a x b hab => ⟨b, by rw [List.nil_append]; exact hab⟩)
  rw [hW5]
  clear hC hI5 hA5 hrec
  refine ((callsIn_wide (n := 9 - 1)).2 ((callsIn_wide (n := 9)).1 hIN)).mono ?_
  rintro e W6 ⟨⟨v, rfl⟩, hk6, S6, hS6, g1, g2, g3, g4, g5, g6⟩
  rw [List.nil_append] at g4
  have hput := grownBy_putObj' W6 (wE.heap.size + 1) (.loop { rec with state := .exhausted })
  have hk7 := hk6.put (l := wE.heap.size + 1) (.inl (.inr (.inl rfl))) (.loop { rec with state := .exhausted })
  have k67 : KeepP (fun j => j = wE.heap.size + 1) W6 (W6.putObj (wE.heap.size + 1) (.loop { rec with state := .exhausted })) := KeepP.put (KeepP.refl (fun j => j = wE.heap.size + 1) W6) (.inl rfl) (.loop { rec with state := .exhausted })
  refine ⟨⟨_, rfl⟩, g1, ?_⟩
  change Exit.inBlock _ _ _ _ (W6.putObj _ _)
  obtain ⟨W7, hW7⟩ : ∃ W7, W6.putObj (wE.heap.size + 1) (.loop { rec with state := .exhausted }) = W7 := ⟨_, rfl⟩
  rw [hW7] at hput hk7 k67 ⊢
  have h6s := hk6.size
  have h7s := k67.size
  have hes := hkE.size
  have m7 := k67.own g4 (show ¬ mb = wE.heap.size + 1 by omega)
  have f7 := k67.own g3 (show ¬ fb = wE.heap.size + 1 by omega)
  have hr7 : Ri 0 W7.heap.size W7 (some ⟨mb, 0, none⟩) (ints (sumM5 n k (seatM n k n []))) := by
    have := Rd.of_own m7 (Nat.zero_le _) m7.lt (Nat.le_refl _) (sumM5 n k (seatM n k n [])).length
    rw [List.take_of_length_le (by rw [iv_length, ints_length]; exact Nat.le_refl _)] at this
    exact this
  have hsl : (sumM5 n k (seatM n k n [])).length = n := by unfold sumM5; rw [List.length_map, List.length_range]
  have CO := chancesOf_any (some ⟨mb, 0, none⟩) n (sumM5 n k (seatM n k n [])) W7 _ _ hr7 (fun c hc => by
    unfold sumM5 at hc
    obtain ⟨i, -, rfl⟩ := List.mem_map.1 hc
    have := HTL.out (seatM n k n []).length i
    rw [List.take_length] at this
    omega) (by rw [hsl]; omega)
  rw [ints_length, hsl] at CO
  have hres : chM (sumM5 n k (seatM n k n [])) = tabR n k n := by unfold chM sumM5 tabR; rw [List.map_map]; rfl
  rw [hres] at CO
  replace CO := Lib.hid CO
  have HB7 : Hid (Below w.heap.size w W7) := by
    show Below _ _ _
    have kT : KeepP (fun _ => True) w W7 := ((hkE.mono (fun _ _ => trivial)).same (hkk _)).same (hk7.mono (fun _ _ => trivial))
    refine ⟨kT.os, kT.tape, kT.output, kT.size, fun j hj => ?_⟩
    rw [k67.block j (by omega) (by omega)]
    exact g5 j hj
  have HMK := Lib.hid (show Marks [wE.heap.size] W7 from ⟨by simp, fun D hD => by
    simp only [List.mem_cons, List.not_mem_nil, or_false] at hD
    subst hD
    rw [hk7.block _ (by omega) (by omega)]
    exact h5D⟩)
  have HDS := Lib.hid (show wE.heap.size < W7.heap.size ∧ w.heap.size ≤ wE.heap.size from by omega)
  have g11 := f7.cell 0
  clear hput hk7 k67 g1 g2 g3 g4 g5 g6 hk6 hS6 hIN hor hkE hfE hmE hpE hPE hBE h5D h5L hkk hs5 hW5 hW7 HALL HORD HTL HPOS h6s h7s hes m7 f7 hr7 hsl hres
  dsimp only
  go_wp2_with fail
  refine CO.out.mono ?_
  rintro e w8 ⟨v8, rfl, hO8, hb8⟩
  have hs8 := hb8.size
  have hds := HDS.out
  have hv8 := World.ownsRow.lt hO8
  have HMK8 := Lib.hid (HMK.out.keep (S := fun _ => False) (Below.keepP hb8) (fun _ _ e => e))
  have HFIN := Lib.hid (show ∀ W', KeepP (fun k => k ∈ [wE.heap.size]) w8 W' → OutP w.heap.size W' v8 (tabR n k n) ∧ Below w.heap.size w W' from fun W' hk' => by
    refine ⟨OutP.mono (row_same5 hO8 (fun g hg => hk'.block g (hv8 g hg).2 (by
      have := (hv8 g hg).1
      simp only [List.mem_cons, List.not_mem_nil, or_false]
      omega))) (by omega), ?_⟩
    refine (HB7.out.trans (hb8.mono (by omega))).trans ((hk'.below (b := wE.heap.size) (fun j hj => ?_) (by omega)).mono (by omega))
    simp only [List.mem_cons, List.not_mem_nil, or_false] at hj
    omega)
  clear hO8 hb8 hs8 hds hv8 HMK HB7 HDS CO
  go_wp2_with fail
  show LeavesInM _ _ _ _ _ _ _ _ _
  exact leaves_marks [wE.heap.size] w8 HMK8.out (fun W' hk' => ⟨_, by simp [results, Try.f12, go_sem], ⟨_, rfl, HFIN.out W' hk'⟩⟩)

/-- the other arguments -/
theorem tabI_bad (n k : Int) (w : World) (h : allB n k = false) :
    Calls Try.prog 12 #[.int .i64 n, .int .i64 k] w fun e w' => ∃ v, e = .returned (.tuple #[v, .bool false]) ∧ OutP w.heap.size w' v [] ∧ Below w.heap.size w w' := by
  have V := fun w' => isValid_any n k w'
  have HP0 : Hid (OwnArr (w.alloc (planeB n k)) w.heap.size 42 [.int .i64 n, .int .i64 k]) := OwnArr.made w _ [_, _]
  have HB0 : Hid (Below w.heap.size w (w.alloc (planeB n k))) := (Below.refl _ _).alloc (Nat.le_refl _) _
  have HS0 : Hid ((w.alloc (planeB n k)).heap.size = w.heap.size + 1) := World.size_alloc _ _
  obtain ⟨a0, a1⟩ := box_plane HP0.out
  have HN := Lib.hid (show ∀ w1 : World, Below w.heap.size w w1 → OutP w.heap.size (w1.alloc (.cells #[] 48)) (.slice (some ⟨w1.heap.size, 0, none⟩) 0 0) [] ∧ Below w.heap.size w (w1.alloc (.cells #[] 48)) from fun w1 hb => ⟨(OutP.nilLit w1).mono hb.size, hb.alloc hb.size _⟩)
  unfold allB at h
  cases hg : good5 n k with
  | false =>
    rw [hg] at V
    replace V := Lib.hid V
    clear h hg
    go_enter Try.func12, Try.ntmps12
    go_wp2_with fail
    refine (V.out _).mono ?_
    rintro e w1 ⟨rfl, hb1⟩
    have HB1 := Lib.hid (HB0.out.trans (hb1.mono (by rw [HS0.out]; omega)))
    clear hb1
    go_wp2_with fail
    go_ret2
    exact ⟨_, rfl, HN.out w1 HB1.out⟩
  | true =>
    rw [hg] at V
    replace V := Lib.hid V
    rw [hg, Bool.true_and, decide_eq_false_iff_not] at h
    have h7 : (7 : Int) < n := by omega
    clear h hg
    go_enter Try.func12, Try.ntmps12
    go_wp2_with fail
    refine (V.out _).mono ?_
    rintro e w1 ⟨rfl, hb1⟩
    have HB1 := Lib.hid (HB0.out.trans (hb1.mono (by rw [HS0.out]; omega)))
    clear hb1
    go_wp2_with fail
    go_ret2
    exact ⟨_, rfl, HN.out w1 HB1.out⟩
theorem tabS_bad (n k : Int) (w : World) (h : allB n k = false) :
    Calls Try.prog 11 #[.int .i64 n, .int .i64 k] w fun e w' => ∃ v, e = .returned (.tuple #[v, .bool false]) ∧ OutP w.heap.size w' v [] ∧ Below w.heap.size w w' := by
  have G := fun w' => l5Good_any n k w'
  have HN : Hid (OutP w.heap.size (w.alloc (.cells #[] 48)) (.slice (some ⟨w.heap.size, 0, none⟩) 0 0) [] ∧ Below w.heap.size w (w.alloc (.cells #[] 48))) := ⟨OutP.nilLit w, (Below.refl _ _).alloc (Nat.le_refl _) _⟩
  unfold allB at h
  cases hg : good5 n k with
  | false =>
    rw [hg] at G
    replace G := Lib.hid G
    clear h hg
    go_enter Try.func11, Try.ntmps11
    go_wp2_with fail
    refine (G.out _).mono ?_
    rintro e w1 ⟨rfl, rfl⟩
    go_wp2_with fail
    go_ret2
    exact ⟨_, rfl, HN.out⟩
  | true =>
    rw [hg] at G
    replace G := Lib.hid G
    rw [hg, Bool.true_and, decide_eq_false_iff_not] at h
    have h7 : (7 : Int) < n := by omega
    clear h hg
    go_enter Try.func11, Try.ntmps11
    go_wp2_with fail
    refine (G.out _).mono ?_
    rintro e w1 ⟨rfl, rfl⟩
    go_wp2_with fail
    go_ret2
    exact ⟨_, rfl, HN.out⟩
theorem ownTable_both (a0 a1 : Int) : ∃ (L : List (Int × Int)) (B : Bool), L.length ≤ 1000 ∧ (∀ w : World, Calls Try.prog 11 #[.int .i64 a0, .int .i64 a1] w fun e w' => ∃ v0, e = .returned (.tuple #[v0, .bool B]) ∧ OutP w.heap.size w' v0 L ∧ Below w.heap.size w w') ∧ (∀ w : World, Calls Try.prog 12 #[.int .i64 a0, .int .i64 a1] w fun e w' => ∃ v0, e = .returned (.tuple #[v0, .bool B]) ∧ OutP w.heap.size w' v0 L ∧ Below w.heap.size w w') := by
  cases h : allB a0 a1 with
  | false => exact ⟨[], false, by simp, fun w => tabS_bad a0 a1 w h, fun w => tabI_bad a0 a1 w h⟩
  | true =>
    obtain ⟨a, b, rfl, rfl, h1, h2, h3⟩ := allB_is h
    exact ⟨tabR a b a, true, by rw [tabR_len]; omega, fun w => tabS_any a b h1 h2 h3 w, fun w => tabI_any a b h1 h2 h3 w⟩
end Go.Proofs.Ytkbpfjhikabbmaa
