/- Chapter 7, impl side: impl.allEnterings, canTryAll, CountBest. -/
import Derived.Test.YtlhnejjciondeaaCnt7
import Derived.Test.YtlhnejjciondeaaItr5
namespace Go.Proofs.Ytlhnejjciondeaa
open Go.RowKit Go.Shelf
attribute [local go_sem] Oper.semAt_some

set_option maxHeartbeats 1000000 in
theorem allEnterings_any (n : Int) (w : World) :
    Calls Try.prog 32 #[.int .i64 n] w fun e w' => e = .returned (.func (.func 56) #[] #[.pointer (some ⟨w.heap.size + 1, 0, none⟩), .pointer (some ⟨w.heap.size, 0, none⟩)]) ∧ w' = (w.alloc (planeB n n)).alloc (.cells #[.slice none 0 0] 22) := by
  have S := Lib.hid (seatingsFrom_any n n none 0 0 w)
  go_enter Try.func32, Try.ntmps32
  go_wp2_with fail
  refine S.out.mono ?_
  rintro e w1 ⟨rfl, rfl⟩
  go_wp2_with fail
  go_ret
  exact ⟨rfl, rfl⟩

set_option maxRecDepth 4000 in
set_option maxHeartbeats 1000000 in
theorem canTryAll_any (n s : Int) (w : World) :
    Calls Try.prog 31 #[.int .i64 n, .int .i64 s] w fun e w' => e = .returned (.bool (few7 n s)) ∧ w = w' := by
  have IN := canBoard_any n s w
  unfold few7
  cases hg : rows7 n s with
  | false =>
    rw [hg] at IN
    replace IN := Lib.hid IN
    clear hg
    go_enter Try.func31, Try.ntmps31
    go_wp2_with fail
    refine IN.out.mono ?_
    rintro e w1 ⟨rfl, rfl⟩
    go_wp2_with fail
    go_ret
    exact ⟨rfl, rfl⟩
  | true =>
    rw [hg] at IN
    replace IN := Lib.hid IN
    rw [Bool.true_and]
    clear hg
    by_cases h6 : n ≤ 6
    · go_enter Try.func31, Try.ntmps31
      go_wp2_with fail
      refine IN.out.mono ?_
      rintro e w1 ⟨rfl, rfl⟩
      go_wp2_with fail
      go_ret
      exact ⟨ret_bool (by simp <;> omega), rfl⟩
    · go_enter Try.func31, Try.ntmps31
      go_wp2_with fail
      refine IN.out.mono ?_
      rintro e w1 ⟨rfl, rfl⟩
      go_wp2_with fail
      go_ret
      exact ⟨ret_bool (by simp <;> omega), rfl⟩

/-- what is known of an entering when it is yielded -/
def EntG (n : Nat) (pre : List (List Int)) (x : List Int) : Prop := x ∈ entM n ∧ pre.length < 720
theorem entG_all {n : Nat} (h1 : 1 ≤ n) (h6 : n ≤ 6) : ∀ a x b, seatM n n n [] = a ++ x :: b → EntG n ([] ++ a) x := by
  intro a x b h
  obtain ⟨-, -, hlen⟩ := ent_len n h6 h1
  have he : entM n = a ++ x :: b := h
  refine ⟨by rw [he]; simp, ?_⟩
  rw [he, List.length_append, List.length_cons] at hlen
  rw [List.nil_append]
  omega
/-- the arguments of the iterator of all enterings -/
theorem entA {W : World} {S : Nat → Prop} {n bb pb : Nat} (hb : OwnArr W bb 22 [.slice none 0 0]) (hp : OwnArr W pb 54 [.int .i64 (n : Nat), .int .i64 (n : Nat)]) (nb : ¬ S bb) (np : ¬ S pb) : ItA W S n n bb pb none [] 0 bb :=
  ⟨hb, hp, nb, np, nb, Rd.nil _ _ _ _ (Nat.le_refl _), fun h => absurd h (by simp), .inl ⟨rfl, rfl⟩, Nat.le_refl _, by unfold maxLen; omega⟩
/-- a list as it is yielded is read -/
theorem yield_rd {W : World} {xb : Nat} {x : List Int} (hxb : xb < W.heap.size) (h : ∀ j, j < x.length → W.cell? ⟨xb, j, none⟩ = some (.int .i64 (x[j]?.getD 0))) : Ri 0 W.heap.size W (some ⟨xb, 0, none⟩) x := by
  refine ⟨Nat.le_refl _, fun h0 => ⟨xb, 0, rfl, Nat.zero_le _, hxb, fun i hi => ?_⟩⟩
  rw [iv_length] at hi
  rw [Nat.zero_add, iv_get hi]
  exact h i hi

set_option maxRecDepth 4000 in
set_option maxHeartbeats 1000000 in
theorem countI_bad (n s : Int) (w : World) (h : few7 n s = false) :
    Calls Try.prog 17 #[.int .i64 n, .int .i64 s] w fun e w' => e = .returned (.tuple #[.int .i64 0, .bool false]) ∧ Below w.heap.size w w' := by
  have F := fun w' => canTryAll_any n s w'
  rw [h] at F
  replace F := Lib.hid F
  have HB := Lib.hid (((Below.refl w.heap.size w).alloc (Nat.le_refl _) (.cells #[.int .i64 n] 3)).alloc (by simp) (.cells #[.int .i64 s] 3))
  clear h
  have c0 := (OwnArr.made w 3 [.int .i64 n]).alloc (.cells #[.int .i64 s] 3) |>.cell 0
  have c1 := (OwnArr.made (w.alloc (.cells #[.int .i64 n] 3)) 3 [.int .i64 s]).cell 0
  rw [World.size_alloc] at c1
  go_enter Try.func17, Try.ntmps17
  go_wp2_with fail
  refine (F.out _).mono ?_
  rintro e w1 ⟨rfl, rfl⟩
  go_wp2_with fail
  go_ret2
  exact ⟨rfl, HB.out⟩

/-- what CountBest's loop keeps -/
def CbI (n : Nat) (s : Int) (L nb sb cb : Nat) (rec : Loop) (pre : List (List Int)) (S : Nat → Prop) (W : World) : Prop :=
  W.heap[L]? = some (.loop rec) ∧ OwnArr W nb 3 [.int .i64 (n : Nat)] ∧ OwnArr W sb 3 [.int .i64 s] ∧ OwnArr W cb 3 [.int .i64 ((cntM n s pre : Nat) : Int)] ∧ ∀ j, S j ↔ (j = L ∨ j = nb ∨ j = sb ∨ j = cb)
theorem own_same {W W' : World} {g : Nat} {e : TypeId} {xs : List Value} (h : OwnArr W g e xs) (hs : W'.heap[g]? = W.heap[g]?) : OwnArr W' g e xs := by
  unfold OwnArr at *
  rw [hs]; exact h
theorem cb_loc {n : Nat} {s : Int} {L nb sb cb : Nat} {rec : Loop} (pre : List (List Int)) (S : Nat → Prop) (W W' : World) (h : CbI n s L nb sb cb rec pre S W) (_ : ∀ j, S j → j < W.heap.size) (hs : ∀ j, S j → W'.heap[j]? = W.heap[j]?) : CbI n s L nb sb cb rec pre S W' := by
  obtain ⟨q1, q2, q3, q4, q5⟩ := h
  exact ⟨(hs L ((q5 L).2 (.inl rfl))).trans q1, own_same q2 (hs nb ((q5 nb).2 (.inr (.inl rfl)))), own_same q3 (hs sb ((q5 sb).2 (.inr (.inr (.inl rfl))))), own_same q4 (hs cb ((q5 cb).2 (.inr (.inr (.inr rfl))))), q5⟩

theorem put_own {X : World} {L : Nat} {o : Obj} {g : Nat} {e : TypeId} {xs : List Value} (h : OwnArr X g e xs) (hn : g ≠ L) : OwnArr (X.putObj L o) g e xs :=
  own_same h ((grownBy_putObj' X L o).block g h.lt (fun e => hn (by simpa using e)))
theorem cb_after {n : Nat} {s : Int} {L nb sb cb : Nat} {rec rb : Loop} {pre : List (List Int)} {S : Nat → Prop} {X X3 : World} {x : List Int} {xb : Nat} (hI : CbI n s L nb sb cb rec pre S X) (hlt : ∀ j, S j → j < X.heap.size) (hd : nb < sb ∧ sb < cb ∧ cb < L)
    (hk : KeepP (fun j => j = cb) (X.putObj L (.loop rb)) X3) (hc : OwnArr X3 cb 3 [.int .i64 ((cntM n s (pre ++ [x]) : Nat) : Int)]) :
    X3.heap[L]? = some (.loop rb) ∧ (KeepP S X (X3.putObj L (.loop rec)) ∧ ∃ S', (∀ j, S' j → j < (X3.putObj L (.loop rec)).heap.size ∧ (S j ∨ j = xb ∨ X.heap.size ≤ j)) ∧ CbI n s L nb sb cb rec (pre ++ [x]) S' (X3.putObj L (.loop rec))) := by
  obtain ⟨q1, q2, q3, q4, q5⟩ := hI
  have hLX := hlt L ((q5 L).2 (.inl rfl))
  have hX1L : (X.putObj L (.loop rb)).heap[L]? = some (.loop rb) := World.putObj_heap_same hLX
  have hg := grownBy_putObj' X L (.loop rb)
  have hgs := hg.size
  have hks := hk.size
  have hg3 := grownBy_putObj' X3 L (.loop rec)
  have hg3s := hg3.size
  refine ⟨by rw [hk.block L (by omega) (by omega)]; exact hX1L, ?_, S, fun j hj => ⟨by have := hlt j hj; omega, .inl hj⟩, World.putObj_heap_same (by omega), ?_, ?_, put_own hc (by omega), q5⟩
  · refine KeepP.put ?_ (.inl ((q5 L).2 (.inl rfl))) _
    refine (KeepP.put (KeepP.refl S X) (.inl ((q5 L).2 (.inl rfl))) (.loop rb)).trans hk (fun j hj => .inl ?_)
    subst hj
    exact (q5 j).2 (.inr (.inr (.inr rfl)))
  · exact put_own (hk.own (put_own q2 (by omega)) (by omega)) (by omega)
  · exact put_own (hk.own (put_own q3 (by omega)) (by omega)) (by omega)

set_option maxRecDepth 100000 in
set_option maxHeartbeats 8000000 in
theorem countI_any (n : Nat) (s : Int) (w : World) (h1 : 1 ≤ n) (h6 : n ≤ 6) (h3 : 1 ≤ s) (h4 : s ≤ 5) (h : few7 n s = true) :
    Calls Try.prog 17 #[.int .i64 (n : Nat), .int .i64 s] w fun e w' => e = .returned (.tuple #[.int .i64 (cntM n s (entM n) : Nat), .bool true]) ∧ Below w.heap.size w w' := by
  have F := fun w' => canTryAll_any n s w'
  rw [h] at F
  replace F := Lib.hid F
  obtain ⟨W1, hW1⟩ : ∃ W1, (w.alloc (.cells #[.int .i64 (n : Int)] 3)).alloc (.cells #[.int .i64 s] 3) = W1 := ⟨_, rfl⟩
  have hs1 : W1.heap.size = w.heap.size + 2 := by rw [← hW1]; simp
  have hN : OwnArr W1 w.heap.size 3 [.int .i64 (n : Int)] := by rw [← hW1]; exact (OwnArr.made w 3 [_]).alloc _
  have hSs : OwnArr W1 (w.heap.size + 1) 3 [.int .i64 s] := by
    have h := OwnArr.made (w.alloc (.cells #[.int .i64 (n : Int)] 3)) 3 [.int .i64 s]
    rw [World.size_alloc] at h
    rw [← hW1]; exact h
  have hk1 : KeepP (fun _ => False) w W1 := by rw [← hW1]; exact ((KeepP.refl _ w).alloc _).alloc _
  refine (callsIn_wide (n := 9)).1 ?_
  refine callsIn_of_wp_marks Try.func17 rfl trivial ?_ rfl
  simp only [Try.ntmps17, List.size_toArray, List.length_cons, List.length_nil, Nat.reduceAdd, Nat.reduceSub, Array.replicate_succ, Array.replicate_zero, List.push_toArray, List.append_toArray, List.nil_append, List.cons_append]
  refine wpIn_wide.2 ?_
  have c0 := hN.cell 0
  have c1 := hSs.cell 0
  have HW1 := Lib.hid hW1
  clear hW1 h
  go_upto_region 1 with fail
  rw [HW1.out]
  go_wp2_with fail
  refine (F.out _).mono ?_
  rintro e w1 ⟨rfl, rfl⟩
  obtain ⟨W2, hW2⟩ : ∃ W2, W1.alloc (.cells #[.int .i64 0] 3) = W2 := ⟨_, rfl⟩
  have hs2 : W2.heap.size = W1.heap.size + 1 := by rw [← hW2]; simp
  have hN2 : OwnArr W2 w.heap.size 3 [.int .i64 (n : Int)] := by rw [← hW2]; exact hN.alloc _
  have hS2 : OwnArr W2 (w.heap.size + 1) 3 [.int .i64 s] := by rw [← hW2]; exact hSs.alloc _
  have hC2 : OwnArr W2 W1.heap.size 3 [.int .i64 0] := by rw [← hW2]; exact OwnArr.made W1 3 [_]
  have hk2 : KeepP (fun _ => False) w W2 := by rw [← hW2]; exact hk1.alloc _
  have HW2 := Lib.hid hW2
  have c2 := hN2.cell 0
  clear hW2
  go_upto_region 4 with fail
  rw [HW2.out]
  go_wp2_with fail
  refine (allEnterings_any _ _).mono ?_
  rintro e W3 ⟨rfl, hW3⟩
  go_wp2_with fail
  obtain ⟨wE, hwE⟩ : ∃ wE, (W2.alloc (planeB (n : Int) (n : Int))).alloc (.cells #[.slice none 0 0] 22) = wE := ⟨_, rfl⟩
  rw [hwE]
  have hsE : wE.heap.size = W2.heap.size + 2 := by rw [← hwE]; simp
  have hkE : KeepP (fun _ => False) w wE := by rw [← hwE]; exact (hk2.alloc _).alloc _
  have hNE : OwnArr wE w.heap.size 3 [.int .i64 (n : Int)] := by rw [← hwE]; exact (hN2.alloc _).alloc _
  have hSE : OwnArr wE (w.heap.size + 1) 3 [.int .i64 s] := by rw [← hwE]; exact (hS2.alloc _).alloc _
  have hCE : OwnArr wE (w.heap.size + 2) 3 [.int .i64 0] := by rw [← hwE, ← hs1]; exact (hC2.alloc _).alloc _
  have hPE : OwnArr wE W2.heap.size 54 [.int .i64 (n : Nat), .int .i64 (n : Nat)] := by rw [← hwE]; exact (OwnArr.made W2 _ [_, _]).alloc _
  have hBE : OwnArr wE (W2.heap.size + 1) 22 [.slice none 0 0] := by
    have h := OwnArr.made (W2.alloc (planeB (n : Int) (n : Int))) 22 [.slice none 0 0]
    rw [World.size_alloc] at h
    rw [← hwE]; exact h
  obtain ⟨nb, hnb⟩ : ∃ nb, w.heap.size = nb := ⟨_, rfl⟩
  obtain ⟨sb, hsb⟩ : ∃ sb, w.heap.size + 1 = sb := ⟨_, rfl⟩
  obtain ⟨cb, hcb⟩ : ∃ cb, w.heap.size + 2 = cb := ⟨_, rfl⟩
  obtain ⟨pb, hpb⟩ : ∃ pb, cb + 1 = pb := ⟨_, rfl⟩
  obtain ⟨bb, hbb⟩ : ∃ bb, pb + 1 = bb := ⟨_, rfl⟩
  have hord : nb = w.heap.size ∧ nb < sb ∧ sb < cb ∧ cb < pb ∧ pb < bb ∧ bb + 1 = wE.heap.size := by omega
  rw [hnb] at hNE
  rw [hsb] at hSE
  rw [hcb] at hCE
  rw [show W2.heap.size = pb by omega] at hPE
  rw [show W2.heap.size + 1 = bb by omega] at hBE
  try rw [hsb]
  try rw [hcb]
  try rw [hpb]
  try rw [hbb]
  try rw [hnb]
  have TI := Lib.hid (fun x (hx : x ∈ entM n) (w' : World) (lo hi : Nat) (p : Option Addr) (c : Nat) hr => timeI_ent (n := n) (s := s) h1 (by omega) h3 h4 hx w' lo hi p c hr)
  have XL := Lib.hid (fun x (hx : x ∈ entM n) => ent_xlen hx)
  have HG := Lib.hid (entG_all h1 h6)
  have HALL := Lib.hid (And.intro hkE (And.intro hNE (And.intro hSE (And.intro hCE (And.intro hPE hBE)))))
  have HORD := Lib.hid hord
  have hmix : Try.prog.follows .mixedOrders = true := by kernel_rfl
  have hw : IntKind.i64.wrap ((n : Int) + s) = (n : Int) + s := IntWalk.i64_in _ (by omega)
  clear hkE hNE hSE hCE hPE hBE hord hnb hsb hcb hpb hbb hsE hs1 hs2 hN hSs hk1 hN2 hS2 hC2 hk2 c0 c1 c2 HW1 HW2 hwE hW3 F
  refine (wpIn_wide (n := 9)).1 ?_
  refine range_state (F := Fence.wide) (n := 9) rfl (by omega) (gf := 56) rfl trivial (enters_of Try.func56 (by kernel_rfl) rfl) ?_
  intro fn _ rec hrec
  have hC : ItC (wE.heap.size + 1) (CbI n s (wE.heap.size + 1) nb sb cb rec) (EntG n) := by
    refine ⟨cb_loc, ?_⟩
    intro pre S X x xb cap2 hII hG hlt hnx hxb hc1 hc2 hcells
    have hdd : nb < sb ∧ sb < cb ∧ cb < wE.heap.size + 1 := by have := HORD.out; omega
    obtain ⟨rb, hrb⟩ : ∃ rb, ({ rec with state := .busy } : Loop) = rb := ⟨_, rfl⟩
    have AFT := Lib.hid (fun (X3 : World) hk hc => cb_after (rb := rb) (X3 := X3) (x := x) (xb := xb) hII hlt hdd hk hc)
    obtain ⟨q1, q2, q3, q4, q5⟩ := hII
    have hxL : xb ≠ wE.heap.size + 1 := fun e => hnx (e ▸ (q5 _).2 (.inl rfl))
    have hrdX := yield_rd hxb hcells.1
    refine yield_state trivial q1 (by rw [hrec]) (by rw [hrec]) (by rw [hrec]; rfl) ?_
    rw [hrb, congrArg Loop.assign hrec, congrArg Loop.body hrec, congrArg Loop.params hrec, congrArg Loop.tmps hrec]
    dsimp only
    rw [foldl_one7]
    simp only [List.setIfInBounds_toArray, List.set_cons_succ, List.set_cons_zero]
    have r2 := put_own (o := .loop rb) q2 (show nb ≠ wE.heap.size + 1 by omega)
    have r3 := put_own (o := .loop rb) q3 (show sb ≠ wE.heap.size + 1 by omega)
    have r4 := put_own (o := .loop rb) q4 (show cb ≠ wE.heap.size + 1 by omega)
    have hkX := (KeepP.refl (fun j => j = wE.heap.size + 1) X).put (.inl rfl) (.loop rb)
    have hr1 := hkX.drew.rd hrdX (fun b off e => by simp only [Option.some.injEq, Addr.mk.injEq, and_true] at e; rw [← e.1]; exact hxL)
    have T := Lib.hid (TI.out x hG.1 (X.putObj (wE.heap.size + 1) (.loop rb)).drew 0 X.heap.size (some ⟨xb, 0, none⟩) cap2 hr1)
    have hsn := cnt_snoc n s pre x
    have hcl := cnt_le n s pre
    have hp7 := hG.2
    rw [XL.out x hG.1]
    obtain ⟨X1, hX1⟩ : ∃ X1, X.putObj (wE.heap.size + 1) (.loop rb) = X1 := ⟨_, rfl⟩
    simp only [hX1] at r2 r3 r4 T AFT
    have y2 := r2.cell 0
    have y3 := r3.cell 0
    obtain ⟨tm, htm⟩ : ∃ tm, tmM n s x = tm := ⟨_, rfl⟩
    rw [htm] at T hsn
    obtain ⟨cc, hcc⟩ : ∃ cc, cntM n s pre = cc := ⟨_, rfl⟩
    rw [hcc] at r4 hsn hcl
    have hc9 : cc ≤ 720 := by omega
    have CEL := Lib.hid (fun (X2 : World) (hb : Below X1.drew.heap.size X1.drew X2) => And.intro ((OwnArr.below (w := X1.drew) r2 hb r2.lt).cell 0) (And.intro ((OwnArr.below (w := X1.drew) r3 hb r3.lt).cell 0) (And.intro ((OwnArr.below (w := X1.drew) r4 hb r4.lt).cell 0) ((OwnArr.below (w := X1.drew) r4 hb r4.lt).free 0))))
    have HR := Lib.hid (And.intro r2 (And.intro r3 r4))
    clear q2 q3 q4 q5 hrdX hr1 hkX hxL hlt hnx hxb hc1 hc2 hcells hG hrb hrec htm hcc r2 r3 r4 hdd
    have FIN := Lib.hid (show ∀ (c2 : Nat) (X2 : World), cntM n s (pre ++ [x]) = c2 → KeepP (fun j => j = cb) X1 X2 → OwnArr X2 cb 3 [.int .i64 (c2 : Nat)] → ∀ X3, X2 = X3 → ∀ m, X3.heap.size = m →
        X3.heap[wE.heap.size + 1]? = some (.loop rb) ∧ (KeepP S X (X3.putObj (wE.heap.size + 1) (.loop rec)) ∧ ∃ S', (∀ j, S' j → j < m ∧ (S j ∨ j = xb ∨ X.heap.size ≤ j)) ∧ CbI n s (wE.heap.size + 1) nb sb cb rec (pre ++ [x]) S' (X3.putObj (wE.heap.size + 1) (.loop rec))) from by
      intro c2 X2 h7 hk ho X3 h8 m h9
      subst h8
      subst h9
      obtain ⟨u1, u2, S', u3, u4⟩ := AFT.out X2 hk (by rw [h7]; exact ho)
      exact ⟨u1, u2, S', by simpa using u3, u4⟩)
    have FIA := Lib.hid (show ∀ X2, Below X1.drew.heap.size X1.drew X2 → KeepP (fun j => j = cb) X1 (X2.setCell ⟨cb, 0, none⟩ (.int .i64 ((cc : Int) + 1))) ∧ OwnArr (X2.setCell ⟨cb, 0, none⟩ (.int .i64 ((cc : Int) + 1))) cb 3 [.int .i64 ((cc + 1 : Nat) : Int)] from by
      intro X2 hb
      have h7 : KeepP (fun j => j = cb) X1 X2 := ((KeepP.refl _ X1).drew).same (Below.keepP hb)
      refine ⟨h7.set (.inl rfl) _ _, ?_⟩
      have h8 := (OwnArr.below (w := X1.drew) HR.out.2.2 hb HR.out.2.2.lt).set 0 (.int .i64 ((cc : Int) + 1))
      simpa using h8)
    have FIB := Lib.hid (show ∀ X2, Below X1.drew.heap.size X1.drew X2 → KeepP (fun j => j = cb) X1 X2 ∧ OwnArr X2 cb 3 [.int .i64 (cc : Nat)] from by
      intro X2 hb
      exact ⟨((KeepP.refl _ X1).drew).same (Below.keepP hb), OwnArr.below (w := X1.drew) HR.out.2.2 hb HR.out.2.2.lt⟩)
    clear AFT
    by_cases hts : (tm : Int) = (n : Int) + s
    · rw [if_pos hts] at hsn
      have HSN := Lib.hid hsn
      clear hsn
      gi_wp2
      refine ⟨q1, ?_⟩
      rw [hX1]
      gi_wp2
      gi_region_with_o (refine ⟨trivial, ?_⟩; gi_at_call 33; refine (calls_round T.out).mono ?_; rintro e X2 ⟨rfl, hb⟩; obtain ⟨e2, e3, e4, e5⟩ := CEL.out X2 hb)
      all_goals gi_wp2
      all_goals exact FIN.out (cc + 1) _ HSN.out (FIA.out _ (by assumption)).1 (FIA.out _ (by assumption)).2 _ rfl _ (by simp)
    · rw [if_neg hts] at hsn
      have HSN := Lib.hid hsn
      clear hsn
      gi_wp2
      refine ⟨q1, ?_⟩
      rw [hX1]
      gi_wp2
      gi_region_with_o (refine ⟨trivial, ?_⟩; gi_at_call 33; refine (calls_round T.out).mono ?_; rintro e X2 ⟨rfl, hb⟩; obtain ⟨e2, e3, e4, e5⟩ := CEL.out X2 hb)
      all_goals gi_wp2
      all_goals exact FIN.out cc _ HSN.out (FIB.out _ (by assumption)).1 (FIB.out _ (by assumption)).2 _ rfl _ rfl
  obtain ⟨W5, hW5⟩ : ∃ W5, (wE.alloc (.deferred (some []))).alloc (.loop rec) = W5 := ⟨_, rfl⟩
  have hs5 : W5.heap.size = wE.heap.size + 2 := by rw [← hW5]; simp
  have hkk : ∀ T : Nat → Prop, KeepP T wE W5 := fun T => by rw [← hW5]; exact ((KeepP.refl _ _).alloc _).alloc _
  have h5L : W5.heap[wE.heap.size + 1]? = some (.loop rec) := by
    have h := World.alloc_heap_new (wE.alloc (.deferred (some []))) (.loop rec)
    rw [World.size_alloc, hW5] at h
    exact h
  have h5D : W5.heap[wE.heap.size]? = some (.deferred (some [])) := by
    rw [← hW5, Below.heap_alloc _ _ _ (by simp), World.alloc_heap_new]
  obtain ⟨hkE, hNE, hSE, hCE, hPE, hBE⟩ := HALL.out
  have hor := HORD.out
  have e0 : cntM n s [] = 0 := rfl
  have hI5 : CbI n s (wE.heap.size + 1) nb sb cb rec [] (fun j => j = wE.heap.size + 1 ∨ j = nb ∨ j = sb ∨ j = cb) W5 :=
    ⟨h5L, (hkk (fun _ => False)).own hNE (fun e => e), (hkk (fun _ => False)).own hSE (fun e => e), by rw [e0]; exact (hkk (fun _ => False)).own hCE (fun e => e), fun _ => Iff.rfl⟩
  have hA5 : ItA W5 (fun j => j = wE.heap.size + 1 ∨ j = nb ∨ j = sb ∨ j = cb) n n bb pb none [] 0 bb :=
    entA ((hkk (fun _ => False)).own hBE (fun e => e)) ((hkk (fun _ => False)).own hPE (fun e => e)) (by omega) (by omega)
  have hIN := iter_any n n h1 (by omega) n [] (by simp) (wE.heap.size + 1) _ _ hC [] _ W5 bb pb 0 bb none hI5 (fun j hj => by omega) hA5 (fun a x b hab => HG.out a x b hab)
  rw [hW5]
  clear hC hI5 hA5 hrec
  refine ((callsIn_wide (n := 9 - 1)).2 ((callsIn_wide (n := 9)).1 hIN)).mono ?_
  rintro e W6 ⟨⟨v, rfl⟩, hk6, S6, hS6, hI6⟩
  have hent : ([] : List (List Int)) ++ seatM n n n [] = entM n := rfl
  rw [hent] at hI6
  obtain ⟨g1, g2, g3, g4, -⟩ := hI6
  have hput := grownBy_putObj' W6 (wE.heap.size + 1) (.loop { rec with state := .exhausted })
  have hk7 := hk6.put (l := wE.heap.size + 1) (.inl (.inl rfl)) (.loop { rec with state := .exhausted })
  have g5 := put_own (o := .loop { rec with state := .exhausted }) g4 (show cb ≠ wE.heap.size + 1 by omega)
  refine ⟨⟨_, rfl⟩, g1, ?_⟩
  change Exit.inBlock _ _ _ _ (W6.putObj _ _)
  obtain ⟨W7, hW7⟩ : ∃ W7, W6.putObj (wE.heap.size + 1) (.loop { rec with state := .exhausted }) = W7 := ⟨_, rfl⟩
  rw [hW7] at hput hk7 g5 ⊢
  have HMK := Lib.hid (show Marks [wE.heap.size] W7 from ⟨by simp, fun D hD => by
    simp only [List.mem_cons, List.not_mem_nil, or_false] at hD
    subst hD
    rw [hk7.block _ (by omega) (by omega)]
    exact h5D⟩)
  have g6 := g5.cell 0
  have HFIN := Lib.hid (show ∀ W', KeepP (fun k => k ∈ [wE.heap.size]) W7 W' → Below w.heap.size w W' from fun W' hk' => by
    rw [← hor.1]
    have h8 : KeepP (fun j => nb ≤ j) wE W7 := ((hkk _).same (hk7.mono (fun j hj => by omega)))
    have h9 : KeepP (fun j => nb ≤ j) wE W' := h8.trans hk' (fun j hj => by
      simp only [List.mem_cons, List.not_mem_nil, or_false] at hj
      exact .inl (by omega))
    exact ((hkE.mono (fun _ h => h.elim)).trans h9 (fun j hj => .inl hj)).below (S := fun j => nb ≤ j) (fun j hj => hj) (by omega))
  clear hput hk7 g5 g4 g3 g2 g1 hk6 hS6 hIN hor hkE hNE hSE hCE hPE hBE h5D h5L hkk hs5 hW5 hW7 e0 hent HALL HORD HG XL TI
  dsimp only
  go_wp2_with fail
  show LeavesInM _ _ _ _ _ _ _ _ _
  exact leaves_marks [wE.heap.size] W7 HMK.out (fun W' hk' => ⟨_, by simp [results, Try.f17, go_sem], rfl, HFIN.out W' hk'⟩)
end Go.Proofs.Ytlhnejjciondeaa
