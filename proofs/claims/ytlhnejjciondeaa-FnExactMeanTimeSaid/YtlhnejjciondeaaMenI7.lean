/- Chapter 7, impl side: impl.MeanTime. -/
import Derived.Test.YtlhnejjciondeaaMen7
import Derived.Test.YtlhnejjciondeaaCntI7
import Derived.StillTailTactics
namespace Go.Proofs.Ytlhnejjciondeaa
open Go.RowKit Go.Shelf
attribute [local go_sem] Oper.semAt_some

/-- a fraction in a box, and a flag, as a call's results -/
theorem res_fr2 {fn : Func} {t : Array Value} {w : World} {p u : Tmp} {b : Nat} {x y v : Value} (h : fn.results = #[.cell p 28, .tmp u]) (hp : t.getD p undef = .pointer (some ⟨b, 0, none⟩)) (hu : t.getD u undef = v)
    (ho : OwnArr w b 28 [x, y]) : (results fn t).run Try.prog w = .ok (.tuple #[.agg #[x, y], v]) w := by
  rw [results_cell_tmp h, hp, hu]
  simp only [asAddr, Sem.run_pure, Result.andThen]
  rw [run_loadVar_row w b 28 28 #[x, y] (0, 0) _ ho Try.underlying28 rfl (by rw [infoFr]; rfl)]

set_option maxRecDepth 4000 in
set_option maxHeartbeats 1000000 in
theorem meanI_bad (n s : Int) (w : World) (h : few7 n s = false) :
    Calls Try.prog 14 #[.int .i64 n, .int .i64 s] w (MadeFr w 0 0 false) := by
  have F := fun w' => canTryAll_any n s w'
  rw [h] at F
  replace F := Lib.hid F
  obtain ⟨w0, hw0⟩ : ∃ w0, (w.alloc (.cells #[.int .i64 s] 3)).alloc (.cells #[.int .i64 0, .int .i64 0] 28) = w0 := ⟨_, rfl⟩
  have hZ : OwnArr w0 (w.heap.size + 1) 28 [.int .i64 0, .int .i64 0] := by rw [← hw0]; exact OwnArr.mk' rfl (by simp)
  have hS : OwnArr w0 w.heap.size 3 [.int .i64 s] := by rw [← hw0]; exact (OwnArr.made w _ [_]).alloc _
  have hB : Below w.heap.size w w0 := by rw [← hw0]; exact ((Below.refl _ _).alloc (Nat.le_refl _) _).alloc (by simp) _
  have HW := Lib.hid hw0
  have HZ := Lib.hid hZ
  have HB := Lib.hid hB
  have c0 := hS.cell 0
  unfold MadeFr
  clear h hw0 hZ hS hB
  obtain ⟨z0, z1, y0, y1⟩ := boxed_fr HZ.out
  go_enter Try.func14, Try.ntmps14
  go_upto_region 1 with fail
  rw [HW.out]
  go_wp2_with fail
  refine (F.out _).mono ?_
  rintro e w1 ⟨rfl, rfl⟩
  go_wp2_with fail
  exact ret_fr2 Try.results14 rfl rfl ((HZ.out.set 0 _).set 1 _) rfl ⟨rfl, (HB.out.setCell (p := ⟨w.heap.size + 1, 0, none⟩) (Nat.le_succ _) _).setCell (p := ⟨w.heap.size + 1, 1, none⟩) (Nat.le_succ _) _⟩

/-- what MeanTime's loop keeps -/
def MnI (n : Nat) (s : Int) (L sb ub mb : Nat) (rec : Loop) (pre : List (List Int)) (S : Nat → Prop) (W : World) : Prop :=
  W.heap[L]? = some (.loop rec) ∧ OwnArr W sb 3 [.int .i64 s] ∧ OwnArr W ub 3 [.int .i64 ((totM n s pre : Nat) : Int)] ∧ OwnArr W mb 3 [.int .i64 ((pre.length : Nat) : Int)] ∧ ∀ j, S j ↔ (j = L ∨ j = sb ∨ j = ub ∨ j = mb)
theorem mn_loc {n : Nat} {s : Int} {L sb ub mb : Nat} {rec : Loop} (pre : List (List Int)) (S : Nat → Prop) (W W' : World) (h : MnI n s L sb ub mb rec pre S W) (_ : ∀ j, S j → j < W.heap.size) (hs : ∀ j, S j → W'.heap[j]? = W.heap[j]?) : MnI n s L sb ub mb rec pre S W' := by
  obtain ⟨q1, q2, q3, q4, q5⟩ := h
  exact ⟨(hs L ((q5 L).2 (.inl rfl))).trans q1, own_same q2 (hs sb ((q5 sb).2 (.inr (.inl rfl)))), own_same q3 (hs ub ((q5 ub).2 (.inr (.inr (.inl rfl))))), own_same q4 (hs mb ((q5 mb).2 (.inr (.inr (.inr rfl))))), q5⟩
theorem mn_after {n : Nat} {s : Int} {L sb ub mb : Nat} {rec rb : Loop} {pre : List (List Int)} {S : Nat → Prop} {X X3 : World} {x : List Int} {xb : Nat} (hI : MnI n s L sb ub mb rec pre S X) (hlt : ∀ j, S j → j < X.heap.size) (hd : sb < ub ∧ ub < mb ∧ mb < L)
    (hk : KeepP (fun j => j = ub ∨ j = mb) (X.putObj L (.loop rb)) X3) (hu : OwnArr X3 ub 3 [.int .i64 ((totM n s (pre ++ [x]) : Nat) : Int)]) (hm : OwnArr X3 mb 3 [.int .i64 (((pre ++ [x]).length : Nat) : Int)]) :
    X3.heap[L]? = some (.loop rb) ∧ (KeepP S X (X3.putObj L (.loop rec)) ∧ ∃ S', (∀ j, S' j → j < (X3.putObj L (.loop rec)).heap.size ∧ (S j ∨ j = xb ∨ X.heap.size ≤ j)) ∧ MnI n s L sb ub mb rec (pre ++ [x]) S' (X3.putObj L (.loop rec))) := by
  obtain ⟨q1, q2, q3, q4, q5⟩ := hI
  have hLX := hlt L ((q5 L).2 (.inl rfl))
  have hX1L : (X.putObj L (.loop rb)).heap[L]? = some (.loop rb) := World.putObj_heap_same hLX
  have hg := grownBy_putObj' X L (.loop rb)
  have hgs := hg.size
  have hks := hk.size
  have hg3 := grownBy_putObj' X3 L (.loop rec)
  have hg3s := hg3.size
  refine ⟨by rw [hk.block L (by omega) (by omega)]; exact hX1L, ?_, S, fun j hj => ⟨by have := hlt j hj; omega, .inl hj⟩, World.putObj_heap_same (by omega), ?_, put_own hu (by omega), put_own hm (by omega), q5⟩
  · refine KeepP.put ?_ (.inl ((q5 L).2 (.inl rfl))) _
    refine (KeepP.put (KeepP.refl S X) (.inl ((q5 L).2 (.inl rfl))) (.loop rb)).trans hk (fun j hj => .inl ?_)
    rcases hj with rfl | rfl
    · exact (q5 _).2 (.inr (.inr (.inl rfl)))
    · exact (q5 _).2 (.inr (.inr (.inr rfl)))
  · exact put_own (hk.own (put_own q2 (by omega)) (by omega)) (by omega)

theorem frac_cut {N T : Nat} (h : N ∣ 479001600) (h0 : 0 < N) : mkRat ((479001600 / N * T : Nat) : Int) 479001600 = mkRat (T : Int) N := by
  obtain ⟨q, hq⟩ := h
  have hq0 : 0 < q := by
    rcases Nat.eq_zero_or_pos q with rfl | h
    · simp at hq
    · exact h
  have e : 479001600 / N = q := by rw [hq]; exact Nat.mul_div_cancel_left _ h0
  rw [e]
  have e2 : mkRat ((q * T : Nat) : Int) 479001600 = mkRat ((q : Int) * (T : Int)) (q * N) := by rw [hq, Nat.mul_comm q N, Int.natCast_mul]
  rw [e2]
  exact Rat.mkRat_mul_left (by omega)
/-- what is known of an entering when it is yielded, and of those before it -/
def EntT (n : Nat) (s : Int) (pre : List (List Int)) (x : List Int) : Prop := x ∈ entM n ∧ pre.length < 720 ∧ totM n s pre ≤ pre.length * 151
theorem entT_all {n : Nat} {s : Int} (h1 : 1 ≤ n) (h6 : n ≤ 6) (h3 : 1 ≤ s) (h4 : s ≤ 5) : ∀ a x b, seatM n n n [] = a ++ x :: b → EntT n s ([] ++ a) x := by
  intro a x b h
  obtain ⟨g1, g2⟩ := entG_all h1 h6 a x b h
  have he : entM n = a ++ x :: b := h
  refine ⟨g1, g2, ?_⟩
  rw [List.nil_append]
  exact tot_le n s a (fun y hy => tm_le (by omega) h3 h4 (by rw [he]; exact List.mem_append_left _ hy))
/-- the mean by chances' shares -/
theorem mean_is {n : Nat} {s : Int} (h1 : 1 ≤ n) (h6 : n ≤ 6) (h3 : 1 ≤ s) (h4 : s ≤ 5) : 0 < (entM n).length ∧ totM n s (entM n) ≤ 720 * 151 ∧ 479001600 / (entM n).length ≤ 479001600 ∧ 479001600 / (entM n).length * totM n s (entM n) ≤ 1099511627776 ∧ mkRat ((479001600 / (entM n).length * totM n s (entM n) : Nat) : Int) 479001600 = meanR n s ∧ 479001600 / (entM n).length * totM n s (entM n) ≤ 1099511627776 := by
  obtain ⟨d1, d2, d3⟩ := ent_len n h6 h1
  have ht := tot_le n s (entM n) (fun y hy => tm_le (by omega) h3 h4 hy)
  have hm : 479001600 / (entM n).length * totM n s (entM n) ≤ 479001600 / (entM n).length * ((entM n).length * 151) := Nat.mul_le_mul_left _ ht
  have h5 : 479001600 / (entM n).length * ((entM n).length * 151) = 479001600 * 151 := by
    rw [← Nat.mul_assoc, Nat.div_mul_cancel d1]
  refine ⟨d2, by omega, Nat.div_le_self _ _, by omega, frac_cut d1 d2, by omega⟩

set_option maxRecDepth 100000 in
set_option maxHeartbeats 8000000 in
theorem meanI_any (n : Nat) (s : Int) (w : World) (h1 : 1 ≤ n) (h6 : n ≤ 6) (h3 : 1 ≤ s) (h4 : s ≤ 5) (h : few7 n s = true) :
    Calls Try.prog 14 #[.int .i64 (n : Nat), .int .i64 s] w (MadeFr w (meanR n s).num (((meanR n s).den : Nat) : Int) true) := by
  have F := fun w' => canTryAll_any n s w'
  rw [h] at F
  replace F := Lib.hid F
  obtain ⟨W1, hW1⟩ : ∃ W1, (w.alloc (.cells #[.int .i64 s] 3)).alloc (.cells #[.int .i64 0, .int .i64 0] 28) = W1 := ⟨_, rfl⟩
  have hs1 : W1.heap.size = w.heap.size + 2 := by rw [← hW1]; simp
  have hZs : OwnArr W1 (w.heap.size + 1) 28 [.int .i64 0, .int .i64 0] := by rw [← hW1]; exact OwnArr.mk' rfl (by simp)
  have hSs : OwnArr W1 w.heap.size 3 [.int .i64 s] := by rw [← hW1]; exact (OwnArr.made w _ [_]).alloc _
  have hk1 : KeepP (fun _ => False) w W1 := by rw [← hW1]; exact ((KeepP.refl _ w).alloc _).alloc _
  have hres := mean_is (s := s) h1 h6 h3 h4
  unfold MadeFr
  obtain ⟨Q, hQ⟩ : ∃ Q, meanR n s = Q := ⟨_, rfl⟩
  rw [hQ] at hres ⊢
  have HRES := Lib.hid hres
  clear hres hQ
  refine (callsIn_wide (n := 9)).1 ?_
  refine callsIn_of_wp_marks Try.func14 rfl trivial ?_ rfl
  simp only [Try.ntmps14, List.size_toArray, List.length_cons, List.length_nil, Nat.reduceAdd, Nat.reduceSub, Array.replicate_succ, Array.replicate_zero, List.push_toArray, List.append_toArray, List.nil_append, List.cons_append]
  refine wpIn_wide.2 ?_
  have c1 := hSs.cell 0
  have HW1 := Lib.hid hW1
  clear hW1 h
  go_upto_region 1 with fail
  rw [HW1.out]
  go_wp2_with fail
  refine (F.out _).mono ?_
  rintro e w1 ⟨rfl, rfl⟩
  obtain ⟨W2, hW2⟩ : ∃ W2, (W1.alloc (.cells #[.int .i64 0] 3)).alloc (.cells #[.int .i64 0] 3) = W2 := ⟨_, rfl⟩
  have hs2 : W2.heap.size = W1.heap.size + 2 := by rw [← hW2]; simp
  have hZ2 : OwnArr W2 (w.heap.size + 1) 28 [.int .i64 0, .int .i64 0] := by rw [← hW2]; exact (hZs.alloc _).alloc _
  have hS2 : OwnArr W2 w.heap.size 3 [.int .i64 s] := by rw [← hW2]; exact (hSs.alloc _).alloc _
  have hU2 : OwnArr W2 W1.heap.size 3 [.int .i64 0] := by rw [← hW2]; exact (OwnArr.made W1 3 [_]).alloc _
  have hM2 : OwnArr W2 (W1.heap.size + 1) 3 [.int .i64 0] := by rw [← hW2]; exact OwnArr.mk' rfl (by simp)
  have hk2 : KeepP (fun _ => False) w W2 := by rw [← hW2]; exact (hk1.alloc _).alloc _
  have HW2 := Lib.hid hW2
  clear hW2
  go_upto_region 4 with fail
  rw [HW2.out]
  go_wp2_with fail
  refine (allEnterings_any _ _).mono ?_
  rintro e W3 ⟨rfl, hW3⟩
  go_wp2_with fail
  obtain ⟨wE, hwE⟩ : ∃ wE, (W2.alloc (planeB (n : Int) (n : Int))).alloc (.cells #[.slice none 0 0] 22) = wE := ⟨_, rfl⟩
  rw [hwE]
  have hsE : wE.heap.size = W2.heap.size + 2 := by rw [← hwE]; simp
  have hkE : KeepP (fun _ => False) w wE := by rw [← hwE]; exact (hk2.alloc _).alloc _
  have hZE : OwnArr wE (w.heap.size + 1) 28 [.int .i64 0, .int .i64 0] := by rw [← hwE]; exact (hZ2.alloc _).alloc _
  have hSE : OwnArr wE w.heap.size 3 [.int .i64 s] := by rw [← hwE]; exact (hS2.alloc _).alloc _
  have hUE : OwnArr wE (w.heap.size + 2) 3 [.int .i64 0] := by rw [← hwE, ← hs1]; exact (hU2.alloc _).alloc _
  have hME : OwnArr wE (w.heap.size + 2 + 1) 3 [.int .i64 0] := by rw [← hwE, ← hs1]; exact (hM2.alloc _).alloc _
  have hPE : OwnArr wE W2.heap.size 54 [.int .i64 (n : Nat), .int .i64 (n : Nat)] := by rw [← hwE]; exact (OwnArr.made W2 _ [_, _]).alloc _
  have hBE : OwnArr wE (W2.heap.size + 1) 22 [.slice none 0 0] := by
    have h := OwnArr.made (W2.alloc (planeB (n : Int) (n : Int))) 22 [.slice none 0 0]
    rw [World.size_alloc] at h
    rw [← hwE]; exact h
  obtain ⟨sb, hsb⟩ : ∃ sb, w.heap.size = sb := ⟨_, rfl⟩
  obtain ⟨zb, hzb⟩ : ∃ zb, w.heap.size + 1 = zb := ⟨_, rfl⟩
  obtain ⟨mb, hmb⟩ : ∃ mb, w.heap.size + 2 + 1 = mb := ⟨_, rfl⟩
  obtain ⟨ub, hub⟩ : ∃ ub, w.heap.size + 2 = ub := ⟨_, rfl⟩
  obtain ⟨bb, hbb⟩ : ∃ bb, w.heap.size + 2 + 2 + 1 = bb := ⟨_, rfl⟩
  obtain ⟨pb, hpb⟩ : ∃ pb, w.heap.size + 2 + 2 = pb := ⟨_, rfl⟩
  have hord : sb = w.heap.size ∧ sb < zb ∧ zb < ub ∧ ub < mb ∧ mb < pb ∧ pb < bb ∧ bb + 1 = wE.heap.size := by omega
  rw [hsb] at hSE
  rw [hzb] at hZE
  rw [hmb] at hME
  rw [hub] at hUE
  rw [show W2.heap.size = pb by omega] at hPE
  rw [show W2.heap.size + 1 = bb by omega] at hBE
  rw [hbb, hpb]
  rw [hmb]
  rw [hub]
  rw [hzb]
  rw [hsb]
  have TI := Lib.hid (fun x (hx : x ∈ entM n) (w' : World) (lo hi : Nat) (p : Option Addr) (c : Nat) hr => timeI_ent (n := n) (s := s) h1 (by omega) h3 h4 hx w' lo hi p c hr)
  have XL := Lib.hid (fun x (hx : x ∈ entM n) => ent_xlen hx)
  have TL := Lib.hid (fun x (hx : x ∈ entM n) => tm_le (s := s) (n := n) (by omega) h3 h4 hx)
  have HG := Lib.hid (entT_all (n := n) (s := s) h1 h6 h3 h4)
  have HALL := Lib.hid (And.intro hkE (And.intro hZE (And.intro hSE (And.intro hUE (And.intro hME (And.intro hPE hBE))))))
  have HORD := Lib.hid hord
  have hmix : Try.prog.follows .mixedOrders = true := by kernel_rfl
  clear hkE hZE hSE hUE hME hPE hBE hord hsb hzb hmb hub hpb hbb hsE hs1 hs2 hZs hSs hk1 hZ2 hS2 hU2 hM2 hk2 c1 HW1 HW2 hwE hW3 F
  refine (wpIn_wide (n := 9)).1 ?_
  refine range_state (F := Fence.wide) (n := 9) rfl (by omega) (gf := 56) rfl trivial (enters_of Try.func56 (by kernel_rfl) rfl) ?_
  intro fn _ rec hrec
  have hC : ItC (wE.heap.size + 1) (MnI n s (wE.heap.size + 1) sb ub mb rec) (EntT n s) := by
    refine ⟨mn_loc, ?_⟩
    intro pre S X x xb cap2 hII hG hlt hnx hxb hc1 hc2 hcells
    have hdd : sb < ub ∧ ub < mb ∧ mb < wE.heap.size + 1 := by have := HORD.out; omega
    have hum : ub ≠ mb := by omega
    obtain ⟨rb, hrb⟩ : ∃ rb, ({ rec with state := .busy } : Loop) = rb := ⟨_, rfl⟩
    have AFT := Lib.hid (fun (X3 : World) hk hu hm => mn_after (rb := rb) (X3 := X3) (x := x) (xb := xb) hII hlt hdd hk hu hm)
    obtain ⟨q1, q2, q3, q4, q5⟩ := hII
    have hxL : xb ≠ wE.heap.size + 1 := fun e => hnx (e ▸ (q5 _).2 (.inl rfl))
    have hrdX := yield_rd hxb hcells.1
    refine yield_state trivial q1 (by rw [hrec]) (by rw [hrec]) (by rw [hrec]; rfl) ?_
    rw [hrb, congrArg Loop.assign hrec, congrArg Loop.body hrec, congrArg Loop.params hrec, congrArg Loop.tmps hrec]
    dsimp only
    rw [foldl_one7]
    simp only [List.setIfInBounds_toArray, List.set_cons_succ, List.set_cons_zero]
    have r2 := put_own (o := .loop rb) q2 (show sb ≠ wE.heap.size + 1 by omega)
    have r3 := put_own (o := .loop rb) q3 (show ub ≠ wE.heap.size + 1 by omega)
    have r4 := put_own (o := .loop rb) q4 (show mb ≠ wE.heap.size + 1 by omega)
    have hkX := (KeepP.refl (fun j => j = wE.heap.size + 1) X).put (.inl rfl) (.loop rb)
    have hr1 := hkX.drew.rd hrdX (fun b off e => by simp only [Option.some.injEq, Addr.mk.injEq, and_true] at e; rw [← e.1]; exact hxL)
    have T := Lib.hid (TI.out x hG.1 (X.putObj (wE.heap.size + 1) (.loop rb)).drew 0 X.heap.size (some ⟨xb, 0, none⟩) cap2 hr1)
    have hsn := tot_snoc n s pre x
    have hcl := hG.2.2
    have hp7 := hG.2.1
    have ht9 := TL.out x hG.1
    rw [XL.out x hG.1]
    obtain ⟨X1, hX1⟩ : ∃ X1, X.putObj (wE.heap.size + 1) (.loop rb) = X1 := ⟨_, rfl⟩
    simp only [hX1] at r2 r3 r4 T AFT
    have y2 := r2.cell 0
    have y3 := r3.cell 0
    have y4 := r4.cell 0
    obtain ⟨tm, htm⟩ : ∃ tm, tmM n s x = tm := ⟨_, rfl⟩
    rw [htm] at T hsn ht9
    obtain ⟨cc, hcc⟩ : ∃ cc, totM n s pre = cc := ⟨_, rfl⟩
    rw [hcc] at r3 y3 hsn hcl
    obtain ⟨k, hk⟩ : ∃ k, pre.length = k := ⟨_, rfl⟩
    rw [hk] at r4 y4 hp7 hcl
    have hln : (pre ++ [x]).length = k + 1 := by rw [List.length_append, hk]; rfl
    have hc9 : cc ≤ 720 * 151 := by omega
    have hw21 : IntKind.i64.wrap ((cc : Int) + (tm : Int)) = (cc : Int) + (tm : Int) := IntWalk.i64_in _ (by omega)
    have hw23 : IntKind.i64.wrap ((k : Int) + 1) = (k : Int) + 1 := IntWalk.i64_in _ (by omega)
    have CEL := Lib.hid (show ∀ (X2 : World), Below X1.drew.heap.size X1.drew X2 →
        X2.cell? ⟨sb, 0, none⟩ = some (.int .i64 s) ∧ X2.cell? ⟨ub, 0, none⟩ = some (.int .i64 (cc : Int)) ∧ X2.frozen? ⟨ub, 0, none⟩ = false ∧
          (X2.setCell ⟨ub, 0, none⟩ (.int .i64 ((cc : Int) + (tm : Int)))).cell? ⟨mb, 0, none⟩ = some (.int .i64 (k : Int)) ∧ (X2.setCell ⟨ub, 0, none⟩ (.int .i64 ((cc : Int) + (tm : Int)))).frozen? ⟨mb, 0, none⟩ = false ∧
          KeepP (fun j => j = ub ∨ j = mb) X1 ((X2.setCell ⟨ub, 0, none⟩ (.int .i64 ((cc : Int) + (tm : Int)))).setCell ⟨mb, 0, none⟩ (.int .i64 ((k : Int) + 1))) ∧
          OwnArr ((X2.setCell ⟨ub, 0, none⟩ (.int .i64 ((cc : Int) + (tm : Int)))).setCell ⟨mb, 0, none⟩ (.int .i64 ((k : Int) + 1))) ub 3 [.int .i64 ((cc + tm : Nat) : Int)] ∧
          OwnArr ((X2.setCell ⟨ub, 0, none⟩ (.int .i64 ((cc : Int) + (tm : Int)))).setCell ⟨mb, 0, none⟩ (.int .i64 ((k : Int) + 1))) mb 3 [.int .i64 ((k + 1 : Nat) : Int)] from by
      intro X2 hb
      have u2 := OwnArr.below (w := X1.drew) r2 hb r2.lt
      have u3 := OwnArr.below (w := X1.drew) r3 hb r3.lt
      have u4 := OwnArr.below (w := X1.drew) r4 hb r4.lt
      have v3 := u3.set 0 (.int .i64 ((cc : Int) + (tm : Int)))
      have v4 := u4.other (a := ⟨ub, 0, none⟩) (by show mb ≠ ub; omega) (.int .i64 ((cc : Int) + (tm : Int)))
      have h7 : KeepP (fun j => j = ub ∨ j = mb) X1 X2 := ((KeepP.refl (fun j => j = ub ∨ j = mb) X1).drew).same (Below.keepP hb)
      refine ⟨u2.cell 0, u3.cell 0, u3.free 0, v4.cell 0, v4.free 0, (h7.set (.inl (.inl rfl)) _ _).set (.inl (.inr rfl)) _ _, ?_, ?_⟩
      · have h8 := v3.other (a := ⟨mb, 0, none⟩) (by show ub ≠ mb; omega) (.int .i64 ((k : Int) + 1))
        simpa using h8
      · have h8 := v4.set 0 (.int .i64 ((k : Int) + 1))
        simpa using h8)
    have FIN := Lib.hid (show ∀ (X2 : World), KeepP (fun j => j = ub ∨ j = mb) X1 X2 → OwnArr X2 ub 3 [.int .i64 ((cc + tm : Nat) : Int)] → OwnArr X2 mb 3 [.int .i64 ((k + 1 : Nat) : Int)] → ∀ X3, X2 = X3 → ∀ m, X3.heap.size = m →
        X3.heap[wE.heap.size + 1]? = some (.loop rb) ∧ (KeepP S X (X3.putObj (wE.heap.size + 1) (.loop rec)) ∧ ∃ S', (∀ j, S' j → j < m ∧ (S j ∨ j = xb ∨ X.heap.size ≤ j)) ∧ MnI n s (wE.heap.size + 1) sb ub mb rec (pre ++ [x]) S' (X3.putObj (wE.heap.size + 1) (.loop rec))) from by
      intro X2 hk' ho hm' X3 h8 m h9
      subst h8
      subst h9
      obtain ⟨u1, u2, S', u3, u4⟩ := AFT.out X2 hk' (by rw [hsn]; exact ho) (by rw [hln]; exact hm')
      exact ⟨u1, u2, S', by simpa using u3, u4⟩)
    clear q2 q3 q4 q5 hrdX hr1 hkX hxL hlt hnx hxb hc1 hc2 hcells hG hrb hrec htm hcc hk hln r2 r3 r4 hdd hsn hcl AFT
    gi_wp2
    refine ⟨q1, ?_⟩
    rw [hX1]
    gi_wp2
    gi_region_with_o (refine ⟨trivial, ?_⟩; gi_at_call 33; refine (calls_round T.out).mono ?_; rintro e X2 ⟨rfl, hb⟩; obtain ⟨e2, e3, e4, e5, e6, e7, e8, e9⟩ := CEL.out X2 hb)
    all_goals gi_wp2
    all_goals exact FIN.out _ (by assumption) (by assumption) (by assumption) _ rfl _ (by simp)
  obtain ⟨W5, hW5⟩ : ∃ W5, (wE.alloc (.deferred (some []))).alloc (.loop rec) = W5 := ⟨_, rfl⟩
  have hs5 : W5.heap.size = wE.heap.size + 2 := by rw [← hW5]; simp
  have hkk : ∀ T : Nat → Prop, KeepP T wE W5 := fun T => by rw [← hW5]; exact ((KeepP.refl _ _).alloc _).alloc _
  have h5L : W5.heap[wE.heap.size + 1]? = some (.loop rec) := by
    have h := World.alloc_heap_new (wE.alloc (.deferred (some []))) (.loop rec)
    rw [World.size_alloc, hW5] at h
    exact h
  have h5D : W5.heap[wE.heap.size]? = some (.deferred (some [])) := by
    rw [← hW5, Below.heap_alloc _ _ _ (by simp), World.alloc_heap_new]
  obtain ⟨hkE, hZE, hSE, hUE, hME, hPE, hBE⟩ := HALL.out
  have hor := HORD.out
  have e0 : totM n s [] = 0 := rfl
  have hI5 : MnI n s (wE.heap.size + 1) sb ub mb rec [] (fun j => j = wE.heap.size + 1 ∨ j = sb ∨ j = ub ∨ j = mb) W5 :=
    ⟨h5L, (hkk (fun _ => False)).own hSE (fun e => e), by rw [e0]; exact (hkk (fun _ => False)).own hUE (fun e => e), (hkk (fun _ => False)).own hME (fun e => e), fun _ => Iff.rfl⟩
  have hA5 : ItA W5 (fun j => j = wE.heap.size + 1 ∨ j = sb ∨ j = ub ∨ j = mb) n n bb pb none [] 0 bb :=
    entA ((hkk (fun _ => False)).own hBE (fun e => e)) ((hkk (fun _ => False)).own hPE (fun e => e)) (by omega) (by omega)
  have hIN := iter_any n n h1 (by omega) n [] (by simp) (wE.heap.size + 1) _ _ hC [] _ W5 bb pb 0 bb none hI5 (fun j hj => by omega) hA5 (fun a x b hab => HG.out a x b hab)
  rw [hW5]
  clear hC hI5 hA5 hrec
  refine ((callsIn_wide (n := 9 - 1)).2 ((callsIn_wide (n := 9)).1 hIN)).mono ?_
  rintro e W6 ⟨⟨v, rfl⟩, hk6, S6, hS6, hI6⟩
  have hent : ([] : List (List Int)) ++ seatM n n n [] = entM n := rfl
  rw [hent] at hI6
  obtain ⟨g1, g2, g3, g4, -⟩ := hI6
  have hput := grownBy_putObj' W6 (wE.heap.size + 1) (.loop { rec with state := .exhausted })
  have hk7 := hk6.put (l := wE.heap.size + 1) (.inl (.inl rfl)) (.loop { rec with state := .exhausted })
  have g3' := put_own (o := .loop { rec with state := .exhausted }) g3 (show ub ≠ wE.heap.size + 1 by omega)
  have g4' := put_own (o := .loop { rec with state := .exhausted }) g4 (show mb ≠ wE.heap.size + 1 by omega)
  refine ⟨⟨_, rfl⟩, g1, ?_⟩
  change Exit.inBlock _ _ _ _ (W6.putObj _ _)
  obtain ⟨W7, hW7⟩ : ∃ W7, W6.putObj (wE.heap.size + 1) (.loop { rec with state := .exhausted }) = W7 := ⟨_, rfl⟩
  rw [hW7] at hput hk7 g3' g4' ⊢
  have hMK : Marks [wE.heap.size] W7 := ⟨by simp, fun D hD => by
    simp only [List.mem_cons, List.not_mem_nil, or_false] at hD
    subst hD
    rw [hk7.block _ (by omega) (by omega)]
    exact h5D⟩
  have hz7 : OwnArr W7 zb 28 [.int .i64 0, .int .i64 0] := hk7.own ((hkk (fun _ => False)).own hZE (fun e => e)) (by omega)
  have h6s := hk7.size
  have HFIN := Lib.hid (show ∀ W8, Below W7.drew.heap.size W7.drew W8 → ∀ u v : Value, Marks [wE.heap.size] ((W8.setCell ⟨zb, 0, none⟩ u).setCell ⟨zb, 1, none⟩ v) ∧ ∀ W', KeepP (fun k => k ∈ [wE.heap.size]) ((W8.setCell ⟨zb, 0, none⟩ u).setCell ⟨zb, 1, none⟩ v) W' → OwnArr W' zb 28 [u, v] ∧ Below w.heap.size w W' from fun W8 hb8 u v => by
    have k8 : KeepP (fun j => j = zb) W7 ((W8.setCell ⟨zb, 0, none⟩ u).setCell ⟨zb, 1, none⟩ v) := (((((KeepP.refl (fun j => j = zb) W7).drew).same (Below.keepP (S := fun j => j = zb) hb8)).set (.inl rfl) 0 u).set (.inl rfl) 1 v)
    have z8 : OwnArr ((W8.setCell ⟨zb, 0, none⟩ u).setCell ⟨zb, 1, none⟩ v) zb 28 [u, v] := ((OwnArr.below (w := W7.drew) hz7 hb8 hz7.lt).set 0 u).set 1 v
    refine ⟨hMK.keep k8 (fun D hD => by simp only [List.mem_cons, List.not_mem_nil, or_false] at hD; show ¬ D = zb; omega), fun W' hk' => ⟨hk'.own z8 (by simp only [List.mem_cons, List.not_mem_nil, or_false]; omega), ?_⟩⟩
    rw [← hor.1]
    have h8 : KeepP (fun j => sb ≤ j) wE W7 := ((hkk _).same (hk7.mono (fun j hj => by omega)))
    have h9 : KeepP (fun j => sb ≤ j) wE W' := (h8.same (k8.mono (fun j hj => by show sb ≤ j; omega))).trans hk' (fun j hj => by
      simp only [List.mem_cons, List.not_mem_nil, or_false] at hj
      exact .inl (by omega))
    exact ((hkE.mono (fun _ h => h.elim)).trans h9 (fun j hj => .inl hj)).below (S := fun j => sb ≤ j) (fun j hj => hj) (by omega))
  have HCEL := Lib.hid (show ∀ W8, Below W7.drew.heap.size W7.drew W8 → W8.cell? ⟨zb, 0, none⟩ = some (.int .i64 0) ∧ W8.cell? ⟨zb, 1, none⟩ = some (.int .i64 0) ∧ W8.frozen? ⟨zb, 0, none⟩ = false ∧ W8.frozen? ⟨zb, 1, none⟩ = false from fun W8 hb8 => boxed_fr (OwnArr.below (w := W7.drew) hz7 hb8 hz7.lt))
  have g5 := g3'.cell 0
  have g6 := g4'.cell 0
  obtain ⟨a1, a2, a3, a4, a5, a6⟩ := HRES.out
  have CH := fun w' => chanceOf_any (479001600 / (entM n).length * totM n s (entM n)) a6 w'
  rw [a5] at CH
  unfold ratV at CH
  obtain ⟨N, hN⟩ : ∃ N, (entM n).length = N := ⟨_, rfl⟩
  obtain ⟨U, hU⟩ : ∃ U, totM n s (entM n) = U := ⟨_, rfl⟩
  obtain ⟨q, hq⟩ : ∃ q, 479001600 / N = q := ⟨_, rfl⟩
  rw [hN] at a1 a3 a4 CH g6
  rw [hU] at a2 a4 CH g5
  rw [hq] at a3 a4 CH
  have hq1 : (479001600 : Int).tdiv (N : Int) = (q : Int) := by rw [← hq]; exact (Int.ofNat_tdiv _ _).symm
  have hwq : IntKind.i64.wrap (q : Int) = (q : Int) := IntWalk.i64_in _ (by omega)
  obtain ⟨Z, hZ⟩ : ∃ Z, q * U = Z := ⟨_, rfl⟩
  rw [hZ] at CH a4
  have hZi : (q : Int) * (U : Int) = (Z : Int) := by rw [← hZ]; exact (Int.natCast_mul q U).symm
  have hwz : IntKind.i64.wrap (Z : Int) = (Z : Int) := IntWalk.i64_in _ (by omega)
  have hn0 : ¬ (N : Int) = 0 := by omega
  have hn1 : ¬ N = 0 := by omega
  replace CH := Lib.hid CH
  clear hput hk7 g4 g3 g2 g1 g3' g4' hk6 hS6 hIN hor hkE hZE hSE hUE hME hPE hBE h5D h5L hkk hs5 hW5 hW7 e0 hent HALL HORD HG XL TI TL HRES hMK hz7 h6s hN hU hq hZ a1 a2 a3 a4 a5 a6
  dsimp only
  go_wp2_with fail
  go_still_tail 4, (by kernel_rfl)
  change wpList _ _ _ _ _ W7.drew
  go_wp2_with fail
  refine (CH.out _).mono ?_
  rintro e W8 ⟨rfl, hb8⟩
  obtain ⟨z0, z1, z2, z3⟩ := HCEL.out W8 hb8
  go_wp2_with fail
  show LeavesInM _ _ _ _ _ _ _ _ _
  obtain ⟨k1, k2⟩ := HFIN.out W8 hb8 (.int .i64 Q.num) (.int .i64 ((Q.den : Nat) : Int))
  exact leaves_marks [wE.heap.size] _ k1 (fun W' hk' => ⟨_, res_fr2 Try.results14 rfl rfl (k2 W' hk').1, rfl, (k2 W' hk').2⟩)
end Go.Proofs.Ytlhnejjciondeaa
