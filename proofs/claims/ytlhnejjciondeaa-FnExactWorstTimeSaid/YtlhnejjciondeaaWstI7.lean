/- Chapter 7, impl side: impl.WorstTime. -/
import Derived.Test.YtlhnejjciondeaaWst7
import Derived.Test.YtlhnejjciondeaaCntI7
import Derived.BigQuiet
namespace Go.Proofs.Ytlhnejjciondeaa
open Go.RowKit Go.Shelf
attribute [local go_sem] Oper.semAt_some

/-- a list of numbers in memory of the call's own, as it is read and written -/
def OutO (B : Nat) (w : World) (v : Value) (xs : List Int) : Prop :=
  ∃ p cap, v = .slice p xs.length cap ∧ xs.length ≤ cap ∧ cap ≤ maxLen ∧ Ri B w.heap.size w p xs ∧ Own B w.heap.size w 3 p xs.length
theorem YL.outO {B : Nat} {w : World} {xb cap : Nat} {x : List Int} (h : YL w xb x) (hB : B ≤ xb) (h1 : x.length ≤ cap) (h2 : cap ≤ maxLen) : OutO B w (.slice (some ⟨xb, 0, none⟩) x.length cap) x := by
  obtain ⟨hc, ys, ho, hl⟩ := h
  refine ⟨_, _, rfl, h1, h2, ⟨Nat.le_refl _, fun h0 => ⟨xb, 0, rfl, hB, ho.lt, fun i hi => ?_⟩⟩, Nat.le_refl _, fun _ => ⟨xb, ys, rfl, hB, ho.lt, ho, hl⟩⟩
  rw [iv_length] at hi
  rw [Nat.zero_add, iv_get hi]
  exact hc i hi
theorem OutO.drewN {B : Nat} {w : World} {v : Value} {xs : List Int} (h : OutO B w v xs) (q : Nat) : OutO B (w.drewN q) v xs := by
  obtain ⟨p, cap, e, h1, h2, hr, ho⟩ := h
  exact ⟨p, cap, e, h1, h2, ⟨hr.top, hr.cells⟩, ⟨ho.top, ho.arr⟩⟩
theorem YL.keep {S : Nat → Prop} {W W' : World} {xb : Nat} {x : List Int} (h : YL W xb x) (hk : KeepP S W W') (hn : ¬ S xb) : YL W' xb x := by
  obtain ⟨hc, ys, ho, hl⟩ := h
  exact ⟨fun j hj => by rw [hk.cell (p := none) ho.lt hn]; exact hc j hj, ys, hk.own ho hn, hl⟩

set_option maxRecDepth 4000 in
set_option maxHeartbeats 1000000 in
theorem worstI_bad (n s : Int) (w : World) (h : few7 n s = false) :
    Calls Try.prog 9 #[.int .i64 n, .int .i64 s] w fun e w' => ∃ v, e = .returned (.tuple #[.int .i64 0, v, .bool false]) ∧ OutO w.heap.size w' v [] ∧ Below w.heap.size w w' := by
  have F := fun w' => canTryAll_any n s w'
  rw [h] at F
  replace F := Lib.hid F
  obtain ⟨W1, hW1⟩ : ∃ W1, ((((w.alloc (.cells #[.int .i64 s] 3)).alloc (.cells #[] 3)).alloc (.cells #[.int .i64 0] 3)).alloc (.cells #[.slice (some ⟨w.heap.size + 1, 0, none⟩) 0 0] 22)) = W1 := ⟨_, rfl⟩
  have hS1 : OwnArr W1 w.heap.size 3 [.int .i64 s] := by rw [← hW1]; exact (((OwnArr.made w _ [_]).alloc _).alloc _).alloc _
  have hE1 : OwnArr W1 (w.heap.size + 1) 3 [] := by rw [← hW1]; exact ((OwnArr.mk' (xs := []) rfl (by simp)).alloc _).alloc _
  have hU1 : OwnArr W1 (w.heap.size + 1 + 1) 3 [.int .i64 0] := by rw [← hW1]; exact (OwnArr.mk' rfl (by simp)).alloc _
  have hF1 : OwnArr W1 (w.heap.size + 1 + 1 + 1) 22 [.slice (some ⟨w.heap.size + 1, 0, none⟩) 0 0] := by rw [← hW1]; exact OwnArr.mk' rfl (by simp)
  have hB1 : Below w.heap.size w W1 := by rw [← hW1]; exact ((((Below.refl _ _).alloc (Nat.le_refl _) _).alloc (by simp) _).alloc (by simp; omega) _).alloc (by simp; omega) _
  have hY1 : YL W1 (w.heap.size + 1) [] := ⟨fun j hj => absurd hj (by simp), [], hE1, by simp⟩
  have HO := Lib.hid (hY1.outO (B := w.heap.size) (cap := 0) (by omega) (by simp) (by unfold maxLen; omega))
  have HB := Lib.hid hB1
  have HW := Lib.hid hW1
  have c1 := hS1.cell 0
  have c2 := hU1.cell 0
  have c3 := hF1.cell 0
  clear h hS1 hE1 hU1 hF1 hB1 hY1 hW1
  go_enter Try.func9, Try.ntmps9
  go_upto_region 2 with fail
  rw [HW.out]
  go_wp2_with fail
  refine (F.out _).mono ?_
  rintro e w1 ⟨rfl, rfl⟩
  go_wp2_with fail
  go_quiet (fail)
  go_wp2_with fail
  go_ret3
  exact ⟨_, rfl, HO.out.drewN _, ⟨HB.out.os, HB.out.tape, HB.out.output, HB.out.size, HB.out.block⟩⟩

/-- what WorstTime's loop keeps -/
def WsI (w0 : World) (n : Nat) (s : Int) (L sb ub fb : Nat) (rec : Loop) (pre : List (List Int)) (S : Nat → Prop) (W : World) : Prop :=
  W.heap[L]? = some (.loop rec) ∧ OwnArr W sb 3 [.int .i64 s] ∧ OwnArr W ub 3 [.int .i64 (((wstM n s pre).1 : Nat) : Int)] ∧ (∀ j, j < w0.heap.size → W.heap[j]? = w0.heap[j]?) ∧
    ∃ xq cq : Nat, OwnArr W fb 22 [.slice (some ⟨xq, 0, none⟩) (wstM n s pre).2.length cq] ∧ (wstM n s pre).2.length ≤ cq ∧ cq ≤ maxLen ∧ YL W xq (wstM n s pre).2 ∧ (w0.heap.size ≤ xq ∧ xq ≠ L ∧ xq ≠ ub ∧ xq ≠ fb) ∧ ∀ j, S j ↔ (j < w0.heap.size ∨ j = L ∨ j = sb ∨ j = ub ∨ j = fb ∨ j = xq)
theorem ws_loc {w0 : World} {n : Nat} {s : Int} {L sb ub fb : Nat} {rec : Loop} (pre : List (List Int)) (S : Nat → Prop) (W W' : World) (h : WsI w0 n s L sb ub fb rec pre S W) (_ : ∀ j, S j → j < W.heap.size) (hs : ∀ j, S j → W'.heap[j]? = W.heap[j]?) : WsI w0 n s L sb ub fb rec pre S W' := by
  obtain ⟨q1, q2, q3, q4, xq, cq, q5, q6, q7, ⟨y1, ys, y2, y3⟩, q9, q10⟩ := h
  have hxq := hs xq ((q10 xq).2 (.inr (.inr (.inr (.inr (.inr rfl))))))
  refine ⟨(hs L ((q10 L).2 (.inr (.inl rfl)))).trans q1, own_same q2 (hs sb ((q10 sb).2 (.inr (.inr (.inl rfl))))), own_same q3 (hs ub ((q10 ub).2 (.inr (.inr (.inr (.inl rfl)))))), fun j hj => (hs j ((q10 j).2 (.inl hj))).trans (q4 j hj), xq, cq, own_same q5 (hs fb ((q10 fb).2 (.inr (.inr (.inr (.inr (.inl rfl))))))), q6, q7, ⟨fun j hj => ?_, ys, own_same y2 hxq, y3⟩, q9, q10⟩
  rw [World.cell?_of_block (w := W) hxq]
  exact y1 j hj
theorem ws_after {w0 : World} {n : Nat} {s : Int} {L sb ub fb : Nat} {rec rb : Loop} {pre : List (List Int)} {S : Nat → Prop} {X X3 : World} {x : List Int} {xb : Nat} (hI : WsI w0 n s L sb ub fb rec pre S X) (hlt : ∀ j, S j → j < X.heap.size) (hd : w0.heap.size ≤ sb ∧ sb < ub ∧ ub < fb ∧ fb < L) (hx : xb < X.heap.size)
    (hk : KeepP (fun j => j = ub ∨ j = fb) (X.putObj L (.loop rb)) X3) (hu : OwnArr X3 ub 3 [.int .i64 (((wstM n s (pre ++ [x])).1 : Nat) : Int)]) (xq cq : Nat) (hf : OwnArr X3 fb 22 [.slice (some ⟨xq, 0, none⟩) (wstM n s (pre ++ [x])).2.length cq]) (h1 : (wstM n s (pre ++ [x])).2.length ≤ cq) (h2 : cq ≤ maxLen) (h3 : YL X3 xq (wstM n s (pre ++ [x])).2)
    (hq : xq = xb ∨ S xq) (h4 : w0.heap.size ≤ xq ∧ xq ≠ L ∧ xq ≠ ub ∧ xq ≠ fb) :
    X3.heap[L]? = some (.loop rb) ∧ (KeepP S X (X3.putObj L (.loop rec)) ∧ ∃ S', (∀ j, S' j → j < (X3.putObj L (.loop rec)).heap.size ∧ (S j ∨ j = xb ∨ X.heap.size ≤ j)) ∧ WsI w0 n s L sb ub fb rec (pre ++ [x]) S' (X3.putObj L (.loop rec))) := by
  obtain ⟨q1, q2, q3, q4, xq0, cq0, q5, q6, q7, q8, q9, q10⟩ := hI
  have hSL : S L := (q10 L).2 (.inr (.inl rfl))
  have hLX := hlt L hSL
  have hX1L : (X.putObj L (.loop rb)).heap[L]? = some (.loop rb) := World.putObj_heap_same hLX
  have hg := grownBy_putObj' X L (.loop rb)
  have hgs := hg.size
  have hks := hk.size
  have hg3 := grownBy_putObj' X3 L (.loop rec)
  have hg3s := hg3.size
  refine ⟨by rw [hk.block L (by omega) (by omega)]; exact hX1L, ?_, fun j => j < w0.heap.size ∨ j = L ∨ j = sb ∨ j = ub ∨ j = fb ∨ j = xq, fun j hj => ?_, World.putObj_heap_same (by omega), ?_, put_own hu (by omega), fun j hj => ?_, xq, cq, put_own hf (by omega), h1, h2, ?_, h4, fun _ => Iff.rfl⟩
  · refine KeepP.put ?_ (.inl hSL) _
    refine (KeepP.put (KeepP.refl S X) (.inl hSL) (.loop rb)).trans hk (fun j hj => .inl ?_)
    rcases hj with rfl | rfl
    · exact (q10 _).2 (.inr (.inr (.inr (.inl rfl))))
    · exact (q10 _).2 (.inr (.inr (.inr (.inr (.inl rfl)))))
  · have hj' : S j ∨ j = xb := by
      rcases hj with h | h | h | h | h | h
      · exact .inl ((q10 j).2 (.inl h))
      · exact .inl ((q10 j).2 (.inr (.inl h)))
      · exact .inl ((q10 j).2 (.inr (.inr (.inl h))))
      · exact .inl ((q10 j).2 (.inr (.inr (.inr (.inl h)))))
      · exact .inl ((q10 j).2 (.inr (.inr (.inr (.inr (.inl h))))))
      · rcases hq with h5 | h5
        · exact .inr (by omega)
        · exact .inl (h ▸ h5)
    refine ⟨?_, by rcases hj' with h | h; exact .inl h; exact .inr (.inl h)⟩
    rcases hj' with h | h
    · have := hlt j h; omega
    · omega
  · exact put_own (hk.own (put_own q2 (by omega)) (by omega)) (by omega)
  · rw [hg3.block j (by omega) (fun e => by have e' : j = L := by simpa using e
                                            omega), hk.block j (by have := hlt L hSL; omega) (by omega), hg.block j (by omega) (fun e => by have e' : j = L := by simpa using e
                                                                                                                                            omega)]
    exact q4 j hj
  · exact h3.keep (KeepP.put (KeepP.refl (fun j => j = L) X3) (.inl rfl) _) h4.2.1

set_option maxRecDepth 100000 in
set_option maxHeartbeats 8000000 in
theorem worstI_any (n : Nat) (s : Int) (w : World) (h1 : 1 ≤ n) (h6 : n ≤ 6) (h3 : 1 ≤ s) (h4 : s ≤ 5) (h : few7 n s = true) :
    Calls Try.prog 9 #[.int .i64 (n : Nat), .int .i64 s] w fun e w' => ∃ v, e = .returned (.tuple #[.int .i64 ((wstM n s (entM n)).1 : Nat), v, .bool true]) ∧ OutO w.heap.size w' v (wstM n s (entM n)).2 ∧ Below w.heap.size w w' := by
  have F := fun w' => canTryAll_any n s w'
  rw [h] at F
  replace F := Lib.hid F
  refine (callsIn_wide (n := 9)).1 ?_
  refine callsIn_of_wp_marks Try.func9 rfl trivial ?_ rfl
  simp only [Try.ntmps9, List.size_toArray, List.length_cons, List.length_nil, Nat.reduceAdd, Nat.reduceSub, Array.replicate_succ, Array.replicate_zero, List.push_toArray, List.append_toArray, List.nil_append, List.cons_append]
  refine wpIn_wide.2 ?_
  obtain ⟨W1, hW1⟩ : ∃ W1, ((((w.alloc (.cells #[.int .i64 s] 3)).alloc (.cells #[] 3)).alloc (.cells #[.int .i64 0] 3)).alloc (.cells #[.slice (some ⟨w.heap.size + 1, 0, none⟩) 0 0] 22)) = W1 := ⟨_, rfl⟩
  have hS1 : OwnArr W1 w.heap.size 3 [.int .i64 s] := by rw [← hW1]; exact (((OwnArr.made w _ [_]).alloc _).alloc _).alloc _
  have hE1 : OwnArr W1 (w.heap.size + 1) 3 [] := by rw [← hW1]; exact ((OwnArr.mk' (xs := []) rfl (by simp)).alloc _).alloc _
  have hU1 : OwnArr W1 (w.heap.size + 1 + 1) 3 [.int .i64 0] := by rw [← hW1]; exact (OwnArr.mk' rfl (by simp)).alloc _
  have hF1 : OwnArr W1 (w.heap.size + 1 + 1 + 1) 22 [.slice (some ⟨w.heap.size + 1, 0, none⟩) 0 0] := by rw [← hW1]; exact OwnArr.mk' rfl (by simp)
  have hs1 : W1.heap.size = w.heap.size + 1 + 1 + 1 + 1 := by rw [← hW1]; simp
  have hk1 : KeepP (fun _ => False) w W1 := by rw [← hW1]; exact ((((KeepP.refl _ w).alloc _).alloc _).alloc _).alloc _
  have HW1 := Lib.hid hW1
  have c1 := hS1.cell 0
  clear h hW1
  go_upto_region 2 with fail
  rw [HW1.out]
  go_wp2_with fail
  refine (F.out _).mono ?_
  rintro e w1 ⟨rfl, rfl⟩
  go_wp2_with fail
  refine (allEnterings_any _ _).mono ?_
  rintro e W3 ⟨rfl, hW3⟩
  go_wp2_with fail
  obtain ⟨wE, hwE⟩ : ∃ wE, (W1.alloc (planeB (n : Int) (n : Int))).alloc (.cells #[.slice none 0 0] 22) = wE := ⟨_, rfl⟩
  rw [hwE]
  have hsE : wE.heap.size = W1.heap.size + 2 := by rw [← hwE]; simp
  have hkE : KeepP (fun _ => False) w wE := by rw [← hwE]; exact (hk1.alloc _).alloc _
  have hSE : OwnArr wE w.heap.size 3 [.int .i64 s] := by rw [← hwE]; exact (hS1.alloc _).alloc _
  have hEE : OwnArr wE (w.heap.size + 1) 3 [] := by rw [← hwE]; exact (hE1.alloc _).alloc _
  have hUE : OwnArr wE (w.heap.size + 1 + 1) 3 [.int .i64 0] := by rw [← hwE]; exact (hU1.alloc _).alloc _
  have hFE : OwnArr wE (w.heap.size + 1 + 1 + 1) 22 [.slice (some ⟨w.heap.size + 1, 0, none⟩) 0 0] := by rw [← hwE]; exact (hF1.alloc _).alloc _
  have hPE : OwnArr wE W1.heap.size 54 [.int .i64 (n : Nat), .int .i64 (n : Nat)] := by rw [← hwE]; exact (OwnArr.made W1 _ [_, _]).alloc _
  have hBE : OwnArr wE (W1.heap.size + 1) 22 [.slice none 0 0] := by
    have h := OwnArr.made (W1.alloc (planeB (n : Int) (n : Int))) 22 [.slice none 0 0]
    rw [World.size_alloc] at h
    rw [← hwE]; exact h
  obtain ⟨bb, hbb⟩ : ∃ bb, w.heap.size + 1 + 1 + 1 + 1 + 1 = bb := ⟨_, rfl⟩
  obtain ⟨pb, hpb⟩ : ∃ pb, w.heap.size + 1 + 1 + 1 + 1 = pb := ⟨_, rfl⟩
  obtain ⟨fb, hfb⟩ : ∃ fb, w.heap.size + 1 + 1 + 1 = fb := ⟨_, rfl⟩
  obtain ⟨ub, hub⟩ : ∃ ub, w.heap.size + 1 + 1 = ub := ⟨_, rfl⟩
  obtain ⟨eb, heb⟩ : ∃ eb, w.heap.size + 1 = eb := ⟨_, rfl⟩
  obtain ⟨sb, hsb⟩ : ∃ sb, w.heap.size = sb := ⟨_, rfl⟩
  have hord : sb = w.heap.size ∧ sb < eb ∧ eb < ub ∧ ub < fb ∧ fb < pb ∧ pb < bb ∧ bb + 1 = wE.heap.size := by omega
  rw [show W1.heap.size = pb by omega] at hPE
  rw [show W1.heap.size + 1 = bb by omega] at hBE
  rw [hfb, heb] at hFE
  rw [hub] at hUE
  rw [heb] at hEE
  rw [hsb] at hSE
  rw [hbb]
  rw [hpb]
  rw [hfb]
  rw [hub]
  rw [heb]
  rw [show Value.pointer (some (⟨w.heap.size, 0, none⟩ : Addr)) = Value.pointer (some ⟨sb, 0, none⟩) by rw [hsb]]
  have TI := Lib.hid (fun x (hx : x ∈ entM n) (w' : World) (lo hi : Nat) (p : Option Addr) (c : Nat) hr => timeI_ent (n := n) (s := s) h1 (by omega) h3 h4 hx w' lo hi p c hr)
  have XL := Lib.hid (fun x (hx : x ∈ entM n) => ent_xlen hx)
  have HG := Lib.hid (entG_all h1 h6)
  have HALL := Lib.hid (And.intro hkE (And.intro hSE (And.intro hEE (And.intro hUE (And.intro hFE (And.intro hPE hBE))))))
  have HORD := Lib.hid hord
  clear hkE hSE hEE hUE hFE hPE hBE hord hsb heb hub hfb hpb hbb hsE hs1 hS1 hE1 hU1 hF1 hk1 c1 HW1 hwE hW3 F
  refine (wpIn_wide (n := 9)).1 ?_
  refine range_state (F := Fence.wide) (n := 9) rfl (by omega) (gf := 56) rfl trivial (enters_of Try.func56 (by kernel_rfl) rfl) ?_
  intro fn _ rec hrec
  have hC : ItC (wE.heap.size + 1) (WsI w n s (wE.heap.size + 1) sb ub fb rec) (EntG n) := by
    refine ⟨ws_loc, ?_⟩
    intro pre S X x xb cap2 hII hG hlt hnx hxb hc1 hc2 hcells
    have hdd : w.heap.size ≤ sb ∧ sb < ub ∧ ub < fb ∧ fb < wE.heap.size + 1 := by have := HORD.out; omega
    have huf : fb ≠ ub := by omega
    obtain ⟨rb, hrb⟩ : ∃ rb, ({ rec with state := .busy } : Loop) = rb := ⟨_, rfl⟩
    have AFT := Lib.hid (fun (X3 : World) hk hu xq cq hf h1 h2 h3 hq h4 => ws_after (rb := rb) (X3 := X3) (x := x) (xb := xb) hII hlt hdd hxb hk hu xq cq hf h1 h2 h3 hq h4)
    obtain ⟨q1, q2, q3, q4, xq, cq, q5, q6, q7, q8, q9, q10⟩ := hII
    have hxL : xb ≠ wE.heap.size + 1 := fun e => hnx ((q10 xb).2 (.inr (.inl e)))
    have hxu : xb ≠ ub := fun e => hnx ((q10 xb).2 (.inr (.inr (.inr (.inl e)))))
    have hxf : xb ≠ fb := fun e => hnx ((q10 xb).2 (.inr (.inr (.inr (.inr (.inl e))))))
    have hxw : w.heap.size ≤ xb := by
      rcases Nat.lt_or_ge xb w.heap.size with h | h
      · exact absurd ((q10 xb).2 (.inl h)) hnx
      · exact h
    have hSq : S xq := (q10 xq).2 (.inr (.inr (.inr (.inr (.inr rfl)))))
    have hrdX := yield_rd hxb hcells.1
    refine yield_state trivial q1 (by rw [hrec]) (by rw [hrec]) (by rw [hrec]; rfl) ?_
    rw [hrb, congrArg Loop.assign hrec, congrArg Loop.body hrec, congrArg Loop.params hrec, congrArg Loop.tmps hrec]
    dsimp only
    rw [foldl_one7]
    simp only [List.setIfInBounds_toArray, List.set_cons_succ, List.set_cons_zero]
    have r2 := put_own (o := .loop rb) q2 (show sb ≠ wE.heap.size + 1 by omega)
    have r3 := put_own (o := .loop rb) q3 (show ub ≠ wE.heap.size + 1 by omega)
    have r5 := put_own (o := .loop rb) q5 (show fb ≠ wE.heap.size + 1 by omega)
    have hkX := (KeepP.refl (fun j => j = wE.heap.size + 1) X).put (.inl rfl) (.loop rb)
    have hr1 := hkX.rd hrdX (fun b off e => by simp only [Option.some.injEq, Addr.mk.injEq, and_true] at e; rw [← e.1]; exact hxL)
    have yx := hcells.keep hkX hxL
    have yq := q8.keep hkX q9.2.1
    have T := Lib.hid (TI.out x hG.1 (X.putObj (wE.heap.size + 1) (.loop rb)) 0 X.heap.size (some ⟨xb, 0, none⟩) cap2 hr1)
    have hsn := wst_snoc n s pre x
    have hxl := XL.out x hG.1
    obtain ⟨X1, hX1⟩ : ∃ X1, X.putObj (wE.heap.size + 1) (.loop rb) = X1 := ⟨_, rfl⟩
    simp only [hX1] at r2 r3 r5 T AFT yx yq
    have y2 := r2.cell 0
    unfold wstStep at hsn
    obtain ⟨tm, htm⟩ : ∃ tm, tmM n s x = tm := ⟨_, rfl⟩
    rw [htm] at T hsn
    obtain ⟨cc, hcc⟩ : ∃ cc, (wstM n s pre).1 = cc := ⟨_, rfl⟩
    rw [hcc] at r3 hsn
    rw [hxl]
    have HCELL := Lib.hid (show ∀ X2, Below X1.heap.size X1 X2 → X2.cell? ⟨ub, 0, none⟩ = some (.int .i64 (cc : Int)) ∧ X2.frozen? ⟨ub, 0, none⟩ = false ∧ (∃ v0, (X2.setCell ⟨ub, 0, none⟩ (.int .i64 (tm : Int))).cell? ⟨fb, 0, none⟩ = some v0) ∧ (X2.setCell ⟨ub, 0, none⟩ (.int .i64 (tm : Int))).frozen? ⟨fb, 0, none⟩ = false from fun X2 hb => by
      have u3 := r3.below hb r3.lt
      have u5 := (r5.below hb r5.lt).other (a := ⟨ub, 0, none⟩) (by show fb ≠ ub; omega) (.int .i64 (tm : Int))
      exact ⟨u3.cell 0, u3.free 0, ⟨_, u5.cell 0⟩, u5.free 0⟩)
    have FINA := Lib.hid (show cc < tm → ∀ X2, Below X1.heap.size X1 X2 → ∀ X3, ((X2.setCell ⟨ub, 0, none⟩ (.int .i64 (tm : Int))).setCell ⟨fb, 0, none⟩ (.slice (some ⟨xb, 0, none⟩) n cap2)) = X3 → ∀ m, X3.heap.size = m →
        X3.heap[wE.heap.size + 1]? = some (.loop rb) ∧ (KeepP S X (X3.putObj (wE.heap.size + 1) (.loop rec)) ∧ ∃ S', (∀ j, S' j → j < m ∧ (S j ∨ j = xb ∨ X.heap.size ≤ j)) ∧ WsI w n s (wE.heap.size + 1) sb ub fb rec (pre ++ [x]) S' (X3.putObj (wE.heap.size + 1) (.loop rec))) from by
      intro hts X2 hb X3 h8 m h9
      rw [if_pos hts] at hsn
      have k2 : KeepP (fun j => j = ub ∨ j = fb) X1 X2 := Below.keepP hb
      have k3 : KeepP (fun j => j = ub ∨ j = fb) X1 X3 := by rw [← h8]; exact (k2.set (.inl (.inl rfl)) _ _).set (.inl (.inr rfl)) _ _
      have u3 : OwnArr X3 ub 3 [.int .i64 (tm : Int)] := by
        rw [← h8]
        have h10 := ((r3.below hb r3.lt).set 0 (.int .i64 (tm : Int))).other (a := ⟨fb, 0, none⟩) (by show ub ≠ fb; omega) (.slice (some ⟨xb, 0, none⟩) n cap2)
        exact h10
      have u5 : OwnArr X3 fb 22 [.slice (some ⟨xb, 0, none⟩) n cap2] := by
        rw [← h8]
        have h10 := ((r5.below hb r5.lt).other (a := ⟨ub, 0, none⟩) (by show fb ≠ ub; omega) (.int .i64 (tm : Int))).set 0 (.slice (some ⟨xb, 0, none⟩) n cap2)
        exact h10
      have hy3 := yx.keep k3 (by show ¬ (xb = ub ∨ xb = fb); omega)
      subst h9
      obtain ⟨u1, u2, S', u3', u4⟩ := AFT.out X3 k3 (by rw [hsn]; exact u3) xb cap2 (by rw [hsn]; show OwnArr X3 fb _ [.slice _ x.length _]; rw [hxl]; exact u5) (by rw [hsn]; exact hc1) hc2 (by rw [hsn]; exact hy3) (.inl rfl) ⟨hxw, hxL, hxu, hxf⟩
      exact ⟨u1, u2, S', by simpa using u3', u4⟩)
    have FINB := Lib.hid (show ¬ cc < tm → ∀ X2, Below X1.heap.size X1 X2 → ∀ m, X2.heap.size = m →
        X2.heap[wE.heap.size + 1]? = some (.loop rb) ∧ (KeepP S X (X2.putObj (wE.heap.size + 1) (.loop rec)) ∧ ∃ S', (∀ j, S' j → j < m ∧ (S j ∨ j = xb ∨ X.heap.size ≤ j)) ∧ WsI w n s (wE.heap.size + 1) sb ub fb rec (pre ++ [x]) S' (X2.putObj (wE.heap.size + 1) (.loop rec))) from by
      intro hts X2 hb m h9
      rw [if_neg hts] at hsn
      have k2 : KeepP (fun j => j = ub ∨ j = fb) X1 X2 := Below.keepP hb
      subst h9
      obtain ⟨u1, u2, S', u3', u4⟩ := AFT.out X2 k2 (by rw [hsn, hcc]; exact r3.below hb r3.lt) xq cq (by rw [hsn]; exact r5.below hb r5.lt) (by rw [hsn]; exact q6) q7 (by rw [hsn]; exact yq.keep k2 (by show ¬ (xq = ub ∨ xq = fb); omega)) (.inr hSq) q9
      exact ⟨u1, u2, S', by simpa using u3', u4⟩)
    clear q2 q3 q4 q5 q6 q7 q8 q9 q10 hrdX hr1 hkX hxL hxu hxf hxw hSq hlt hnx hxb hc1 hc2 hcells hG hrb hrec htm hcc r2 r3 r5 hdd hsn hxl yx yq AFT
    by_cases hts : cc < tm
    · have hts1 : (cc : Int) < (tm : Int) := by omega
      gi_wp2
      refine ⟨q1, ?_⟩
      rw [hX1]
      gi_wp2_with (refine ⟨trivial, ?_⟩; gi_at_call 33; refine (calls_round T.out).mono ?_; rintro e X2 ⟨rfl, hb⟩; obtain ⟨e2, e3, ⟨v0, e4⟩, e5⟩ := HCELL.out X2 hb)
      exact FINA.out hts _ (by assumption) _ rfl _ (by simp)
    · have hts1 : ¬ (cc : Int) < (tm : Int) := by omega
      gi_wp2
      refine ⟨trivial, (calls_round T.out).mono ?_⟩
      rintro e X2 ⟨rfl, hb⟩
      obtain ⟨e2, e3, ⟨v0, e4⟩, e5⟩ := HCELL.out X2 hb
      gi_wp2
      exact FINB.out hts _ (by assumption) _ rfl
  obtain ⟨W5, hW5⟩ : ∃ W5, (wE.alloc (.deferred (some []))).alloc (.loop rec) = W5 := ⟨_, rfl⟩
  have hs5 : W5.heap.size = wE.heap.size + 2 := by rw [← hW5]; simp
  have hkk : ∀ T : Nat → Prop, KeepP T wE W5 := fun T => by rw [← hW5]; exact ((KeepP.refl _ _).alloc _).alloc _
  have h5L : W5.heap[wE.heap.size + 1]? = some (.loop rec) := by
    have h := World.alloc_heap_new (wE.alloc (.deferred (some []))) (.loop rec)
    rw [World.size_alloc, hW5] at h
    exact h
  have h5D : W5.heap[wE.heap.size]? = some (.deferred (some [])) := by
    rw [← hW5, Below.heap_alloc _ _ _ (by simp), World.alloc_heap_new]
  obtain ⟨hkE, hSE, hEE, hUE, hFE, hPE, hBE⟩ := HALL.out
  have hor := HORD.out
  have e0 : wstM n s [] = (0, []) := rfl
  have hI5 : WsI w n s (wE.heap.size + 1) sb ub fb rec [] (fun j => j < w.heap.size ∨ j = wE.heap.size + 1 ∨ j = sb ∨ j = ub ∨ j = fb ∨ j = eb) W5 :=
    ⟨h5L, (hkk (fun _ => False)).own hSE (fun e => e), by rw [e0]; exact (hkk (fun _ => False)).own hUE (fun e => e), fun j hj => ((hkk (fun _ => False)).block j (by omega) (fun e => e)).trans (hkE.block j hj (fun e => e)), eb, 0, by rw [e0]; exact (hkk (fun _ => False)).own hFE (fun e => e), by rw [e0]; simp, by unfold maxLen; omega, by
      rw [e0]
      exact ⟨fun j hj => absurd hj (by simp), [], (hkk (fun _ => False)).own hEE (fun e => e), by simp⟩, by omega, fun _ => Iff.rfl⟩
  have hA5 : ItA W5 (fun j => j < w.heap.size ∨ j = wE.heap.size + 1 ∨ j = sb ∨ j = ub ∨ j = fb ∨ j = eb) n n bb pb none [] 0 bb :=
    entA ((hkk (fun _ => False)).own hBE (fun e => e)) ((hkk (fun _ => False)).own hPE (fun e => e)) (by omega) (by omega)
  have hIN := iter_any n n h1 (by omega) n [] (by simp) (wE.heap.size + 1) _ _ hC [] _ W5 bb pb 0 bb none hI5 (fun j hj => by omega) hA5 (fun a x b hab => HG.out a x b hab)
  rw [hW5]
  clear hC hI5 hA5 hrec
  refine ((callsIn_wide (n := 9 - 1)).2 ((callsIn_wide (n := 9)).1 hIN)).mono ?_
  rintro e W6 ⟨⟨v, rfl⟩, hk6, S6, hS6, hI6⟩
  have hent : ([] : List (List Int)) ++ seatM n n n [] = entM n := rfl
  rw [hent] at hI6
  obtain ⟨g1, g2, g3, g4, xq, cq, g5, g6, g7, g8, g9, g10⟩ := hI6
  have hq6 := (hS6 xq ((g10 xq).2 (.inr (.inr (.inr (.inr (.inr rfl))))))).2
  have hqD : xq ≠ wE.heap.size := by
    rcases hq6 with h | h | h
    · rcases h with h | h | h | h | h | h <;> omega
    · have h' : xq = bb := h
      omega
    · omega
  have hput := grownBy_putObj' W6 (wE.heap.size + 1) (.loop { rec with state := .exhausted })
  have hk7 := hk6.put (l := wE.heap.size + 1) (.inl (.inr (.inl rfl))) (.loop { rec with state := .exhausted })
  have g3' := put_own (o := .loop { rec with state := .exhausted }) g3 (show ub ≠ wE.heap.size + 1 by omega)
  have g5' := put_own (o := .loop { rec with state := .exhausted }) g5 (show fb ≠ wE.heap.size + 1 by omega)
  have g8' := g8.keep (KeepP.put (KeepP.refl (fun j => j = wE.heap.size + 1) W6) (.inl rfl) (.loop { rec with state := .exhausted })) g9.2.1
  refine ⟨⟨_, rfl⟩, g1, ?_⟩
  change Exit.inBlock _ _ _ _ (W6.putObj _ _)
  obtain ⟨W7, hW7⟩ : ∃ W7, W6.putObj (wE.heap.size + 1) (.loop { rec with state := .exhausted }) = W7 := ⟨_, rfl⟩
  rw [hW7] at hput hk7 g3' g5' g8' ⊢
  have HMK := Lib.hid (show Marks [wE.heap.size] W7 from ⟨by simp, fun D hD => by
    simp only [List.mem_cons, List.not_mem_nil, or_false] at hD
    subst hD
    rw [hk7.block _ (by omega) (by omega)]
    exact h5D⟩)
  have h6s := hk6.size
  have HFIN := Lib.hid (show ∀ (q : Nat) W', KeepP (fun k => k ∈ [wE.heap.size]) (W7.drewN q) W' → OutO w.heap.size W' (.slice (some ⟨xq, 0, none⟩) (wstM n s (entM n)).2.length cq) (wstM n s (entM n)).2 ∧ Below w.heap.size w W' from fun q W' hk' => by
    have hk8 : KeepP (fun k => k ∈ [wE.heap.size]) W7 W' := ((KeepP.refl (fun k => k ∈ [wE.heap.size]) W7).drewN q).same hk'
    refine ⟨(g8'.keep hk8 (by simp only [List.mem_cons, List.not_mem_nil, or_false]; exact hqD)).outO g9.1 g6 g7, ?_⟩
    have kT : KeepP (fun _ => True) w W' := (((hkE.mono (fun _ _ => trivial)).same (hkk _)).same (hk7.mono (fun _ _ => trivial))).same (hk8.mono (fun _ _ => trivial))
    have h7s := hput.size
    have hes := hkE.size
    refine ⟨kT.os, kT.tape, kT.output, kT.size, fun j hj => ?_⟩
    have hne : j ≠ wE.heap.size + 1 := by omega
    rw [hk8.block j (by omega) (by simp only [List.mem_cons, List.not_mem_nil, or_false]; omega), hput.block j (by omega) (fun e => hne (by simpa using e))]
    exact g4 j hj)
  have g11 := g3'.cell 0
  have g12 := g5'.cell 0
  obtain ⟨ln, hln⟩ : ∃ ln, (wstM n s (entM n)).2.length = ln := ⟨_, rfl⟩
  rw [hln] at HFIN g12
  clear hput hk7 g10 g8 g8' g7 g6 g5 g4 g3 g2 g1 g3' g5' g9 hk6 hS6 hIN hor hkE hSE hEE hUE hFE hPE hBE h5D h5L hkk hs5 hW5 hW7 e0 hent HALL HORD HG XL TI hq6 hqD h6s hln
  dsimp only
  go_wp2_with fail
  go_quiet (fail)
  go_wp2_with fail
  show LeavesInM _ _ _ _ _ _ _ _ _
  exact leaves_marks [wE.heap.size] (W7.drewN nq) ⟨HMK.out.1, HMK.out.2⟩ (fun W' hk' => ⟨_, by simp [results, Try.f9, go_sem], ⟨_, rfl, HFIN.out nq W' hk'⟩⟩)
end Go.Proofs.Ytlhnejjciondeaa
