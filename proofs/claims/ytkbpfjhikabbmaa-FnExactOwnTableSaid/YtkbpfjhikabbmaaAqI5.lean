/- Chapter 5, impl side: slices.Collect over the iterator of seatings. -/
import Derived.Test.YtkbpfjhikabbmaaAqM5
import Derived.Maps.OwnIn
namespace Go.Proofs.Ytkbpfjhikabbmaa
open Go.RowKit Go.Shelf
attribute [local go_sem] Oper.semAt_some

theorem infoSlQ : (Try.prog.info? 33).map (fun i => (i.zero, i.size, i.bytes)) = some (some (.slice none 0 0), 1, 24) := by kernel_rfl

/-- lists that were gathered, each in a block of its own -/
structure GotV (B : Nat) (W : World) (Ls : List (List Int)) (v : Value) (bs cs : Nat → Nat) : Prop where
  row : W.ownsRow B 33 1 v Ls.length (rowS Ls bs cs)
  inn : ∀ i x, Ls[i]? = some x → YL W (bs i) x ∧ x.length ≤ cs i ∧ cs i ≤ maxLen ∧ B ≤ bs i ∧ v.ownBlock ≠ some (bs i)
  apart : ∀ i k, i < Ls.length → k < Ls.length → i ≠ k → bs i ≠ bs k
theorem GotV.drewN {B : Nat} {W : World} {Ls : List (List Int)} {v : Value} {bs cs : Nat → Nat} (h : GotV B W Ls v bs cs) (q : Nat) : GotV B (W.drewN q) Ls v bs cs := ⟨h.row, h.inn, h.apart⟩

theorem entA5 {W : World} {S : Nat → Prop} {n k bb pb : Nat} (hb : OwnArr W bb 33 [.slice none 0 0]) (hp : OwnArr W pb 42 [.int .i64 (n : Nat), .int .i64 (k : Nat)]) (nb : ¬ S bb) (np : ¬ S pb) : ItA W S n k bb pb none [] 0 bb :=
  ⟨hb, hp, nb, np, nb, Rd.nil _ _ _ _ (Nat.le_refl _), fun h => absurd h (by simp), .inl ⟨rfl, rfl⟩, Nat.le_refl _, by unfold maxLen; omega⟩

set_option maxRecDepth 100000 in
set_option maxHeartbeats 4000000 in
theorem gather_any (n k : Nat) (h1 : 1 ≤ n) (hn : n ≤ 7) (w0 w : World) (bb pb : Nat) (hkW : KeepP (fun _ => False) w0 w) (hP : OwnArr w pb 42 [.int .i64 (n : Nat), .int .i64 (k : Nat)]) (hB : OwnArr w bb 33 [.slice none 0 0]) (hpb : w0.heap.size ≤ pb) (hbb : w0.heap.size ≤ bb) :
    Calls Try.prog 41 #[.slice none 0 0, .func (.func 42) #[] #[.pointer (some ⟨bb, 0, none⟩), .pointer (some ⟨pb, 0, none⟩)]] w fun e w' => ∃ v bs cs, e = .returned v ∧ GotV w0.heap.size w' (seatM n k n []) v bs cs ∧ w0.heap.size < w'.heap.size ∧ Below w0.heap.size w0 w' := by
  obtain ⟨i0, hi0, hz0, hz1, hz2⟩ := info_parts infoSlQ
  refine (callsIn_wide (n := 9)).1 ?_
  refine callsIn_of_wp_marks Try.func41 rfl trivial ?_ rfl
  simp only [Try.ntmps41, List.size_toArray, List.length_cons, List.length_nil, Nat.reduceAdd, Nat.reduceSub, Array.replicate_succ, Array.replicate_zero, List.push_toArray, List.append_toArray, List.nil_append, List.cons_append]
  refine wpIn_wide.2 ?_
  go_wp2_with fail
  obtain ⟨wE, hwE⟩ : ∃ wE, w.alloc (.cells #[.slice none 0 0] 22) = wE := ⟨_, rfl⟩
  rw [hwE]
  have hsE : wE.heap.size = w.heap.size + 1 := by rw [← hwE]; simp
  have hkE : KeepP (fun _ => False) w0 wE := by rw [← hwE]; exact hkW.alloc _
  have hOE : OwnArr wE w.heap.size 22 [.slice none 0 0] := by rw [← hwE]; exact OwnArr.made w _ [_]
  have hPE : OwnArr wE pb 42 [.int .i64 (n : Nat), .int .i64 (k : Nat)] := by rw [← hwE]; exact hP.alloc _
  have hBE : OwnArr wE bb 33 [.slice none 0 0] := by rw [← hwE]; exact hB.alloc _
  have hpl := hP.lt
  have hbl := hB.lt
  have hws := hkW.size
  obtain ⟨ob, hob⟩ : ∃ ob, w.heap.size = ob := ⟨_, rfl⟩
  rw [hob] at hsE hOE hpl hbl hws ⊢
  have hcnt : ∀ a x b, seatM n k n [] = a ++ x :: b → a.length < 35831808 := fun a x b h => by
    have h5 := seat_len (n := n) (k := k) (by omega) n []
    have h6 : 12 ^ n ≤ 35831808 := Nat.le_trans (Nat.pow_le_pow_right (by omega) hn) (by decide)
    rw [h, List.length_append, List.length_cons] at h5
    omega
  have HG := Lib.hid hcnt
  have HALL := Lib.hid (And.intro hkE (And.intro hOE (And.intro hPE hBE)))
  have HORD := Lib.hid (show w0.heap.size ≤ ob ∧ wE.heap.size = ob + 1 ∧ pb < ob ∧ bb < ob from by omega)
  clear hkE hOE hPE hBE hsE hob hwE hkW hP hB hpl hbl hws hcnt
  refine (wpIn_wide (n := 9)).1 ?_
  refine range_state (F := Fence.wide) (n := 9) rfl (by omega) (gf := 42) rfl trivial (enters_of Try.func42 (by kernel_rfl) rfl) ?_
  intro fn _ rec hrec
  have hC : ItC (wE.heap.size + 1) (AqI w0 (wE.heap.size + 1) ob rec) (fun pre _ => pre.length < 35831808) := by
    refine ⟨aq_loc, ?_⟩
    intro pre S X x xb cap2 hII hG hlt hnx hxb hc1 hc2 hcells
    obtain ⟨q1, q2, v, bs, cs, a⟩ := hII
    obtain ⟨rb, hrb⟩ : ∃ rb, ({ rec with state := .busy } : Loop) = rb := ⟨_, rfl⟩
    have hor := HORD.out
    have AFT := Lib.hid (fun (X1 X2 X3 X4 : World) (v' : Value) hx1 o hx2 hg hat hr hx4 => aq_after (rec := rec) (rb := rb) (X1 := X1) (X2 := X2) (X3 := X3) (X4 := X4) (v' := v') a q2 hlt (by omega) hxb hnx hc1 hc2 hcells hx1 o hx2 hg hat hr hx4)
    refine yield_state trivial q1 (by rw [hrec]) (by rw [hrec]) (by rw [hrec]; rfl) ?_
    rw [hrb, congrArg Loop.assign hrec, congrArg Loop.body hrec, congrArg Loop.params hrec, congrArg Loop.tmps hrec]
    dsimp only
    rw [foldl_one7]
    simp only [List.setIfInBounds_toArray, List.set_cons_succ, List.set_cons_zero]
    have r1 := put_own5 (o := .loop rb) a.box (show ob ≠ wE.heap.size + 1 by omega)
    have r2 := row_same5 (W' := X.putObj (wE.heap.size + 1) (.loop rb)) a.row (fun g hg => (grownBy_putObj' X _ _).block g (World.ownsRow.lt a.row g hg).2 (fun e => a.vL (by rw [hg]; exact e)))
    have hvo := a.vo
    have hws := HALL.out.1.size
    have hoX := hlt ob ((a.mem ob).2 (.inr (.inr (.inl rfl))))
    obtain ⟨X1, hX1⟩ : ∃ X1, X.putObj (wE.heap.size + 1) (.loop rb) = X1 := ⟨_, rfl⟩
    rw [hX1] at r1 r2
    have s1 : X1.heap.size = X.heap.size := by rw [← hX1]; simp
    have HX1 := Lib.hid hX1
    have r3 := World.ownsRow.alloc r2 (.cells #[.slice (some ⟨xb, 0, none⟩) x.length cap2] 33)
    have hc := r1.cell 0
    have HVO := Lib.hid hvo
    have HR3 := Lib.hid r3
    have hn1 : pre.length + 1 ≤ maxLen := by unfold maxLen; omega
    have hn2 : (pre.length + 1) * 24 ≤ 140737488355328 := by omega
    have hn3 : w0.heap.size ≤ (X1.alloc (.cells #[.slice (some ⟨xb, 0, none⟩) x.length cap2] 33)).heap.size := by rw [World.size_alloc]; omega
    have hn4 : ob < (X1.alloc (.cells #[.slice (some ⟨xb, 0, none⟩) x.length cap2] 33)).heap.size := by rw [World.size_alloc]; omega
    have HN := Lib.hid (And.intro hn1 (And.intro hn2 (And.intro hn3 hn4)))
    clear a hrec hrb hlt hnx hxb hc1 hc2 hcells s1 hor hws hoX hvo r3 r2 hn1 hn2 hn3 hn4
    gi_wp2
    refine ⟨q1, ?_⟩
    rw [hX1]
    have r1a := r1.alloc (.cells #[.slice (some ⟨xb, 0, none⟩) x.length cap2] 33)
    gi_wp2_with (gi_at_builtin; refine wpListIn_append_own_at _ rfl _ _ 22 rfl w0.heap.size 33 i0 (.slice none 0 0) 1 24 Try.underlying22 hi0 hz0 hz1 hz2 rfl (by decide) v pre.length (rowS pre bs cs) rfl HR3.out ⟨X1.heap.size, 0, none⟩ 1 1 [.slice (some ⟨xb, 0, none⟩) x.length cap2] rfl rfl (cell_one_new _ _ _) (by simp [Value.oneCell']) HN.out.1 HN.out.2.1 HN.out.2.2.1 ?_; intro v' X3 hr' hg' _ hat'; obtain ⟨gq, cq, rfl, -, -⟩ := World.ownsRow.form hr' (Nat.succ_pos _); have u1 := own_same5 r1a (hg'.block ob HN.out.2.2.2 (fun e => HVO.out e.symm)); have u2 := u1.cell 0; have u3 := u1.free 0)
    obtain ⟨u4, u5, S', u6, u7⟩ := AFT.out X1 _ X3 _ _ HX1.out _ rfl hg' hat' hr' rfl
    exact ⟨u4, u5, S', by simpa using u6, u7⟩
  obtain ⟨W5, hW5⟩ : ∃ W5, (wE.alloc (.deferred (some []))).alloc (.loop rec) = W5 := ⟨_, rfl⟩
  have hs5 : W5.heap.size = wE.heap.size + 2 := by rw [← hW5]; simp
  have hkk : ∀ T : Nat → Prop, KeepP T wE W5 := fun T => by rw [← hW5]; exact ((KeepP.refl _ _).alloc _).alloc _
  have h5L : W5.heap[wE.heap.size + 1]? = some (.loop rec) := by
    have h := World.alloc_heap_new (wE.alloc (.deferred (some []))) (.loop rec)
    rw [World.size_alloc, hW5] at h
    exact h
  have h5D : W5.heap[wE.heap.size]? = some (.deferred (some [])) := by
    rw [← hW5, Below.heap_alloc _ _ _ (by simp), World.alloc_heap_new]
  obtain ⟨hkE, hOE, hPE, hBE⟩ := HALL.out
  have hor := HORD.out
  have hI5 : AqI w0 (wE.heap.size + 1) ob rec [] (fun j => j < w0.heap.size ∨ j = wE.heap.size + 1 ∨ j = ob) W5 :=
    ⟨h5L, fun j hj => ((hkk (fun _ => False)).block j (by omega) (fun e => e)).trans (hkE.block j hj (fun e => e)), .slice none 0 0, fun _ => 0, fun _ => 0, (hkk (fun _ => False)).own hOE (fun e => e), ⟨rfl, .inl ⟨rfl, rfl⟩⟩, fun i x hx => by simp at hx, fun i k hi => by simp at hi, by simp [Value.ownBlock], by simp [Value.ownBlock], fun j => by simp [Value.ownBlock]⟩
  have hA5 : ItA W5 (fun j => j < w0.heap.size ∨ j = wE.heap.size + 1 ∨ j = ob) n k bb pb none [] 0 bb :=
    entA5 ((hkk (fun _ => False)).own hBE (fun e => e)) ((hkk (fun _ => False)).own hPE (fun e => e)) (by omega) (by omega)
  have hIN := iter_any n k h1 (by omega) n [] (by simp) (wE.heap.size + 1) _ _ hC [] _ W5 bb pb 0 bb none hI5 (fun j hj => by omega) hA5 (fun a x b hab => by rw [List.nil_append]; exact HG.out a x b hab)
  rw [hW5]
  clear hC hI5 hA5 hrec
  refine ((callsIn_wide (n := 9 - 1)).2 ((callsIn_wide (n := 9)).1 hIN)).mono ?_
  rintro e W6 ⟨⟨v, rfl⟩, hk6, S6, hS6, g1, g2, vv, bs, cs, a⟩
  rw [List.nil_append] at a
  have hSD : ∀ j, S6 j → j ≠ wE.heap.size := by
    intro j hj
    rcases (hS6 j hj).2 with h | h | h
    · omega
    · omega
    · omega
  have hput := grownBy_putObj' W6 (wE.heap.size + 1) (.loop { rec with state := .exhausted })
  have hk7 := hk6.put (l := wE.heap.size + 1) (.inl (.inr (.inl rfl))) (.loop { rec with state := .exhausted })
  have k67 : KeepP (fun j => j = wE.heap.size + 1) W6 (W6.putObj (wE.heap.size + 1) (.loop { rec with state := .exhausted })) := KeepP.put (KeepP.refl (fun j => j = wE.heap.size + 1) W6) (.inl rfl) (.loop { rec with state := .exhausted })
  have b7 := put_own5 (o := .loop { rec with state := .exhausted }) a.box (show ob ≠ wE.heap.size + 1 by omega)
  refine ⟨⟨_, rfl⟩, g1, ?_⟩
  change Exit.inBlock _ _ _ _ (W6.putObj _ _)
  obtain ⟨W7, hW7⟩ : ∃ W7, W6.putObj (wE.heap.size + 1) (.loop { rec with state := .exhausted }) = W7 := ⟨_, rfl⟩
  rw [hW7] at hput hk7 k67 b7 ⊢
  have HMK := Lib.hid (show Marks [wE.heap.size] W7 from ⟨by simp, fun D hD => by
    simp only [List.mem_cons, List.not_mem_nil, or_false] at hD
    subst hD
    rw [hk7.block _ (by omega) (by omega)]
    exact h5D⟩)
  have h6s := hk6.size
  have hrl := World.ownsRow.lt a.row
  have hbl : ∀ i x, (seatM n k n [])[i]? = some x → S6 (bs i) := fun i x hx => (a.mem (bs i)).2 (.inr (.inr (.inr (.inr ⟨i, (List.getElem?_eq_some_iff.1 hx).1, rfl⟩))))
  have HFIN := Lib.hid (show ∀ W', KeepP (fun k => k ∈ [wE.heap.size]) W7 W' → GotV w0.heap.size W' (seatM n k n []) vv bs cs ∧ w0.heap.size < W'.heap.size ∧ Below w0.heap.size w0 W' from fun W' hk' => by
    have k8 : KeepP (fun j => j = wE.heap.size + 1 ∨ j = wE.heap.size) W6 W' := (k67.mono (fun _ h => .inl h)).same (hk'.mono (fun j h => .inr (by simpa using h)))
    refine ⟨⟨row_same5 a.row (fun g hg => k8.block g (hrl g hg).2 ?_), fun i x hx => ?_, a.apart⟩, by have := k8.size; omega, ?_⟩
    · rintro (h | h)
      · exact a.vL (by rw [hg, h])
      · exact hSD g ((a.mem g).2 (.inr (.inr (.inr (.inl hg))))) h
    · obtain ⟨n0, n1, n2, n3, n4, n5, n6⟩ := a.inn i x hx
      refine ⟨n0.keep5 k8 ?_, n1, n2, n3, n6⟩
      rintro (h | h)
      · exact n4 h
      · exact hSD _ (hbl i x hx) h
    · have kT : KeepP (fun _ => True) w0 W' := (((hkE.mono (fun _ _ => trivial)).same (hkk _)).same (hk6.mono (fun _ _ => trivial))).same (k8.mono (fun _ _ => trivial))
      refine ⟨kT.os, kT.tape, kT.output, kT.size, fun j hj => ?_⟩
      have hes := hkE.size
      rw [k8.block j (by omega) (by omega)]
      exact g2 j hj)
  have g11 := b7.cell 0
  clear hput hk7 k67 b7 g2 g1 hk6 hS6 hIN hor hkE hOE hPE hBE h5D h5L hkk hs5 hW5 hW7 HALL HORD HG hSD h6s hrl hbl a
  dsimp only
  go_wp2_with fail
  show LeavesInM _ _ _ _ _ _ _ _ _
  exact leaves_marks [wE.heap.size] W7 HMK.out (fun W' hk' => ⟨_, by simp [results, Try.f41, go_sem], ⟨_, _, _, rfl, HFIN.out W' hk'⟩⟩)

set_option maxHeartbeats 1000000 in
theorem gathered_any (n k : Nat) (h1 : 1 ≤ n) (hn : n ≤ 7) (w0 w : World) (bb pb : Nat) (hkW : KeepP (fun _ => False) w0 w) (hP : OwnArr w pb 42 [.int .i64 (n : Nat), .int .i64 (k : Nat)]) (hB : OwnArr w bb 33 [.slice none 0 0]) (hpb : w0.heap.size ≤ pb) (hbb : w0.heap.size ≤ bb) :
    Calls Try.prog 26 #[.func (.func 42) #[] #[.pointer (some ⟨bb, 0, none⟩), .pointer (some ⟨pb, 0, none⟩)]] w fun e w' => ∃ v bs cs, e = .returned v ∧ GotV w0.heap.size w' (seatM n k n []) v bs cs ∧ w0.heap.size < w'.heap.size ∧ Below w0.heap.size w0 w' := by
  have H := Lib.hid (gather_any n k h1 hn w0 w bb pb hkW hP hB hpb hbb)
  clear hkW hP hB
  go_enter Try.func26, Try.ntmps26
  go_wp2_with fail
  refine H.out.mono ?_
  rintro e w1 ⟨v, bs, cs, rfl, h1, h3, h2⟩
  go_wp2_with fail
  go_ret
  exact ⟨v, bs, cs, rfl, h1, h3, h2⟩
end Go.Proofs.Ytkbpfjhikabbmaa
