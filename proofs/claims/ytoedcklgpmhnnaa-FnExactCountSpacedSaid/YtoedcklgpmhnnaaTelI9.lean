/- Chapter 9, impl side: impl.tellEndings for counts. -/
import Derived.Test.YtoedcklgpmhnnaaTelM9
import Derived.Test.YtoedcklgpmhnnaaAdlI9
import Derived.Test.YtoedcklgpmhnnaaSpcI9
import Derived.Lib.SliceRun
import Derived.Deep.RegionLaw
import Derived.Deep.DeepCutAuto
namespace Go.Proofs.Ytoedcklgpmhnnaa
open Go.RowKit

theorem zeroTel : Try.zeroCells80 = (List.replicate 600 (Value.int .i64 0)).toArray := by kernel_rfl
theorem zeroTel2 : (Builtin.zeroCells (List.replicate 25 (Value.int .i64 0)).toArray 24).toList = List.replicate 600 (Value.int .i64 0) := by kernel_rfl
theorem zeroOne : ∀ w : World, (zeroValue 55).run Try.prog w = .ok (.agg (List.replicate 25 (Value.int .i64 0)).toArray) w := fun _ => by kernel_rfl
theorem infoCts : (Try.prog.info? 55).map (·.size) = some 25 := by kernel_rfl
theorem run_clearTel (w : World) (ty : TypeId) (b : Nat) (L : List Value) (h : OwnArr w b 80 L) (hl : L.length = 600) : (Builtin.clear_ #[81] ty #[.slice (some ⟨b, 0, none⟩) 24 24]).run Try.prog w = .ok (.tuple #[]) (w.setCells b 0 (List.replicate 600 (Value.int .i64 0))) := by
  have hst := run_storeCells_cells (P := Try.prog) b 0 (List.replicate 600 (Value.int .i64 0)) 0 w (fun j hj => by
    rw [List.length_replicate] at hj
    simp only [Nat.zero_add]
    rw [h.cell, List.getElem?_eq_getElem (by omega)]; rfl) (fun j _ => h.free _) (fun v hv => by rw [List.eq_of_mem_replicate hv]; rfl)
  simp only [Nat.add_zero] at hst
  have h2 := zeroTel2
  have h3 := zeroOne
  generalize List.replicate 600 (Value.int .i64 0) = Z at hst h2 ⊢
  generalize (List.replicate 25 (Value.int .i64 0)).toArray = Y at h2 h3
  simp [Builtin.clear_, run_underlying Try.underlying81, h3, Value.cells, h2, hst]

/-- the boxes of tellEndings -/
structure TeS (w : World) (n : Nat) (ring : Bool) (p : Option Addr) (m cap D : Nat) (qo : Option Addr) (k c : Nat) (cb kb K cnt : Nat) (L : List Value) (wr : World) : Prop where
  bx : OwnArr wr w.heap.size 49 [.int .i64 n, .bool ring, .slice p m cap, .int .i64 D, .slice qo k c]
  em : OwnArr wr (w.heap.size + 1) 55 (cv oneA)
  tb : OwnArr wr (w.heap.size + 1 + 1) 80 L
  ct : OwnArr wr cb 3 [.int .i64 (cnt : Int)]
  kx : OwnArr wr kb 3 [.int .i64 (K : Int)]
  gr : w.grownBy wr (some cb)
  cb_lt : cb < w.heap.size
  kb_lt : kb < w.heap.size
  ne : kb ≠ cb
theorem TeS.next {w : World} {n : Nat} {ring : Bool} {p : Option Addr} {m cap D : Nat} {qo : Option Addr} {k c cb kb K cnt : Nat} {L : List Value} {wr w' : World} (h : TeS w n ring p m cap D qo k c cb kb K cnt L wr) (hb : Below wr.heap.size wr w') : TeS w n ring p m cap D qo k c cb kb K cnt L w' :=
  ⟨h.bx.below hb h.bx.lt, h.em.below hb h.em.lt, h.tb.below hb h.tb.lt, h.ct.below hb h.ct.lt, h.kx.below hb h.kx.lt, grown_belowA h.gr hb, h.cb_lt, h.kb_lt, h.ne⟩
theorem TeS.tabS {w : World} {n : Nat} {ring : Bool} {p : Option Addr} {m cap D : Nat} {qo : Option Addr} {k c cb kb K cnt : Nat} {L L' : List Value} {wr w' : World} (h : TeS w n ring p m cap D qo k c cb kb K cnt L wr) (hA : OwnArr w' (w.heap.size + 1 + 1) 80 L') (hg : wr.grownBy w' (some (w.heap.size + 1 + 1))) : TeS w n ring p m cap D qo k c cb kb K cnt L' w' := by
  have h1 := h.cb_lt
  have h2 := h.kb_lt
  exact ⟨h.bx.grown hg (by simp; omega), h.em.grown hg (by simp), hA, h.ct.grown hg (by simp; omega), h.kx.grown hg (by simp; omega), grown_stepA h.gr hg (.inr fun j e => by simp only [Option.some.injEq] at e; omega), h1, h2, h.ne⟩
theorem TeS.cntS {w : World} {n : Nat} {ring : Bool} {p : Option Addr} {m cap D : Nat} {qo : Option Addr} {k c cb kb K cnt cnt' : Nat} {L : List Value} {wr w' : World} (h : TeS w n ring p m cap D qo k c cb kb K cnt L wr) (hC : OwnArr w' cb 3 [.int .i64 (cnt' : Int)]) (hg : wr.grownBy w' (some cb)) : TeS w n ring p m cap D qo k c cb kb K cnt' L w' := by
  have h1 := h.cb_lt
  have h2 := h.kb_lt
  have h3 := h.ne
  exact ⟨h.bx.grown hg (by simp; omega), h.em.grown hg (by simp; omega), h.tb.grown hg (by simp; omega), hC, h.kx.grown hg (by simp; omega), grown_stepA h.gr hg (.inl rfl), h1, h2, h3⟩
theorem TeS.start {w : World} {n : Nat} {ring : Bool} {p : Option Addr} {m cap D : Nat} {qo : Option Addr} {k c cb kb K cnt : Nat} (hC : OwnArr w cb 3 [.int .i64 (cnt : Int)]) (hK : OwnArr w kb 3 [.int .i64 (K : Int)]) (hne : kb ≠ cb) :
    TeS w n ring p m cap D qo k c cb kb K cnt (List.replicate 600 (Value.int .i64 0)) (((w.alloc (.cells #[.int .i64 n, .bool ring, .slice p m cap, .int .i64 D, .slice qo k c] 49)).alloc (.cells (cv oneA).toArray 55)).alloc (.cells Try.zeroCells80 80)) := by
  have s1 : (w.alloc (.cells #[.int .i64 n, .bool ring, .slice p m cap, .int .i64 D, .slice qo k c] 49)).heap.size = w.heap.size + 1 := World.size_alloc _ _
  have s2 : ((w.alloc (.cells #[.int .i64 n, .bool ring, .slice p m cap, .int .i64 D, .slice qo k c] 49)).alloc (.cells (cv oneA).toArray 55)).heap.size = w.heap.size + 1 + 1 := by rw [World.size_alloc, s1]
  have h2 := OwnArr.made (w.alloc (.cells #[.int .i64 n, .bool ring, .slice p m cap, .int .i64 D, .slice qo k c] 49)) 55 (cv oneA)
  rw [s1] at h2
  have h3 := OwnArr.made ((w.alloc (.cells #[.int .i64 n, .bool ring, .slice p m cap, .int .i64 D, .slice qo k c] 49)).alloc (.cells (cv oneA).toArray 55)) 80 (List.replicate 600 (Value.int .i64 0))
  rw [s2, ← zeroTel] at h3
  exact ⟨((OwnArr.made w _ [_, _, _, _, _]).alloc _).alloc _, h2.alloc _, h3, ((hC.alloc _).alloc _).alloc _, ((hK.alloc _).alloc _).alloc _, grown_allocA (grown_allocA (grown_allocA (grown_reflA w _) _) _) _, hC.lt, hK.lt, hne⟩

theorem firU_le {n : Nat} {ring : Bool} {d : Nat} {l : List Nat} {k : Nat} (hl : l.length ≤ 24) : ∀ i, firU n ring d l k i ≤ 419430400 * i := by
  intro i
  induction i with
  | zero => exact Nat.le_refl _
  | succ i ih =>
    rw [firU_succ]
    have h1 : (restM n ring d (l[i]?.getD 0) (l.drop (i + 1))).length ≤ 24 := Nat.le_trans (List.length_filter_le _ _) (by rw [List.length_drop]; omega)
    have := endU_le (d := d) (k := k) h1 ((restM n ring d (l[i]?.getD 0) (l.drop (i + 1))).length + 1)
    omega
theorem Out.riA {B : Nat} {w : World} {q : Option Addr} {k c : Nat} {xs : List Int} (h : Out B w (.slice q k c) xs) : Ri B w.heap.size w q xs ∧ k = xs.length ∧ k ≤ c ∧ c ≤ maxLen := by
  obtain ⟨q', c', e, h1, h2, hR, -⟩ := h.rd
  simp only [Value.slice.injEq] at e
  obtain ⟨rfl, e2, rfl⟩ := e
  exact ⟨hR, e2, by omega, h2⟩

/-- a whole array is read in a region of reads -/
theorem still_loadArr {P : Program} {ops : Array Oper} {w : World} {Q : Act → Prop} {a : Act} {o : Oper} {rest : List Oper} (hgd : o.guard = none) (ty : TypeId) (x : Operand) (ho : o.op = .load ty x)
    (b off : Nat) (hx : a.eval x = .pointer (some ⟨b, off, none⟩)) (cs : List Value) (d : TypeDesc) (hc : w.rangeAt b off cs)
    (hu : P.underlying ty = some d) (hd : d.isRow = true) (hi : (P.info? ty).map (·.size) = some cs.length)
    (h : wpStill P ops w Q rest (a.put o.dst (.agg cs.toArray))) : wpStill P ops w Q (o :: rest) a := by
  refine wpStill_step (fun K hK => ?_)
  rw [if_pos (by simp [Region.wanted, hgd])]
  unfold Oper.still execOp
  simp only [ho, hx, Instr.loadAt, Instr.sureAddr, Sem.run_bind, Sem.run_pure, Result.andThen_ok, run_loadVar_mid w b off ty cs d hc hu hd hi]
  rw [Oper.stillUpon_value]
  exact hK _ h

set_option maxRecDepth 4000 in
set_option maxHeartbeats 8000000 in
theorem tellEndings_any (n : Nat) (ring : Bool) (p : Option Addr) (m cap D : Nat) (qo : Option Addr) (c : Nat) (l : List Nat) (cb kb K c0 : Nat) (w : World) (lo hi : Nat) (hin : Ri lo hi w qo (ints l)) (hsep : cb < lo ∨ hi ≤ cb) (hls : l.Pairwise (· < ·)) (hln : ∀ y ∈ l, y < n) (hll : l.length ≤ 24) (hlc : l.length ≤ c) (hcm : c ≤ maxLen) (hn : n ≤ 24) (hD : 1 ≤ D)
    (hC : OwnArr w cb 3 [.int .i64 (c0 : Int)]) (hK : OwnArr w kb 3 [.int .i64 (K : Int)]) (hne : kb ≠ cb) (hk24 : K ≤ 24) (hc0 : c0 ≤ 1) :
    Calls Try.prog 39 #[spcV n ring p m cap D qo l.length c, .agg (cv oneA).toArray, .func (.func 40) #[] #[], .func (.func 41) #[] #[.pointer (some ⟨cb, 0, none⟩), .pointer (some ⟨kb, 0, none⟩)]] w fun ex w' => ex = .returned (.tuple #[]) ∧ OwnArr w' cb 3 [.int .i64 ((c0 + firU n ring D l K l.length : Nat) : Int)] ∧ w.grownBy w' (some cb) := by
  have hst := TeS.start (n := n) (ring := ring) (p := p) (m := m) (cap := cap) (D := D) (qo := qo) (k := l.length) (c := c) hC hK hne
  have HIN := Lib.hid (fun (w' : World) (h' : w.grownBy w' (some cb)) => hin.grownA h' (fun j e => by simp only [Option.some.injEq] at e; omega))
  have HEN := Lib.hid (fun (i : Nat) (hi : i < l.length) => ends_of (n := n) (ring := ring) (d := D) hls hln hi)
  have HLN := Lib.hid hln
  have HFS := Lib.hid (firU_succ n ring D l K)
  obtain ⟨k, hk⟩ : ∃ k, l.length = k := ⟨_, rfl⟩
  rw [hk] at hst hll hlc ⊢
  have HK := Lib.hid hk
  obtain ⟨w1, hw1⟩ : ∃ w1, w1 = (((w.alloc (.cells #[.int .i64 (n : Int), .bool ring, .slice p m cap, .int .i64 (D : Int), .slice qo k c] 49)).alloc (.cells (cv oneA).toArray 55)).alloc (.cells Try.zeroCells80 80)) := ⟨_, rfl⟩
  rw [← hw1] at hst
  have HW : Hid ((((w.alloc (.cells #[.int .i64 (n : Int), .bool ring, .slice p m cap, .int .i64 (D : Int), .slice qo k c] 49)).alloc (.cells (cv oneA).toArray 55)).alloc (.cells Try.zeroCells80 80)) = w1) := hw1.symm
  have HS0 : Hid (TeS w n ring p m cap D qo k c cb kb K (c0 + firU n ring D l K 0) (List.replicate 600 (Value.int .i64 0)) w1) := hst
  obtain ⟨d0, d1, d2, d3, d4⟩ := hst.bx.five
  obtain ⟨E0, hE0⟩ : ∃ E0, cv oneA = E0 := ⟨_, rfl⟩
  have HE0 := Lib.hid hE0
  have HZ0 : Hid ((List.replicate 600 (Value.int .i64 0)).length = 600) := by show _ = _; exact List.length_replicate ..
  rw [hE0] at HW ⊢
  clear hst hw1 hin hls hln hk hE0 hC hK
  go_enter Try.func39, Try.ntmps39
  go_upto_region 2 with fail
  rw [HW.out]
  clear HW
  go_wp2_with fail
  clear d0 d1 d2 d3 d4
  go_loopw [9, 10, 11, 12, 13, 15, 19] (fun _ _ _ _ _ _ iv wr => ∃ (i : Nat) (L : List Value), i ≤ k ∧ iv = .int .i64 (i : Int) ∧ Hid (L.length = 600) ∧ Hid (TeS w n ring p m cap D qo k c cb kb K (c0 + firU n ring D l K i) L wr)) (fun _ _ _ _ _ _ iv _ => k - (intOf iv).toNat)
  case atStart => exact ⟨0, _, Nat.zero_le _, rfl, HZ0, HS0⟩
  case round =>
    obtain ⟨i, L, hi', rfl, HL, HS⟩ := hrel
    clear HZ0 HS0
    obtain ⟨wo, hwo⟩ : ∃ wo, wo = wr := ⟨_, rfl⟩
    subst hwo
    obtain ⟨d0, d1, d2, d3, d4⟩ := HS.out.bx.five
    by_cases hlt : i < k
    · have hik : (i : Int) < (k : Int) := by omega
      have hi0 : (0 : Int) ≤ (i : Int) := by omega
      have hil : i < l.length := by have := HK.out; omega
      have hRi := HIN.out wo HS.out.gr
      obtain ⟨b, off, rfl, -, -, -, hc⟩ := hRi.int (by rw [ints_length]; omega)
      have h0 := hc i (by rw [ints_length]; exact hil)
      rw [ints_get hil] at h0
      have hxn := HLN.out _ (nat_mem hil)
      have hen := HEN.out i hil
      have hfs := HFS.out i
      obtain ⟨x, hx⟩ : ∃ x, l[i]?.getD 0 = x := ⟨_, rfl⟩
      rw [hx] at h0 hxn hen hfs
      have HEND := Lib.hid hen
      have HFSI := Lib.hid hfs
      have hcl := fun ty => run_clearTel wo ty _ L HS.out.tb HL.out
      have hZl : (List.replicate 600 (Value.int .i64 0)).length = L.length := by rw [List.length_replicate, HL.out]
      have hS2 := HS.out.tabS (HS.out.tb.setAllA hZl) (grown_setCellsA _ _ _ (grown_reflA wo _) (.inl rfl))
      obtain ⟨Z, hZ⟩ : ∃ Z, List.replicate 600 (Value.int .i64 0) = Z := ⟨_, rfl⟩
      have hZ6 : Z.length = 600 := by rw [← hZ]; exact List.length_replicate ..
      have hZ0 : ∀ i, i < 600 → Z[i]? = some (.int .i64 0) := fun i hi => by rw [← hZ, List.getElem?_replicate, if_pos hi]
      rw [hZ] at hS2
      simp only [hZ] at hcl
      obtain ⟨w2, hw2⟩ : ∃ w2, wo.setCells (w.heap.size + 1 + 1) 0 Z = w2 := ⟨_, rfl⟩
      rw [hw2] at hS2
      simp only [hw2] at hcl
      have HS2 := Lib.hid hS2
      have hxi : (x : Int) < 24 := by omega
      have hx0 : (0 : Int) ≤ (x : Int) := by omega
      have hrg : w2.rangeAt (w.heap.size + 1) 0 E0 := by
        rw [← HE0.out]
        exact hS2.em.rangeA 0 (fun j hj => by rw [Nat.zero_add])
      have hel : E0.length = 25 := by rw [← HE0.out]; exact cv_len _
      have HEL := Lib.hid hel
      have HRG := Lib.hid hrg
      have hadd := addLonger_any (w.heap.size + 1 + 1) (x * 25) 80 Z oneA (fun _ => 0) (x : Int) w2.drew hS2.tb.drew (by omega) (fun k hk => by rw [hZ0 _ (by omega)]; rfl) (fun k => by unfold oneA; split <;> omega) (fun _ => by omega)
      rw [HE0.out] at hadd
      have HADD := Lib.hid hadd
      have HTB := Lib.hid (fun (L' : List Value) (h : AddT (x * 25) Z L' (adA oneA fun _ => 0)) => TbA.start HEND.out hn hZ6 hZ0 h)
      have hZc := hS2.tb.cell
      clear hrg hel hc hx hen hfs hZl hS2 hZ hw2 hadd hZc hZ6 hZ0 hRi
      go_wp2_with fail
      go_still_tail 5, (by kernel_rfl)
      refine still_loadArr rfl 55 (.tmp 5) rfl (w.heap.size + 1) 0 (by rfl) E0 _ HRG.out Try.underlying55 rfl (by rw [infoCts, HEL.out]) ?_
      repeat still_step
      refine wpStill_nil ?_
      change wpList _ _ _ _ _ w2.drew
      go_wp2_with fail
      refine HADD.out.mono ?_
      rintro ex w3 ⟨rfl, L3, hA3, hT3, hg3⟩
      have HS3 := Lib.hid ((HS2.out.next ((Below.refl _ w2).drew)).tabS hA3 hg3)
      have HT3 := Lib.hid (HTB.out L3 hT3)
      clear HTB HADD hA3 hT3 hg3 HS2 HRG HEL hcl d0 d1 d2 d3 d4 h0 HS
      have hRi := HIN.out w3 HS3.out.gr
      obtain ⟨I1, hI1⟩ : ∃ I, i + 1 = I := ⟨_, rfl⟩
      have hI1i : (i : Int) + 1 = (I1 : Int) := by omega
      have hw1 : IntKind.i64.wrap (I1 : Int) = (I1 : Int) := IntWalk.i64_in _ (by omega)
      have hik2 : (I1 : Int) ≤ (c : Int) := by omega
      have hik3 : (I1 : Int) ≤ (k : Int) := by omega
      have hik4 : (k : Int) ≤ (c : Int) := by omega
      have hik5 : (0 : Int) ≤ (I1 : Int) := by omega
      obtain ⟨rest, hrest⟩ : ∃ rest, restM n ring D x (l.drop (i + 1)) = rest := ⟨_, rfl⟩
      rw [hrest] at HT3 HEND HFSI
      have hrl : rest.length ≤ 23 := by
        rw [← hrest]
        refine Nat.le_trans (List.length_filter_le _ _) ?_
        rw [List.length_drop, HK.out]; omega
      obtain ⟨r, hr⟩ : ∃ r, rest.length = r := ⟨_, rfl⟩
      rw [hr] at HFSI hrl
      have HR := Lib.hid hr
      obtain ⟨R1, hR1⟩ : ∃ R1, r + 1 = R1 := ⟨_, rfl⟩
      have HR1 := Lib.hid hR1
      have HXL : Hid ((x :: rest).length = R1) := by show _ = _; rw [List.length_cons, hr, hR1]
      rw [hR1] at HFSI
      have hR24 : R1 ≤ 24 := by omega
      obtain ⟨U, hU⟩ : ∃ U, (if c = I1 then some (⟨b, off, none⟩ : Addr) else some ⟨b, off + I1, none⟩) = U := ⟨_, rfl⟩
      have hlr : (ints rest).length = r := by rw [ints_length, hr]
      have HLR := Lib.hid hlr
      have AF : ∀ W', Below w3.heap.size w3 W' → Calls Try.prog 36 #[spcV n ring p m cap D (some ⟨b, off, none⟩) k c, .int .i64 x, .slice U (k - I1) (c - I1)] W' fun ex w' => ∃ q5 c5, ex = .returned (.slice q5 r c5) ∧ Ri (W'.heap.size + 1) w'.heap.size w' q5 (ints rest) ∧ Below W'.heap.size W' w' := by
        intro W' h'
        have hb := (hRi.bel h').behind (k := I1) (cap := c) (by rw [ints_length, HK.out]; exact hlc)
        rw [hU, show (ints l).drop I1 = ints (l.drop I1) from by unfold ints; rw [← List.map_drop]] at hb
        have := apartFrom_any n ring p m cap D (some ⟨b, off, none⟩) k c x U (c - I1) (l.drop I1) W' _ _ hb (fun y hy => HLN.out y (List.mem_of_mem_drop hy)) (by rw [List.length_drop, HK.out]; omega) hn hxn
        rw [List.length_drop, HK.out, ← hI1, hrest, hI1] at this
        refine this.mono ?_
        rintro ex w' ⟨v, rfl, hO, hb'⟩
        obtain ⟨q5, c5, rfl, -, -, hR5, -⟩ := hO.rd
        rw [hlr]
        exact ⟨q5, c5, rfl, hR5, hb'⟩
      replace AF := Lib.hid AF
      have HREST := Lib.hid hrest
      have HI1 := Lib.hid hI1
      clear hrest hr hlr hI1 hRi hR1
      go_upto_region 7 with fail
      go_cut [11] (fun v wx => ∃ q1 c1, v = .slice q1 R1 c1 ∧ Hid (Out (w.heap.size + 1 + 1 + 1) wx (.slice q1 R1 c1) (ints (x :: rest))) ∧ Hid (TeS w n ring p m cap D (some ⟨b, off, none⟩) k c cb kb K (c0 + firU n ring D l K i) L3 wx))
      case first =>
        obtain ⟨d0, d1, d2, d3, d4⟩ := HS3.out.bx.five
        have hba : Below w3.heap.size w3 (w3.alloc (.cells #[.int .i64 (x : Int)] 3)) := (Below.refl _ _).alloc (Nat.le_refl _) _
        obtain ⟨e0, e1, e2, e3, e4⟩ := (HS3.out.next hba).bx.five
        have hsz : (w.heap.size + 1 + 1 + 1) ≤ w3.heap.size := HS3.out.tb.lt
        have HSZ := Lib.hid hsz
        have HFIN : Hid (∀ (wz w6 : World) (g : Nat) (v6 : Value), Below w3.heap.size w3 wz → wz.grownBy w6 (some g) → w3.heap.size ≤ g → Out (w.heap.size + 1 + 1 + 1) w6 v6 ([(x : Int)] ++ ints rest) → ∃ q1 c1, v6 = .slice q1 R1 c1 ∧ Hid (Out (w.heap.size + 1 + 1 + 1) w6 (.slice q1 R1 c1) (ints (x :: rest))) ∧ Hid (TeS w n ring p m cap D (some ⟨b, off, none⟩) k c cb kb K (c0 + firU n ring D l K i) L3 w6)) := by
          show ∀ _, _
          intro wz w6 g v6 hb hg hgs hO
          obtain ⟨q6, c6, rfl, -⟩ := hO.rd
          have e : ([(x : Int)] ++ ints rest).length = R1 := by rw [List.length_append, HLR.out, ← HR1.out]; exact Nat.add_comm _ _
          rw [e] at hO ⊢
          exact ⟨q6, c6, rfl, hO, HS3.out.next (Below.grown hb hg hb.size (fun j ej => by simp only [Option.some.injEq] at ej; omega))⟩
        have AFd := Lib.hid (AF.out w3.drew ((Below.refl _ w3).drew))
        have AFa := Lib.hid (AF.out (w3.alloc (.cells #[.int .i64 (x : Int)] 3)).drew hba.drew)
        have HBA := Lib.hid hba
        have hl6 : ([(x : Int)]).length + r ≤ 100000 := by show 1 + r ≤ _; omega
        clear hba hsz
        by_cases hci : c = I1
        · rw [if_pos hci] at hU
          subst hU
          have hci2 : (c = I1) = True := eq_true hci
          have hcz : c - I1 = 0 := by omega
          rw [hcz] at AFd AFa
          clear hci
          go_wp2_with fail
          go_region_law (first
            | (go_simp; go_at_call 36; refine AFd.out.mono ?_; rintro ex w4 ⟨q5, c5, rfl, hR5, hb4⟩; have HB4 := Lib.hid (((Below.refl _ w3).drew).trans hb4); have HR5 := Lib.hid hR5; clear hb4 hR5)
            | (go_simp; go_at_call 36; refine AFa.out.mono ?_; rintro ex w4 ⟨q5, c5, rfl, hR5, hb4⟩; have HB4 := Lib.hid (HBA.out.drew.trans (hb4.mono (by simp))); have HR5 := Lib.hid hR5; have HL4 : Hid (Out (w.heap.size + 1 + 1 + 1) w4 (.slice (some ⟨w3.heap.size, 0, none⟩) 1 1) [(x : Int)]) := Lib.hid (out_arr9 ((OwnArr.made w3 3 [.int .i64 (x : Int)]).drew.below hb4 (by simp)) HSZ.out rfl (by omega)); clear hb4 hR5)
            | (refine step_app rfl (.tmp 32) (.tmp 40) rfl (w.heap.size + 1 + 1 + 1) (.slice (some ⟨w3.heap.size, 0, none⟩) 1 1) [(x : Int)] (by simp [Act.eval, Act.put]) HL4.out q5 r c5 _ _ (ints rest) (by simp [Act.eval, Act.put]) HR5.out HLR.out hl6 (Nat.le_trans HSZ.out HB4.out.size) ?_; intro v6 w6 hO6 hg6 hn6; obtain ⟨q7, c7, rfl, HO7, HS7⟩ := HFIN.out w4 w6 w3.heap.size v6 HB4.out hg6 (Nat.le_refl _) hO6; clear hO6 hg6 hn6)
            | (refine step_app rfl (.tmp 32) (.tmp 40) rfl (w.heap.size + 1 + 1 + 1) (.slice (some ⟨w4.heap.size, 0, none⟩) 1 1) [(x : Int)] (by simp [Act.eval, Act.put]) (out_arr9 (OwnArr.made w4 3 [.int .i64 (x : Int)]) (Nat.le_trans HSZ.out HB4.out.size) rfl (by omega)) q5 r c5 _ _ (ints rest) (by simp [Act.eval, Act.put]) (HR5.out.bel ((Below.refl _ _).alloc (Nat.le_refl _) _)) HLR.out hl6 (by rw [World.size_alloc]; exact Nat.le_succ_of_le (Nat.le_trans HSZ.out HB4.out.size)) ?_; intro v6 w6 hO6 hg6 hn6; obtain ⟨q7, c7, rfl, HO7, HS7⟩ := HFIN.out _ w6 w4.heap.size v6 (HB4.out.alloc HB4.out.size _) hg6 HB4.out.size hO6; clear hO6 hg6 hn6))
          all_goals
            go_wp2_with fail
            go_meet
            exact ⟨_, _, rfl, HO7, HS7⟩
        · rw [if_neg hci] at hU
          subst hU
          go_wp2_with fail
          go_region_law (first
            | (go_simp; go_at_call 36; refine AFd.out.mono ?_; rintro ex w4 ⟨q5, c5, rfl, hR5, hb4⟩; have HB4 := Lib.hid (((Below.refl _ w3).drew).trans hb4); have HR5 := Lib.hid hR5; clear hb4 hR5)
            | (go_simp; go_at_call 36; refine AFa.out.mono ?_; rintro ex w4 ⟨q5, c5, rfl, hR5, hb4⟩; have HB4 := Lib.hid (HBA.out.drew.trans (hb4.mono (by simp))); have HR5 := Lib.hid hR5; have HL4 : Hid (Out (w.heap.size + 1 + 1 + 1) w4 (.slice (some ⟨w3.heap.size, 0, none⟩) 1 1) [(x : Int)]) := Lib.hid (out_arr9 ((OwnArr.made w3 3 [.int .i64 (x : Int)]).drew.below hb4 (by simp)) HSZ.out rfl (by omega)); clear hb4 hR5)
            | (refine step_app rfl (.tmp 32) (.tmp 40) rfl (w.heap.size + 1 + 1 + 1) (.slice (some ⟨w3.heap.size, 0, none⟩) 1 1) [(x : Int)] (by simp [Act.eval, Act.put]) HL4.out q5 r c5 _ _ (ints rest) (by simp [Act.eval, Act.put]) HR5.out HLR.out hl6 (Nat.le_trans HSZ.out HB4.out.size) ?_; intro v6 w6 hO6 hg6 hn6; obtain ⟨q7, c7, rfl, HO7, HS7⟩ := HFIN.out w4 w6 w3.heap.size v6 HB4.out hg6 (Nat.le_refl _) hO6; clear hO6 hg6 hn6)
            | (refine step_app rfl (.tmp 32) (.tmp 40) rfl (w.heap.size + 1 + 1 + 1) (.slice (some ⟨w4.heap.size, 0, none⟩) 1 1) [(x : Int)] (by simp [Act.eval, Act.put]) (out_arr9 (OwnArr.made w4 3 [.int .i64 (x : Int)]) (Nat.le_trans HSZ.out HB4.out.size) rfl (by omega)) q5 r c5 _ _ (ints rest) (by simp [Act.eval, Act.put]) (HR5.out.bel ((Below.refl _ _).alloc (Nat.le_refl _) _)) HLR.out hl6 (by rw [World.size_alloc]; exact Nat.le_succ_of_le (Nat.le_trans HSZ.out HB4.out.size)) ?_; intro v6 w6 hO6 hg6 hn6; obtain ⟨q7, c7, rfl, HO7, HS7⟩ := HFIN.out _ w6 w4.heap.size v6 (HB4.out.alloc HB4.out.size _) hg6 HB4.out.size hO6; clear hO6 hg6 hn6))
          all_goals
            go_wp2_with fail
            go_meet
            exact ⟨_, _, rfl, HO7, HS7⟩
      case rest =>
        obtain ⟨q1, c1, rfl, HO4, HS4⟩ := hcut
        have HS5 : Hid (TeS w n ring p m cap D (some ⟨b, off, none⟩) k c cb kb K (c0 + firU n ring D l K i + endU D rest K 0) L3 wc) := HS4
        have HFB : Hid (c0 + firU n ring D l K i ≤ 100000000000) := by
          show _ ≤ _
          have := firU_le (n := n) (ring := ring) (d := D) (k := K) (l := l) (by rw [HK.out]; omega) i
          have : 419430400 * i ≤ 419430400 * 24 := Nat.mul_le_mul_left _ (by omega)
          omega
        obtain ⟨C1, hC1⟩ : ∃ C1, c0 + firU n ring D l K i = C1 := ⟨_, rfl⟩
        have HC1 := Lib.hid hC1
        rw [hC1] at HS5 HFB
        clear HS3 HS4 AF hU hC1
        go_wp2_with fail
        go_loopw [12, 13, 15, 44] (fun _ _ _ jv wr => ∃ (j : Nat) (L : List Value), j ≤ R1 ∧ jv = .int .i64 (j : Int) ∧ Hid (TbA x rest L j (fun t => knA D rest t j)) ∧ Hid (TeS w n ring p m cap D (some ⟨b, off, none⟩) k c cb kb K (C1 + endU D rest K j) L wr) ∧ Hid (Out (w.heap.size + 1 + 1 + 1) wr (.slice q1 R1 c1) (ints (x :: rest)))) (fun _ _ _ jv _ => R1 - (intOf jv).toNat)
        case atStart => exact ⟨0, L3, Nat.zero_le _, rfl, HT3, HS5, HO4⟩
        case round =>
          obtain ⟨j, L5, hj, rfl, HT, HS, HO⟩ := hrel
          clear HS5 HO4 HT3
          obtain ⟨wp, hwp⟩ : ∃ wp, wp = wr := ⟨_, rfl⟩
          subst hwp
          by_cases hjr : j < R1
          · have hji : (j : Int) < (R1 : Int) := by omega
            have hj0 : (0 : Int) ≤ (j : Int) := by omega
            have hjl : j < (x :: rest).length := by rw [HXL.out]; exact hjr
            have hjr1 : j < rest.length + 1 := by rw [List.length_cons] at hjl; exact hjl
            have hr24 : rest.length ≤ 24 := by rw [HR.out]; omega
            obtain ⟨hR5, -, hrc, hcm1⟩ := HO.out.riA
            obtain ⟨b1, o1, rfl, -, -, -, hc1⟩ := hR5.int (by rw [ints_length]; omega)
            have h1 := hc1 j (by rw [ints_length]; exact hjl)
            rw [ints_get hjl] at h1
            have hen := HEND.out
            have hpn := hen.at_lt hjr1
            have hbg := TbA.begin hen HT.out
            have hfi : ∀ L', TbA x rest L' j (F3 D x rest (folA n ring D x rest j) j (folA n ring D x rest j).length) → TbA x rest L' (j + 1) (fun t => knA D rest t (j + 1)) := fun L' h => TbA.fin h
            have hstp : ∀ u t L1 L', j < t → t < rest.length + 1 → u < (folA n ring D x rest j).length → (folA n ring D x rest j)[u]?.getD 0 = (x :: rest)[t]?.getD 0 → TbA x rest L1 j (F3 D x rest (folA n ring D x rest j) j u) → AddT ((x :: rest)[t]?.getD 0 * 25) L1 L' (adA (knE D rest j) (knA D rest t j)) → TbA x rest L' j (F3 D x rest (folA n ring D x rest j) j (u + 1)) := fun u t L1 L' h1 h2 h3 h4 h5 h6 => TbA.step hen hn hjr1 h1 h2 h3 h4 h5 h6
            have hrd : ∀ u L1, TbA x rest L1 j (F3 D x rest (folA n ring D x rest j) j u) → ∀ i, i < (cv (knE D rest j)).length → L1[(x :: rest)[j]?.getD 0 * 25 + i]? = (cv (knE D rest j))[i]? := fun u L1 h => by
              have := h.read (t := j) (Nat.le_refl _) hjr1
              rw [F3_self] at this
              exact this
            have hfo : ∀ q ∈ folA n ring D x rest j, ∃ t, j < t ∧ t < rest.length + 1 ∧ (x :: rest)[t]?.getD 0 = q ∧ q < n := fun q hq => by
              obtain ⟨t, h1, h2, h3⟩ := folA_of hq
              exact ⟨t, h1, h2, h3, by rw [← h3]; exact hen.at_lt h2⟩
            have hfl : folA n ring D x rest j = restM n ring D ((x :: rest)[j]?.getD 0) ((x :: rest).drop (j + 1)) := rfl
            have hfll : (folA n ring D x rest j).length ≤ 24 := by
              rw [hfl]
              refine Nat.le_trans (List.length_filter_le _ _) ?_
              rw [List.length_drop, HXL.out]; omega
            obtain ⟨fol, hfol⟩ : ∃ fol, folA n ring D x rest j = fol := ⟨_, rfl⟩
            rw [hfol] at hbg hfl hfll
            simp only [hfol] at hfi hstp hrd hfo
            obtain ⟨p0, hp0⟩ : ∃ p0, (x :: rest)[j]?.getD 0 = p0 := ⟨_, rfl⟩
            rw [hp0] at h1 hpn hfl
            simp only [hp0] at hrd
            have hEB : endU D rest K j ≤ 419430400 := by
              have := endU_le (d := D) (k := K) hr24 j
              have : 16777216 * j ≤ 16777216 * 24 := Nat.mul_le_mul_left _ (by omega)
              omega
            have hcn : C1 + endU D rest K j ≤ 1000000000000 := by have := HFB.out; omega
            obtain ⟨J1, hJ1⟩ : ∃ I, j + 1 = I := ⟨_, rfl⟩
            have hJ1i : (j : Int) + 1 = (J1 : Int) := by omega
            have hwJ : IntKind.i64.wrap (J1 : Int) = (J1 : Int) := IntWalk.i64_in _ (by omega)
            have hjk2 : (J1 : Int) ≤ (c1 : Int) := by omega
            have hjk3 : (J1 : Int) ≤ (R1 : Int) := by omega
            have hjk4 : (R1 : Int) ≤ (c1 : Int) := by omega
            have hjk5 : (0 : Int) ≤ (J1 : Int) := by omega
            obtain ⟨U1, hU1⟩ : ∃ U, (if c1 = J1 then some (⟨b1, o1, none⟩ : Addr) else some ⟨b1, o1 + J1, none⟩) = U := ⟨_, rfl⟩
            have hbe := (hR5.bel ((Below.refl _ wp).drew)).behind (k := J1) (cap := c1) (by rw [ints_length, HXL.out]; exact hrc)
            rw [hU1, show (ints (x :: rest)).drop J1 = ints ((x :: rest).drop J1) from by unfold ints; rw [← List.map_drop]] at hbe
            have af := apartFrom_any n ring p m cap D (some ⟨b, off, none⟩) k c p0 U1 (c1 - J1) ((x :: rest).drop J1) wp.drew _ _ hbe (fun y hy => hen.lt y (List.mem_of_mem_drop hy)) (by rw [List.length_drop, HXL.out]; omega) hn hpn
            rw [← hJ1, ← hfl, hJ1, List.length_drop, HXL.out] at af
            obtain ⟨f5, hf5⟩ : ∃ f5, fol.length = f5 := ⟨_, rfl⟩
            rw [hf5] at hfll hfi
            have HF5 := Lib.hid hf5
            have HLF : Hid ((ints fol).length = f5) := by show _ = _; rw [ints_length]; exact hf5
            replace af := Lib.hid af
            replace hbg := Lib.hid hbg
            replace hfi := Lib.hid hfi
            replace hstp := Lib.hid hstp
            replace hrd := Lib.hid hrd
            replace hfo := Lib.hid hfo
            have hnw : ∀ u t, j < t → u < fol.length → fol[u]?.getD 0 = (x :: rest)[t]?.getD 0 → F3 D x rest fol j u t = knA D rest t j := fun u t h1 h2 h3 => F3_next h1 h2 h3
            have hnw := Lib.hid hnw
            have HJ1 := Lib.hid hJ1
            have HP0 := Lib.hid hp0
            have hKE : ∀ q, knE D rest j q ≤ 16777216 := fun q => knE_le hr24
            have hKA : ∀ t q, knA D rest t j q ≤ 1000000000 := fun t q => Nat.le_trans (knA_le hr24) (by omega)
            have HKE := Lib.hid hKE
            have HKA := Lib.hid hKA
            have htell : ∀ W', OwnArr W' cb 3 [.int .i64 ((C1 + endU D rest K j : Nat) : Int)] → OwnArr W' kb 3 [.int .i64 (K : Int)] → _ := fun W' h1 h2 => tellC_any cb kb K (C1 + endU D rest K j) (knE D rest j) W' h1 h2 hk24 hcn hKE
            have hesu : C1 + endU D rest K j + knE D rest j K = C1 + endU D rest K (j + 1) := by rw [endU_succ, Nat.add_assoc]
            obtain ⟨EJ, hEJ⟩ : ∃ E, cv (knE D rest j) = E := ⟨_, rfl⟩
            simp only [hEJ] at htell
            have HTELL := Lib.hid htell
            have HEJ := Lib.hid hEJ
            have HESU := Lib.hid hesu
            have HEL : Hid (EJ.length = 25) := by show _ = _; rw [← hEJ]; exact cv_len _
            have hpi : (p0 : Int) < 24 := by omega
            have hp00 : (0 : Int) ≤ (p0 : Int) := by omega
            clear hfl hfol hp0 hEB hcn hJ1 hbe hf5 hKE hKA htell hEJ hesu hpn hc1 hR5 hrc hen hjl
            go_upto_region 11 with fail
            go_cut [55, 56, 57] (fun va vb vc wx => ∃ q5 c5, va = .slice q5 f5 c5 ∧ vb = .int .i64 (f5 : Int) ∧ vc = .int .i64 0 ∧ Hid (Out (w.heap.size + 1 + 1 + 1) wx (.slice q5 f5 c5) (ints fol)) ∧ Hid (TeS w n ring p m cap D (some ⟨b, off, none⟩) k c cb kb K (C1 + endU D rest K j) L5 wx) ∧ Hid (Out (w.heap.size + 1 + 1 + 1) wx (.slice (some ⟨b1, o1, none⟩) R1 c1) (ints (x :: rest))))
            case first =>
              obtain ⟨d0, d1, d2, d3, d4⟩ := HS.out.bx.five
              have hsz : (w.heap.size + 1 + 1 + 1) ≤ wp.heap.size := HS.out.tb.lt
              have HSZ := Lib.hid hsz
              clear hsz h1
              by_cases hci : c1 = J1
              · rw [if_pos hci] at hU1
                subst hU1
                have hci2 : (c1 = J1) = True := eq_true hci
                have hcz : c1 - J1 = 0 := by omega
                rw [hcz] at af
                clear hci
                go_wp2_with fail
                go_region_law (go_simp; go_at_call 36; refine af.out.mono ?_; rintro ex w5 ⟨v, rfl, hO5, hb5⟩; have hb6 := ((Below.refl _ wp).drew).trans hb5; obtain ⟨q5, c5, rfl, -⟩ := hO5.rd; rw [HLF.out] at hO5 ⊢; have HO5 := Lib.hid (hO5.mono (Nat.le_succ_of_le HSZ.out : (w.heap.size + 1 + 1 + 1) ≤ wp.drew.heap.size + 1)); have HS5 := Lib.hid (HS.out.next hb6); have HX5 := Lib.hid (HO.out.below hb6); clear hO5 hb5 hb6)
                all_goals
                  clear d0 d1 d2 d3 d4
                  go_wp2_with fail
                  go_meet
                  exact ⟨_, _, rfl, rfl, rfl, HO5, HS5, HX5⟩
              · rw [if_neg hci] at hU1
                subst hU1
                go_wp2_with fail
                go_region_law (go_simp; go_at_call 36; refine af.out.mono ?_; rintro ex w5 ⟨v, rfl, hO5, hb5⟩; have hb6 := ((Below.refl _ wp).drew).trans hb5; obtain ⟨q5, c5, rfl, -⟩ := hO5.rd; rw [HLF.out] at hO5 ⊢; have HO5 := Lib.hid (hO5.mono (Nat.le_succ_of_le HSZ.out : (w.heap.size + 1 + 1 + 1) ≤ wp.drew.heap.size + 1)); have HS5 := Lib.hid (HS.out.next hb6); have HX5 := Lib.hid (HO.out.below hb6); clear hO5 hb5 hb6)
                all_goals
                  clear d0 d1 d2 d3 d4
                  go_wp2_with fail
                  go_meet
                  exact ⟨_, _, rfl, rfl, rfl, HO5, HS5, HX5⟩
            case rest =>
              obtain ⟨q5, c5, rfl, rfl, rfl, HF6, HS6, HO6⟩ := hcut
              clear HS HO af hU1 HT
              go_wp2_with fail
              go_loopw [15, 57] (fun _ uv wr => ∃ (u : Nat) (L : List Value), u ≤ f5 ∧ uv = .int .i64 (u : Int) ∧ Hid (TbA x rest L j (F3 D x rest fol j u)) ∧ Hid (TeS w n ring p m cap D (some ⟨b, off, none⟩) k c cb kb K (C1 + endU D rest K j) L wr) ∧ Hid (Out (w.heap.size + 1 + 1 + 1) wr (.slice (some ⟨b1, o1, none⟩) R1 c1) (ints (x :: rest))) ∧ Hid (Out (w.heap.size + 1 + 1 + 1) wr (.slice q5 f5 c5) (ints fol))) (fun _ uv _ => f5 - (intOf uv).toNat)
              case atStart => exact ⟨0, L5, Nat.zero_le _, rfl, hbg, HS6, HO6, HF6⟩
              case round =>
                obtain ⟨u, L6, hu, rfl, HT, HS, HO, HF⟩ := hrel
                clear HS6 HO6 HF6 hbg
                obtain ⟨wq, hwq⟩ : ∃ wq, wq = wr := ⟨_, rfl⟩
                subst hwq
                have hrg : wq.rangeAt (w.heap.size + 1 + 1) (p0 * 25) EJ := HS.out.tb.rangeA (p0 * 25) (by rw [← HEJ.out]; exact hrd.out u L6 HT.out)
                have HRG := Lib.hid hrg
                by_cases huf : u < f5
                · have hui : (u : Int) < (f5 : Int) := by omega
                  have hu0 : (0 : Int) ≤ (u : Int) := by omega
                  have hul : u < fol.length := by rw [HF5.out]; exact huf
                  obtain ⟨hR7, -, -, -⟩ := HF.out.riA
                  obtain ⟨b5, o5, rfl, -, -, -, hc5⟩ := hR7.int (by rw [ints_length]; omega)
                  have h5 := hc5 u (by rw [ints_length]; exact hul)
                  rw [ints_get hul] at h5
                  obtain ⟨t, hjt, ht, htq, hqn⟩ := hfo.out _ (nat_mem hul)
                  have hstp2 := fun L' hA => hstp.out u t L6 L' hjt ht hul htq.symm HT.out hA
                  have hcl : ∀ q, q < 25 → L6[(x :: rest)[t]?.getD 0 * 25 + q]? = some (.int .i64 ((knA D rest t j q : Nat) : Int)) := fun q hq => by
                    have := HT.out.val t (by omega) ht q hq
                    rw [hnw.out u t hjt hul htq.symm] at this
                    exact this
                  rw [htq] at hcl hstp2
                  obtain ⟨q0, hq0⟩ : ∃ q, fol[u]?.getD 0 = q := ⟨_, rfl⟩
                  rw [hq0] at h5 hqn hcl hstp2
                  have hadd := addLonger_any (w.heap.size + 1 + 1) (q0 * 25) 80 L6 (knE D rest j) (knA D rest t j) (q0 : Int) wq.drew HS.out.tb.drew (by rw [HT.out.len]; omega) hcl HKE.out (HKA.out t)
                  rw [HEJ.out] at hadd
                  have HADD := Lib.hid hadd
                  have HSTP2 := Lib.hid hstp2
                  have hqi : (q0 : Int) < 24 := by omega
                  have hq00 : (0 : Int) ≤ (q0 : Int) := by omega
                  clear hc5 hR7 hq0 hqn hcl hstp2 hadd hul htq hrg
                  go_wp2_with fail
                  go_still_tail 7, (by kernel_rfl)
                  refine still_loadArr rfl 55 (.tmp 65) rfl (w.heap.size + 1 + 1) (p0 * 25) (by rfl) EJ _ HRG.out Try.underlying55 rfl (by rw [infoCts, HEL.out]) ?_
                  repeat still_step
                  refine wpStill_nil ?_
                  change wpList _ _ _ _ _ wq.drew
                  go_wp2_with fail
                  refine HADD.out.mono ?_
                  rintro ex w7 ⟨rfl, L7, hA7, hT7, hg7⟩
                  have HS7 := Lib.hid ((HS.out.next ((Below.refl _ wq).drew)).tabS hA7 hg7)
                  have HT7 := Lib.hid (HSTP2.out L7 hT7)
                  have HO7 := Lib.hid ((HO.out.below ((Below.refl _ wq).drew)).stayA hg7 (Nat.lt_succ_self _))
                  have HF7 := Lib.hid ((HF.out.below ((Below.refl _ wq).drew)).stayA hg7 (Nat.lt_succ_self _))
                  clear HSTP2 HADD hA7 hT7 hg7 HS HT HO HF HRG h5
                  go_wp2_with fail
                  go_roundw
                  case rel => exact ⟨u + 1, L7, by omega, by go_num, HT7, HS7, HO7, HF7⟩
                  case measure => simp [intOf]; omega
                · have huf5 : u = f5 := by omega
                  have hui : ¬ (u : Int) < (f5 : Int) := by omega
                  have hht := HT.out
                  rw [huf5] at hht
                  have HT8 := Lib.hid (hfi.out L6 hht)
                  have HTL := Lib.hid (HTELL.out wq HS.out.ct HS.out.kx)
                  clear huf5 hht HT hrg
                  have hrg := HRG.out
                  go_wp2_with (refine wpList_load_mid rfl 55 _ rfl (w.heap.size + 1 + 1) (p0 * 25) (by rfl) EJ _ hrg Try.underlying55 rfl (by rw [infoCts, HEL.out]) ?_)
                  refine HTL.out.mono ?_
                  rintro ex w8 ⟨rfl, hC8, hg8⟩
                  have hs8 := HS.out.cntS hC8 hg8
                  rw [HESU.out] at hs8
                  have HS8 := Lib.hid hs8
                  have HO8 := Lib.hid (HO.out.stayA hg8 (by have := HS.out.cb_lt; omega))
                  clear HTL hC8 hg8 hs8 HS HO HF HRG hrg
                  go_wp2_with fail
                  go_roundw
                  case rel => exact ⟨j + 1, L6, by omega, by go_num, HT8, HS8, HO8⟩
                  case measure => simp [intOf]; omega
          · have hjR : j = R1 := by omega
            have hji : ¬ (j : Int) < (R1 : Int) := by omega
            have HL9 : Hid (L5.length = 600) := HT.out.len
            have HS9 : Hid (TeS w n ring p m cap D (some ⟨b, off, none⟩) k c cb kb K (c0 + firU n ring D l K (i + 1)) L5 wp) := by
              have := HS.out
              rw [hjR, ← HC1.out, Nat.add_assoc, ← HFSI.out] at this
              exact this
            clear hjR HT HS HO
            go_wp2_with fail
            go_roundw
            case rel => exact ⟨i + 1, L5, by omega, by go_num, HL9, HS9⟩
            case measure => simp [intOf]; omega
    · have hik : i = k := by omega
      have hik2 : ¬ (i : Int) < (k : Int) := by omega
      have HCT := Lib.hid HS.out.ct
      have HGR := Lib.hid HS.out.gr
      rw [hik] at HCT
      clear hik
      go_wp2_with fail
      exact bodyPost_end (results_none rfl _ _ _) rfl ⟨rfl, HCT.out, HGR.out⟩
end Go.Proofs.Ytoedcklgpmhnnaa

