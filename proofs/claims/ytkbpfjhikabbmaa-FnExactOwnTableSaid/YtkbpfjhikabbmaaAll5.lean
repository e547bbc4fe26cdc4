/- Chapter 5, spec side: spec.l5All. -/
import Derived.Test.YtkbpfjhikabbmaaAll7
import Derived.Test.YtkbpfjhikabbmaaCho5
import Derived.Deep.RegionLaw
import Derived.Deep.DeepCutAuto
namespace Go.Proofs.Ytkbpfjhikabbmaa
open Go.RowKit

/-- append of a list of lists, as one step of a region that draws -/
theorem step_appLL {ops : Array Oper} {o : Oper} {a : Act} {w : World} {K : Act → World → Prop} {Q : Exit → Act → World → Prop} {E : Prop} (hgd : o.guard = none) (s x : Operand)
    (ho : o.op = .call { callee := .builtin .append, args := #[s, x], argTypes := #[22, 22] })
    (B : Nat) (v : Value) (n : Nat) (xs : List Value) (hs : a.eval s = v) (hown : w.ownsRow B 33 1 v n xs)
    (ad : Addr) (m c : Nat) (news : List Value) (hx : a.eval x = .slice (some ad) m c) (hl : news.length = m) (hnews : ∀ j u, news[j]? = some u → w.cell? (ad.add j) = some u) (h1 : ∀ u ∈ news, u.oneCell' = true)
    (h63 : n + m ≤ 1000000000000) (hbase : B ≤ w.heap.size)
    (h : ∀ v' w', w'.ownsRow B 33 1 v' (n + m) (xs ++ news) → w.grownBy w' v.ownBlock → (v' = .slice none 0 0 ↔ v = .slice none 0 0 ∧ m = 0) → (v'.ownBlock = v.ownBlock ∨ v'.ownBlock = some w.heap.size) → K (a.put o.dst v') w') :
    if Region.wanted o (yielded ops a.tmps) = true then Oper.wp Try.prog o a w K Q else E := by
  have hw : Region.wanted o (yielded ops a.tmps) = true := by simp [Region.wanted, hgd]
  rw [if_pos hw]
  obtain ⟨i0, hi, hz0, hz1, hz2⟩ := info_parts infoSl7
  obtain ⟨v', w', hr, h2, h3, h4, h5⟩ := run_append_own_at (P := Try.prog) w B 22 o.type 33 i0 (.slice none 0 0) 1 24 Try.underlying22 hi hz0 hz1 hz2 rfl (by decide) v n xs hown ad m c news (by omega) hnews h1 (by unfold maxLen; omega) (by omega) hbase
  unfold Oper.wp execOp
  simp only [ho, resolve, invoke, builtin, Sem.run_bind, Sem.run_pure, Result.andThen_ok, List.map_toArray, List.map_cons, List.map_nil, hs, hx, hr]
  exact h v' w' h2 h3 h4 h5

theorem part_take {n k d : Nat} {bs : List Int} {cs : List Nat} {i c : Nat} (h : cs[i]? = some c) : partM n k d bs (cs.take (i + 1)) = partM n k d bs (cs.take i) ++ seatM n k d (bs ++ [(c : Int)]) := by
  unfold partM
  have hi := (List.getElem?_eq_some_iff.1 h).1
  rw [List.take_succ_eq_append_getElem hi, List.flatMap_append]
  rw [List.getElem?_eq_getElem hi] at h
  simp only [Option.some.injEq] at h
  rw [h]; simp

set_option maxRecDepth 4000 in
set_option maxHeartbeats 4000000 in
theorem l5All_step (n k d : Nat) (hn : n ≤ 7)
    (ih : ∀ (bs : List Int) (p : Option Addr) (cap lo : Nat) (w : World), bs.length + d = n → Out lo w (.slice p bs.length cap) bs → lo ≤ w.heap.size →
      Calls Try.prog 24 #[.int .i64 (n : Nat), .int .i64 (k : Nat), .slice p bs.length cap] w fun e w' => ∃ v, e = .returned v ∧ LL lo w.heap.size w' v (seatM n k d bs) ∧ Below w.heap.size w w')
    (bs : List Int) (p : Option Addr) (cap lo : Nat) (w : World) (hbs : bs.length + (d + 1) = n) (hO : Out lo w (.slice p bs.length cap) bs) (hlo : lo ≤ w.heap.size) :
    Calls Try.prog 24 #[.int .i64 (n : Nat), .int .i64 (k : Nat), .slice p bs.length cap] w fun e w' => ∃ v, e = .returned v ∧ LL lo w.heap.size w' v (seatM n k (d + 1) bs) ∧ Below w.heap.size w w' := by
  obtain ⟨p1, c1, e1, hc1, hc2, hrd, -⟩ := hO.rd
  simp only [Value.slice.injEq, true_and] at e1
  obtain ⟨rfl, rfl⟩ := e1
  have CHO := Lib.hid (fun (w' : World) (h' : Below w.heap.size w w') => l5Choices_any n k p cap bs w' lo w.heap.size (hrd.below h' hrd.top) (by omega) (by omega))
  have OWN := Lib.hid (fun (w' : World) (h' : Below w.heap.size w w') => l1Own_any p cap bs w' lo w.heap.size (hrd.below h' hrd.top) (by omega))
  have IH := Lib.hid ih
  have hS : seatM n k (d + 1) bs = partM n k d bs (choM n k bs) := rfl
  rw [hS]
  have hd9 : d ≤ 6 := by omega
  have hcl := cho_le (n := n) (k := k) bs (by omega)
  have h12 : 12 ^ (d + 1) ≤ 35831808 := Nat.le_trans (Nat.pow_le_pow_right (by omega) (show d + 1 ≤ 7 by omega)) (by decide)
  have h12' : 12 ^ d ≤ 35831808 := Nat.le_trans (Nat.pow_le_pow_right (by omega) (show d ≤ 7 by omega)) (by decide)
  have HLS := Lib.hid (fun (x : List Int) => Nat.le_trans (seat_len (n := n) (k := k) (by omega) d x) h12')
  have HLB := Lib.hid (fun (cs : List Nat) (h : cs.length ≤ 12) => Nat.le_trans (part_len (n := n) (k := k) (d := d) (by omega) bs h) h12)
  obtain ⟨cs, hcs⟩ : ∃ cs, choM n k bs = cs := ⟨_, rfl⟩
  rw [hcs] at CHO hcl ⊢
  obtain ⟨m, hm⟩ : ∃ m, bs.length = m := ⟨_, rfl⟩
  rw [hm] at CHO OWN ⊢
  have hmn : ¬ (m : Int) = (n : Int) := by omega
  have hd1 : ((m : Int) == (n : Int)) = false := by simpa using hmn
  have hd2 : decide ((m : Int) = (n : Int)) = false := decide_eq_false hmn
  have HM := Lib.hid hm
  have hmn2 : m + 1 + d = n := by omega
  have hm6 : m ≤ 6 := by omega
  have HL0 := Lib.hid (LL.nil w lo)
  have HB0 := Lib.hid ((Below.refl w.heap.size w).alloc (Nat.le_refl _) (.cells #[] 33))
  clear ih hS hO hrd hm hmn h12 h12' hcs hd9
  go_enter Try.func24, Try.ntmps24
  go_wp2_with fail
  refine (CHO.out _ HB0.out).mono ?_
  rintro e w3 ⟨vc, rfl, hOc, hb3⟩
  obtain ⟨pc, cc, rfl, hcc1, hcc2, hrc, -⟩ := hOc.rd
  have hsa : (w.alloc (.cells #[] 33)).heap.size = w.heap.size + 1 := by simp
  rw [hsa] at hrc hb3
  have HC3 := Lib.hid hrc
  have HL3 := Lib.hid (HL0.out.below (by rw [hsa]; exact hb3))
  have HB3 := Lib.hid (HB0.out.trans (hb3.mono (by omega)))
  obtain ⟨r, hr⟩ : ∃ r, cs.length = r := ⟨_, rfl⟩
  have HR := Lib.hid hr
  rw [ints_length, hr]
  have hr12 : r ≤ 12 := by omega
  obtain ⟨z3, hz3⟩ : ∃ z, w3.heap.size = z := ⟨_, rfl⟩
  have HZ := Lib.hid hz3
  rw [hz3] at HC3
  clear hOc hrc hb3 hsa hcc1 hcc2 hr hcl hz3 HL0 HB0
  go_wp2_with fail
  go_loopw [7, 9] (fun v iv' wr => ∃ (i : Nat), i ≤ r ∧ iv' = .int .i64 (i : Int) ∧ Hid (LL lo w.heap.size wr v (partM n k d bs (cs.take i))) ∧ Hid (Below w.heap.size w wr) ∧ Hid (Rd (w.heap.size + 1) z3 wr pc (iv (ints cs))) ∧ Hid (∀ g, v.ownBlock = some g → g = w.heap.size ∨ z3 ≤ g)) (fun _ iv' _ => r - (intOf iv').toNat)
  case atStart => exact ⟨0, Nat.zero_le _, rfl, HL3, HB3, HC3, by show ∀ _, _; intro g h; simp [Value.ownBlock] at h; exact .inl h.symm⟩
  case round =>
    obtain ⟨i, hi, rfl, HL, HB, HC, HV⟩ := hrel
    clear HL3 HB3 HC3
    by_cases hlt : i < r
    · have hi1 : (i : Int) < (r : Int) := by omega
      have hi0 : (0 : Int) ≤ (i : Int) := by omega
      have hwi : IntKind.i64.wrap ((i : Int) + 1) = (i : Int) + 1 := IntWalk.i64_in _ (by omega)
      obtain ⟨cb, co, rfl, -, -, hcell⟩ := HC.out.cells (by rw [iv_length, ints_length, HR.out]; omega)
      obtain ⟨c, hc⟩ : ∃ c, cs[i]? = some c := ⟨cs[i]'(by rw [HR.out]; exact hlt), List.getElem?_eq_getElem _⟩
      have hivc : (iv (ints cs))[i]? = some (.int .i64 (c : Int)) := by
        unfold iv ints
        rw [List.getElem?_map, List.getElem?_map, hc]; rfl
      have c1 := (hcell i (by rw [iv_length, ints_length, HR.out]; exact hlt)).trans hivc
      have hmore := part_take (n := n) (k := k) (d := d) (bs := bs) hc
      have hlw : lo ≤ wr.heap.size := Nat.le_trans hlo HB.out.size
      have HCB : Hid (cb < wr.heap.size) := World.block_lt_of_cell? wr ⟨cb, co + i, none⟩ c1
      have hzw := HC.out.top
      have HBd := Lib.hid HB.out.drew
      have HBa : Hid (Below w.heap.size w (wr.alloc (.cells #[.int .i64 (c : Int)] 3)).drew) := by show Below _ _ _; exact (HB.out.alloc HB.out.size _).drew
      have AFd : Hid (∀ w2 g c2, Out wr.drew.heap.size w2 (.slice (some ⟨g, 0, none⟩) m c2) bs → Below wr.drew.heap.size wr.drew w2 → Hid (Out wr.heap.size w2 (.slice (some ⟨g, 0, none⟩) m c2) bs) ∧ Hid (Below wr.heap.size wr w2) ∧ w2.cell? ⟨cb, co + i, none⟩ = some (.int .i64 (c : Int)) ∧ Hid True) := by
        show ∀ _, _
        intro w2 g c2 h1 h2
        have h2' : Below wr.heap.size wr w2 := (Below.refl _ wr).drew.trans h2
        exact ⟨h1, h2', (World.cell?_of_block (h2'.block _ HCB.out)).trans c1, True.intro⟩
      have AFa : Hid (∀ w2 g c2, Out (wr.alloc (.cells #[.int .i64 (c : Int)] 3)).drew.heap.size w2 (.slice (some ⟨g, 0, none⟩) m c2) bs → Below (wr.alloc (.cells #[.int .i64 (c : Int)] 3)).drew.heap.size (wr.alloc (.cells #[.int .i64 (c : Int)] 3)).drew w2 → Hid (Out wr.heap.size w2 (.slice (some ⟨g, 0, none⟩) m c2) bs) ∧ Hid (Below wr.heap.size wr w2) ∧ w2.cell? ⟨cb, co + i, none⟩ = some (.int .i64 (c : Int)) ∧ Hid (OwnArr w2 wr.heap.size 3 [.int .i64 (c : Int)])) := by
        show ∀ _, _
        intro w2 g c2 h1 h2
        have hs : (wr.alloc (.cells #[.int .i64 (c : Int)] 3)).drew.heap.size = wr.heap.size + 1 := by simp
        have h2' : Below wr.heap.size wr w2 := (((Below.refl _ wr).alloc (Nat.le_refl _) _).drew).trans (h2.mono (by omega))
        refine ⟨Out.mono h1 (by omega), h2', (World.cell?_of_block (h2'.block _ HCB.out)).trans c1, ?_⟩
        show OwnArr _ _ _ _
        have h5 : OwnArr (wr.alloc (.cells #[.int .i64 (c : Int)] 3)).drew wr.heap.size 3 [.int .i64 (c : Int)] := OwnArr.made wr _ [_]
        exact h5.below h2 (by omega)
      have HMM := HM.out
      have hl1 : (bs ++ [(c : Int)]).length = m + 1 := by rw [List.length_append, HMM]; rfl
      have hl1d : (bs ++ [(c : Int)]).length + d = n := by omega
      have hLr := HLB.out (cs.take i) (by rw [List.length_take]; have := HR.out; omega)
      have hRr := HLS.out (bs ++ [(c : Int)])
      have hl6 : bs.length + 1 ≤ 100000 := by omega
      have HC0 : Hid (∀ p3 c3 w', Out wr.heap.size w' (.slice p3 (m + 1) c3) (bs ++ [(c : Int)]) → Below wr.heap.size wr w' → Calls Try.prog 24 #[.int .i64 (n : Nat), .int .i64 (k : Nat), .slice p3 (m + 1) c3] w' fun e w'' => ∃ v, e = .returned v ∧ LL wr.heap.size w'.heap.size w'' v (seatM n k d (bs ++ [(c : Int)])) ∧ Below w'.heap.size w' w'') := by
        show ∀ _, _
        intro p3 c3 w' h1 h2
        have := IH.out (bs ++ [(c : Int)]) p3 c3 wr.heap.size w' hl1d (by rw [hl1]; exact h1) h2.size
        rw [hl1] at this
        exact this
      have HL1 := Lib.hid hl1
      have HMR := Lib.hid hmore
      clear hl1 hl1d hmore hcell hivc hc HCB
      go_wp2_with fail
      go_region_law (first
        | (go_simp; go_at_call 40; refine (OWN.out _ HBd.out).mono ?_; rintro e w2 ⟨g, c2, rfl, hg, hc21, hc22, hO, hb2⟩; obtain ⟨HO, HB2, d1, HLT⟩ := AFd.out _ _ _ hO hb2; clear hO hb2)
        | (go_simp; go_at_call 40; refine (OWN.out _ HBa.out).mono ?_; rintro e w2 ⟨g, c2, rfl, hg, hc21, hc22, hO, hb2⟩; obtain ⟨HO, HB2, d1, HLT⟩ := AFa.out _ _ _ hO hb2; clear hO hb2)
        | (refine step_app rfl (.tmp 31) (.tmp 36) rfl wr.heap.size (.slice (some ⟨g, 0, none⟩) m c2) bs (by simp [Act.eval]) (World.ownsRow.alloc HO.out _) _ 1 1 0 (w2.heap.size + 1) [(c : Int)] (by simp [Act.eval]) (lit_one (OwnArr.made w2 _ [_]) _ (Nat.lt_succ_self _) (by simp)) rfl hl6 (by have := HB2.out.size; simp; omega) ?_; intro v3 w3 hO3 hg3 hn3; have HB3 := Lib.hid ((HB2.out.alloc HB2.out.size (.cells #[.int .i64 (c : Int)] 3)).grown hg3 (by have := HB2.out.size; simp; omega) (own_block HO.out)); obtain ⟨p3, c3, e3, -, -, -, -⟩ := hO3.rd; rw [HL1.out] at e3; rw [e3] at hO3 ⊢; have HO3 := Lib.hid hO3; clear hO3 hg3 hn3 e3)
        | (refine step_app rfl (.tmp 31) (.tmp 36) rfl wr.heap.size (.slice (some ⟨g, 0, none⟩) m c2) bs (by simp [Act.eval]) HO.out _ 1 1 0 w2.heap.size [(c : Int)] (by simp [Act.eval]) (lit_one HLT.out _ HLT.out.lt (Nat.le_refl _)) rfl hl6 HB2.out.size ?_; intro v3 w3 hO3 hg3 hn3; have HB3 := Lib.hid (HB2.out.grown hg3 HB2.out.size (own_block HO.out)); obtain ⟨p3, c3, e3, -, -, -, -⟩ := hO3.rd; rw [HL1.out] at e3; rw [e3] at hO3 ⊢; have HO3 := Lib.hid hO3; clear hO3 hg3 hn3 e3)
        | (go_simp; go_at_call 24; refine (HC0.out _ _ _ HO3.out HB3.out).mono ?_; rintro e w4 ⟨v4, rfl, hLL4, hb4⟩; have hb34 : Below wr.heap.size wr w4 := HB3.out.trans (hb4.mono HB3.out.size); have hL4 := HL.out.below hb34; obtain ⟨gL0, cL0, vsL0, eL0, -, -, -, -, hgL0⟩ := HL.out.parts; obtain ⟨gL, cL, vsL, eL, oL, lL, -, -, hgL⟩ := hL4.parts; obtain ⟨gR, cR, vsR, eR, oR, lR, newsR, oneR, hgR⟩ := hLL4.parts; have HLL4 := Lib.hid hLL4; have HB34 := Lib.hid hb34; have HL4 := Lib.hid hL4; have HOL := Lib.hid oL; have HOR := Lib.hid oR; have HNR := Lib.hid newsR; have HONE := Lib.hid oneR; have HLRR := Lib.hid lR; have HEL := Lib.hid eL; have HEL0 := Lib.hid eL0; subst eR; clear hb34 hL4 hLL4 oL oR newsR oneR lR eL eL0 hb4)
        | (refine step_appLL rfl (.tmp 27) (.tmp 38) rfl w.heap.size u7 _ vsL (by simp [Act.eval]) HOL.out ⟨gR, 0, none⟩ _ cR vsR (by simp [Act.eval]) HLRR.out HNR.out HONE.out (by omega) (Nat.le_trans HB.out.size HB34.out.size) ?_; intro v5 w5 ho5 hg5 hnil5 hat5))
      all_goals
        have hsep : ∀ g, u7.ownBlock = some g → g < wr.heap.size := by
          intro g hg
          rw [HEL0.out] at hg
          simp [Value.ownBlock] at hg
          omega
        have hun : ¬ u7 = .slice none 0 0 := by rw [HEL0.out]; intro e; cases e
        have h4 := HB34.out.size
        have hL5 := LL.join (v' := v5) (w' := w5) HL4.out HLL4.out hlw hsep hg5 HOL.out HOR.out ho5 (fun e => hun (hnil5.1 e).1) hat5
        rw [← HMR.out] at hL5
        have HL5 := Lib.hid hL5
        have HB5 := Lib.hid ((HB.out.trans (HB34.out.mono HB.out.size)).grown hg5 (by have := HB.out.size; omega) (own_block HOL.out))
        have hC4 := HC.out.below HB34.out hzw
        have hC5 : Rd (w.heap.size + 1) z3 w5 (some ⟨cb, co, none⟩) (iv (ints cs)) := by
          obtain ⟨k1, k2, k3, k4, k5⟩ := hg5
          refine hC4.keep (lo := gL) (hi := gL + 1) ⟨k1, k2, k3, k4, fun b hb hne => k5 b hb ?_⟩ ?_
          · rw [HEL.out]; simp [Value.ownBlock]; omega
          · have := HV.out gL (by rw [HEL.out]; rfl)
            omega
        have HC5 := Lib.hid hC5
        have HV5 : Hid (∀ g, v5.ownBlock = some g → g = w.heap.size ∨ z3 ≤ g) := by
          show ∀ _, _
          intro g hg
          rcases hat5 with h | h
          · exact HV.out g (by rw [← h]; exact hg)
          · rw [h] at hg
            simp only [Option.some.injEq] at hg
            omega
        clear hL5 hC4 hC5 hsep hun hg5 ho5 hnil5 hat5 HL4 HLL4 HOL HOR HNR HONE HLRR HEL HEL0 HLT HO HO3 HB2 HB3 HBd HBa AFd AFa HL HB HC HV d1 c1
        go_wp2_with fail
        go_roundw
        case rel => exact ⟨i + 1, by omega, by go_num, HL5, HB5, HC5, HV5⟩
        case measure => simp [intOf]; omega
    · have hrn : i = r := by omega
      subst hrn
      have hno : ¬ (i : Int) < (i : Int) := by omega
      have hT : cs.take i = cs := List.take_of_length_le (by rw [HR.out]; exact Nat.le_refl _)
      rw [hT] at HL
      go_wp2_with fail
      go_ret
      exact ⟨_, rfl, HL.out, HB.out⟩

set_option maxRecDepth 4000 in
set_option maxHeartbeats 1000000 in
theorem l5All_leaf (n k : Nat) (h1 : 1 ≤ n) (hn : n ≤ 7) (bs : List Int) (p : Option Addr) (cap lo : Nat) (w : World) (hbs : bs.length = n) (hO : Out lo w (.slice p bs.length cap) bs) (_ : lo ≤ w.heap.size) :
    Calls Try.prog 24 #[.int .i64 (n : Nat), .int .i64 (k : Nat), .slice p bs.length cap] w fun e w' => ∃ v, e = .returned v ∧ LL lo w.heap.size w' v [bs] ∧ Below w.heap.size w w' := by
  have hL : Hid (LL lo w.heap.size (w.alloc (.cells #[.slice p bs.length cap] 33)) (.slice (some ⟨w.heap.size, 0, none⟩) 1 1) [bs]) := by
    refine LL.one ?_ hO
    obtain ⟨g, c, e, -, hg, -⟩ := hO.some' (by intro e; simp only [Value.slice.injEq] at e; omega)
    exact ⟨g, c, e, hg⟩
  have hB := Lib.hid ((Below.refl w.heap.size w).alloc (Nat.le_refl _) (.cells #[.slice p bs.length cap] 33))
  rw [hbs] at hL hB ⊢
  clear hO hbs
  go_enter Try.func24, Try.ntmps24
  go_wp2_with fail
  go_ret
  exact ⟨_, rfl, hL.out, hB.out⟩
theorem l5All_any (n k : Nat) (h1 : 1 ≤ n) (hn : n ≤ 7) : ∀ (d : Nat) (bs : List Int) (p : Option Addr) (cap lo : Nat) (w : World), bs.length + d = n → Out lo w (.slice p bs.length cap) bs → lo ≤ w.heap.size →
      Calls Try.prog 24 #[.int .i64 (n : Nat), .int .i64 (k : Nat), .slice p bs.length cap] w fun e w' => ∃ v, e = .returned v ∧ LL lo w.heap.size w' v (seatM n k d bs) ∧ Below w.heap.size w w'
  | 0, bs, p, cap, lo, w, hbs, hO, hlo => l5All_leaf n k h1 hn bs p cap lo w (by omega) hO hlo
  | d + 1, bs, p, cap, lo, w, hbs, hO, hlo => l5All_step n k d hn (l5All_any n k h1 hn d) bs p cap lo w hbs hO hlo
end Go.Proofs.Ytkbpfjhikabbmaa
