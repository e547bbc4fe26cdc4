/- Lists of lists of numbers in memory of a call's own. Plain lemmas. Chapter 7, spec side: spec.l7All. -/
import Derived.Test.YtlhnejjciondeaaApp
import Derived.Test.YtlhnejjciondeaaOwnL
import Derived.Maps.AppendAt
import Derived.Test.YtlhnejjciondeaaSeaM5
section
namespace Go.Proofs.Ytlhnejjciondeaa
open Go.RowKit

theorem infoSl7 : (Try.prog.info? 22).map (fun i => (i.zero, i.size, i.bytes)) = some (some (.slice none 0 0), 1, 24) := by kernel_rfl
/-- a list in memory of its own, within a list g of lists -/
def InL (B g : Nat) (w : World) (u : Value) (x : List Int) : Prop := (∃ b c, u = .slice (some ⟨b, 0, none⟩) x.length c ∧ b ≠ g ∧ b < w.heap.size) ∧ Out B w u x
/-- a list of lists, in memory of its own from B2 on, the lists from B1 on -/
def LL (B1 B2 : Nat) (w : World) (v : Value) (Ls : List (List Int)) : Prop := ∃ (g c : Nat) (vs : List Value), v = .slice (some ⟨g, 0, none⟩) Ls.length c ∧ w.ownsRow B2 22 1 v Ls.length vs ∧ g < w.heap.size ∧ ∀ (i : Nat) (x : List Int), Ls[i]? = some x → ∃ u, vs[i]? = some u ∧ InL B1 g w u x
theorem InL.mono {B B' g : Nat} {w : World} {u : Value} {x : List Int} (h : InL B g w u x) (hB : B' ≤ B) : InL B' g w u x := ⟨h.1, Out.mono h.2 hB⟩
theorem InL.below {B g : Nat} {w w' : World} {u : Value} {x : List Int} (h : InL B g w u x) (hb : Below w.heap.size w w') : InL B g w' u x := by
  obtain ⟨⟨b, c, e, h1, h2⟩, h3⟩ := h
  exact ⟨⟨b, c, e, h1, by have := hb.size; omega⟩, Out.below h3 hb⟩
theorem LL.below {B1 B2 : Nat} {w w' : World} {v : Value} {Ls : List (List Int)} (h : LL B1 B2 w v Ls) (hb : Below w.heap.size w w') : LL B1 B2 w' v Ls := by
  obtain ⟨g, c, vs, e, h1, hg, h2⟩ := h
  refine ⟨g, c, vs, e, ⟨h1.1, h1.2.elim .inl ?_⟩, by have := hb.size; omega, fun i x hx => ?_⟩
  · rintro ⟨g', cap, cur, e', hB, hh, r⟩
    have hlt : g' < w.heap.size := (Array.getElem?_eq_some_iff.1 hh).1
    exact .inr ⟨g', cap, cur, e', hB, by rw [hb.block g' hlt]; exact hh, r⟩
  · obtain ⟨u, hu, hl⟩ := h2 i x hx
    exact ⟨u, hu, hl.below hb⟩
theorem LL.mono {B1 B2 B1' B2' : Nat} {w : World} {v : Value} {Ls : List (List Int)} (h : LL B1 B2 w v Ls) (h1 : B1' ≤ B1) (h2 : B2' ≤ B2) : LL B1' B2' w v Ls := by
  obtain ⟨g, c, vs, e, q1, hg, q2⟩ := h
  refine ⟨g, c, vs, e, ⟨q1.1, q1.2.elim .inl ?_⟩, hg, fun i x hx => ?_⟩
  · rintro ⟨g', cap, cur, e', hB, r⟩
    exact .inr ⟨g', cap, cur, e', Nat.le_trans h2 hB, r⟩
  · obtain ⟨u, hu, hl⟩ := q2 i x hx
    exact ⟨u, hu, hl.mono h1⟩
theorem LL.nil (w : World) (B : Nat) : LL B w.heap.size (w.alloc (.cells #[] 22)) (.slice (some ⟨w.heap.size, 0, none⟩) 0 0) [] := by
  refine ⟨w.heap.size, 0, [], rfl, ⟨rfl, .inr ⟨w.heap.size, 0, #[], rfl, Nat.le_refl _, ?_, Nat.le_refl _, by unfold maxLen; omega, rfl, rfl⟩⟩, by simp, fun i x hx => by simp at hx⟩
  show (w.heap.push _)[w.heap.size]? = _
  rw [Array.getElem?_push_size]
theorem LL.one {w : World} {B : Nat} {u : Value} {x : List Int} (hu : ∃ b c, u = .slice (some ⟨b, 0, none⟩) x.length c ∧ b < w.heap.size) (h : Out B w u x) : LL B w.heap.size (w.alloc (.cells #[u] 22)) (.slice (some ⟨w.heap.size, 0, none⟩) 1 1) [x] := by
  obtain ⟨b, c, e, hb⟩ := hu
  refine ⟨w.heap.size, 1, [u], rfl, ⟨rfl, .inr ⟨w.heap.size, 1, #[u], rfl, Nat.le_refl _, ?_, Nat.le_refl _, by unfold maxLen; omega, rfl, rfl⟩⟩, by simp, fun i y hy => ?_⟩
  · show (w.heap.push _)[w.heap.size]? = _
    rw [Array.getElem?_push_size]
  · cases i with
    | zero =>
      simp at hy
      subst hy
      exact ⟨u, rfl, ⟨b, c, e, by omega, by simp; omega⟩, Out.below h ((Below.refl _ _).alloc (Nat.le_refl _) _)⟩
    | succ i => simp at hy
/-- what is read of one of the lists -/
theorem LL.cell {B1 B2 : Nat} {w : World} {v : Value} {Ls : List (List Int)} (h : LL B1 B2 w v Ls) {i : Nat} {x : List Int} (hx : Ls[i]? = some x) : ∃ g c u, v = .slice (some ⟨g, 0, none⟩) Ls.length c ∧ w.cell? ⟨g, i, none⟩ = some u ∧ (∃ b c', u = .slice (some ⟨b, 0, none⟩) x.length c' ∧ x.length ≤ c' ∧ c' ≤ maxLen) ∧ Out B1 w u x := by
  obtain ⟨g, c, vs, e, h1, hg, h2⟩ := h
  obtain ⟨u, hu, ⟨b, c', e', -, -⟩, ho⟩ := h2 i x hx
  have hil : i < Ls.length := (List.getElem?_eq_some_iff.1 hx).1
  obtain ⟨p3, c3, e3, q1, q2, -, -⟩ := ho.rd
  rw [e'] at e3
  simp only [Value.slice.injEq] at e3
  refine ⟨g, c, u, e, ?_, ⟨b, c', e', by omega, by omega⟩, ho⟩
  obtain ⟨hl, hr⟩ := h1
  rcases hr with ⟨e4, -⟩ | ⟨g', cap, cur, e4, -, hh, -, -, -, ht⟩
  · rw [e] at e4; cases e4
  · rw [e] at e4
    simp only [Value.slice.injEq, Option.some.injEq, Addr.mk.injEq, and_true, true_and] at e4
    obtain ⟨rfl, -⟩ := e4
    have hc : w.cell? ⟨g, i, none⟩ = cur[i]? := by simp [World.cell?, hh]
    rw [hc, ← Array.getElem?_toList]
    rw [Nat.mul_one] at ht
    have : (cur.toList.take Ls.length)[i]? = cur.toList[i]? := by rw [List.getElem?_take, if_pos hil]
    rw [← this, ht]; exact hu
/-- how a list of lists is appended to, and appended -/
theorem LL.parts {B1 B2 : Nat} {w : World} {v : Value} {Ls : List (List Int)} (h : LL B1 B2 w v Ls) : ∃ (g c : Nat) (vs : List Value), v = .slice (some ⟨g, 0, none⟩) Ls.length c ∧ w.ownsRow B2 22 1 v Ls.length vs ∧ vs.length = Ls.length ∧ (∀ j u, vs[j]? = some u → w.cell? ((⟨g, 0, none⟩ : Addr).add j) = some u) ∧ (∀ u ∈ vs, u.oneCell' = true) ∧ g < w.heap.size := by
  obtain ⟨g, c, vs, e, h1, hg, h2⟩ := h
  have hvl : vs.length = Ls.length := by have := h1.1; omega
  refine ⟨g, c, vs, e, h1, hvl, fun j u hu => ?_, fun u hu => ?_, hg⟩
  · rw [Addr.add_lit, Nat.zero_add]
    have hj : j < Ls.length := by have := (List.getElem?_eq_some_iff.1 hu).1; omega
    obtain ⟨hl, hr⟩ := h1
    rcases hr with ⟨e4, -⟩ | ⟨g', cap, cur, e4, -, hh, -, -, -, ht⟩
    · rw [e] at e4; cases e4
    · rw [e] at e4
      simp only [Value.slice.injEq, Option.some.injEq, Addr.mk.injEq, and_true, true_and] at e4
      obtain ⟨rfl, -⟩ := e4
      have hc : w.cell? ⟨g, j, none⟩ = cur[j]? := by simp [World.cell?, hh]
      rw [hc, ← Array.getElem?_toList]
      rw [Nat.mul_one] at ht
      have : (cur.toList.take Ls.length)[j]? = cur.toList[j]? := by rw [List.getElem?_take, if_pos hj]
      rw [← this, ht]; exact hu
  · obtain ⟨j, hj, rfl⟩ := List.getElem_of_mem hu
    obtain ⟨u, hu', ⟨b, c', e', -⟩, -⟩ := h2 j (Ls[j]'(by omega)) (List.getElem?_eq_getElem _)
    rw [List.getElem?_eq_getElem hj] at hu'
    simp only [Option.some.injEq] at hu'
    rw [hu', e']; rfl
/-- lists put behind others -/
theorem LL.join {B1 B2 B3 B4 : Nat} {w w' : World} {v v' r : Value} {Ls Rs : List (List Int)} (hL : LL B1 B2 w v Ls) (hR : LL B3 B4 w r Rs) (h3 : B1 ≤ B3) (hsep : ∀ g, v.ownBlock = some g → g < B3) {vs rs : List Value} (hg : w.grownBy w' v.ownBlock)
    (hv : w.ownsRow B2 22 1 v Ls.length vs) (hr : w.ownsRow B4 22 1 r Rs.length rs)
    (ho : w'.ownsRow B2 22 1 v' (Ls.length + Rs.length) (vs ++ rs)) (hnil : ¬ v' = .slice none 0 0) (hat : v'.ownBlock = v.ownBlock ∨ v'.ownBlock = some w.heap.size) : LL B1 B2 w' v' (Ls ++ Rs) := by
  have uniq : ∀ (B : Nat) (z : Value) (m : Nat) (xs ys : List Value), w.ownsRow B 22 1 z m xs → w.ownsRow B 22 1 z m ys → xs = ys := by
    rintro B z m xs ys ⟨hl, h⟩ ⟨hl', h'⟩
    rcases h with ⟨e, h0⟩ | ⟨g, cap, cur, e, -, hh, -, -, -, ht⟩
    · rw [h0] at hl hl'
      rw [List.length_eq_zero_iff.1 hl, List.length_eq_zero_iff.1 hl']
    · rcases h' with ⟨e', -⟩ | ⟨g', cap', cur', e', -, hh', -, -, -, ht'⟩
      · rw [e] at e'; cases e'
      · rw [e] at e'
        simp only [Value.slice.injEq, Option.some.injEq, Addr.mk.injEq, and_true, true_and] at e'
        obtain ⟨rfl, rfl⟩ := e'
        rw [hh] at hh'
        simp only [Option.some.injEq, Obj.cells.injEq, and_true] at hh'
        rw [← ht, ← ht', hh']
  obtain ⟨gL, cL, vs', eL, oL, hgL, iL⟩ := hL
  obtain ⟨gR, cR, rs', eR, oR, hgR, iR⟩ := hR
  have e1 := uniq B2 v _ _ _ oL hv
  have e2 := uniq B4 r _ _ _ oR hr
  subst e1; subst e2
  have ho' := ho
  obtain ⟨hlo, ho2⟩ := ho
  rcases ho2 with ⟨e, -⟩ | ⟨g', cap, cur, e, hB, hh, hn, hcm, hcs, ht⟩
  · exact absurd e hnil
  have hvl : vs'.length = Ls.length := by have := oL.1; omega
  have hg'n : ∀ b, b < w.heap.size → (v.ownBlock ≠ some b) → b ≠ g' := by
    intro b hb hne e5
    rw [e] at hat
    rcases hat with h | h
    · exact hne (by rw [← h, e5]; rfl)
    · simp [Value.ownBlock] at h; omega
  have hkept : ∀ (u : Value) (x : List Int) (B gg : Nat), InL B gg w u x → (∀ b, u.ownBlock = some b → v.ownBlock ≠ some b) → B1 ≤ B → InL B1 g' w' u x := by
    rintro u x B gg ⟨⟨b, c, rfl, hb1, hb2⟩, ho⟩ hne hBB
    have hn1 := hne b rfl
    refine ⟨⟨b, c, rfl, hg'n b hb2 hn1, by have := hg.size; omega⟩, Out.mono (World.ownsRow.kept ho hg (.inr fun e5 => hn1 e5.symm)) hBB⟩
  refine ⟨g', cap, vs' ++ rs', by rw [e, List.length_append], by rw [List.length_append]; exact ho', (Array.getElem?_eq_some_iff.1 hh).1, fun i x hx => ?_⟩
  by_cases hi : i < Ls.length
  · rw [List.getElem?_append_left hi] at hx
    obtain ⟨u, hu, hl⟩ := iL i x hx
    refine ⟨u, by rw [List.getElem?_append_left (by omega)]; exact hu, hkept u x B1 gL hl (fun b hb => ?_) (Nat.le_refl _)⟩
    obtain ⟨⟨b', c', rfl, hb1, -⟩, -⟩ := hl
    simp [Value.ownBlock] at hb
    subst hb
    rw [eL]
    simp [Value.ownBlock]
    exact fun e5 => hb1 e5.symm
  · rw [List.getElem?_append_right (by omega)] at hx
    obtain ⟨u, hu, hl⟩ := iR _ x hx
    refine ⟨u, by rw [List.getElem?_append_right (by omega), hvl]; exact hu, hkept u x B3 gR hl (fun b hb hvb => ?_) h3⟩
    have h5 := hsep b hvb
    have h6 := (World.ownsRow.lt hl.2 b hb).1
    omega
end Go.Proofs.Ytlhnejjciondeaa
end

section
namespace Go.Proofs.Ytlhnejjciondeaa
open Go.RowKit

set_option maxRecDepth 4000 in
set_option maxHeartbeats 4000000 in
theorem l7All_step (n d : Nat) (hn : n ≤ 10)
    (ih : ∀ (bs : List Int) (p : Option Addr) (cap lo : Nat) (w : World), bs.length + d = n → Out lo w (.slice p bs.length cap) bs → lo ≤ w.heap.size →
      Calls Try.prog 29 #[.int .i64 (n : Nat), .slice p bs.length cap] w fun e w' => ∃ v, e = .returned v ∧ LL lo w.heap.size w' v (seatM n n d bs) ∧ Below w.heap.size w w')
    (bs : List Int) (p : Option Addr) (cap lo : Nat) (w : World) (hbs : bs.length + (d + 1) = n) (hO : Out lo w (.slice p bs.length cap) bs) (hlo : lo ≤ w.heap.size) :
    Calls Try.prog 29 #[.int .i64 (n : Nat), .slice p bs.length cap] w fun e w' => ∃ v, e = .returned v ∧ LL lo w.heap.size w' v (seatM n n (d + 1) bs) ∧ Below w.heap.size w w' := by
  obtain ⟨i0, hi0, hz0, hz1, hz2⟩ := info_parts infoSl7
  obtain ⟨p1, c1, e1, hc1, hc2, hrd, -⟩ := hO.rd
  simp only [Value.slice.injEq, true_and] at e1
  obtain ⟨rfl, rfl⟩ := e1
  have HAS := Lib.hid (fun (x : Int) (w' : World) (h' : Below w.heap.size w w') => l1Has_any p cap bs x w' lo w.heap.size (hrd.below h' hrd.top) (by omega))
  have OWN := Lib.hid (fun (w' : World) (h' : Below w.heap.size w w') => l1Own_any p cap bs w' lo w.heap.size (hrd.below h' hrd.top) (by omega))
  have IH := Lib.hid ih
  have hS : seatM n n (d + 1) bs = partM n n d bs (tk n (choS bs)) := by
    show (choM n n bs).flatMap _ = _
    rw [cho_few (by omega)]; rfl
  rw [hS]
  obtain ⟨m, hm⟩ : ∃ m, bs.length = m := ⟨_, rfl⟩
  rw [hm] at HAS OWN ⊢
  have hmn : ¬ (m : Int) = (n : Int) := by omega
  have hd1 : ((m : Int) == (n : Int)) = false := by simpa using hmn
  have hd2 : decide ((m : Int) = (n : Int)) = false := decide_eq_false hmn
  have HM := Lib.hid hm
  have hmn2 : m + 1 + d = n := by omega
  have HL0 : Hid (LL lo w.heap.size (w.alloc (.cells #[] 22)) (.slice (some ⟨w.heap.size, 0, none⟩) 0 0) (partM n n d bs (tk 0 (choS bs)))) := (LL.nil w lo)
  have HB0 : Hid (Below w.heap.size w (w.alloc (.cells #[] 22))) := (Below.refl _ _).alloc (Nat.le_refl _) _
  have hd9 : d ≤ 9 := by omega
  have h12 : 12 ^ (d + 1) ≤ 61917364224 := Nat.le_trans (Nat.pow_le_pow_right (by omega) (show d + 1 ≤ 10 by omega)) (by decide)
  have h12' : 12 ^ d ≤ 61917364224 := Nat.le_trans (Nat.pow_le_pow_right (by omega) (show d ≤ 10 by omega)) (by decide)
  have hlenB : ∀ r, r ≤ n → (partM n n d bs (tk r (choS bs))).length ≤ 61917364224 := fun r hr => Nat.le_trans (part_len (by omega) bs (Nat.le_trans (tk_length_le r _) (by omega))) h12
  have HLS := Lib.hid (fun (x : List Int) => Nat.le_trans (seat_len (n := n) (k := n) (by omega) d x) h12')
  have HLB := Lib.hid hlenB
  clear ih hS hO hrd hm hmn hlenB h12 h12'
  go_enter Try.func29, Try.ntmps29
  go_wp2_with fail
  go_loopw [5, 6] (fun v rv wr => ∃ (r : Nat), r ≤ n ∧ rv = .int .i64 (r : Int) ∧ Hid (LL lo w.heap.size wr v (partM n n d bs (tk r (choS bs)))) ∧ Hid (Below w.heap.size w wr)) (fun _ rv _ => n - (intOf rv).toNat)
  case atStart => exact ⟨0, Nat.zero_le _, rfl, HL0, HB0⟩
  case round =>
    obtain ⟨r, hr, rfl, HL, HB⟩ := hrel
    clear HL0 HB0
    by_cases hlt : r < n
    · have hr1 : (r : Int) < (n : Int) := by omega
      have H1 := HAS.out (r : Int) wr HB.out
      have hmore := part_more (n := n) (d := d) (bs := bs) (r := r)
      by_cases hmem : (r : Int) ∈ bs
      · rw [decide_eq_true hmem] at H1
        replace H1 := Lib.hid H1
        have hcs : choS bs r = false := by unfold choS; simp [hmem]
        rw [hcs, if_neg (by simp), List.append_nil] at hmore
        have HL2 : Hid (LL lo w.heap.size wr u5 (partM n n d bs (tk (r + 1) (choS bs)))) := by rw [hmore]; exact HL.out
        clear hmore HL hcs hmem
        go_wp2_with fail
        refine H1.out.mono ?_
        rintro e w1 ⟨rfl, rfl⟩
        go_wp2_with fail
        go_roundw
        case rel => exact ⟨r + 1, by omega, by go_num, HL2, HB⟩
        case measure => simp [intOf]; omega
      · rw [decide_eq_false hmem] at H1
        replace H1 := Lib.hid H1
        have hcs : choS bs r = true := by unfold choS; simp [hmem]
        rw [hcs, if_pos rfl] at hmore
        have O1 := OWN.out wr HB.out
        clear hcs hmem
        go_wp2_with fail
        refine H1.out.mono ?_
        rintro e w1 ⟨rfl, rfl⟩
        clear H1
        go_wp2_with fail
        refine O1.mono ?_
        rintro e w2 ⟨g, c, rfl, hg, hc1, hc2, hO, hb2⟩
        have HO := Lib.hid hO
        have HB2 := Lib.hid hb2
        have hlit := lit_one (OwnArr.made w2 3 [.int .i64 (r : Int)]) _ (Nat.lt_succ_self _) (by simp)
        have hsz2 := hb2.size
        have HMM := HM.out
        clear hO hb2 O1
        have hl1 : (bs ++ [(r : Int)]).length = m + 1 := by rw [List.length_append, HMM]; rfl
        have hl1d : (bs ++ [(r : Int)]).length + d = n := by omega
        have hLr := HLB.out r hr
        have hRr := HLS.out (bs ++ [(r : Int)])
        have hlw : lo ≤ wr.heap.size := Nat.le_trans hlo HB.out.size
        go_upto_region 6 with (at_builtin; refine wpList_app rfl _ _ rfl wr.heap.size (.slice (some ⟨g, 0, none⟩) m c) bs rfl (World.ownsRow.alloc HO.out (.cells #[.int .i64 (r : Int)] 3)) _ 1 1 0 (w2.heap.size + 1) [(r : Int)] rfl hlit rfl (by omega) (by simp; omega) ?_; intro v3 w3 hO3 hg3 hn3)
        have hb3 : Below wr.heap.size wr w3 := (HB2.out.alloc hsz2 (.cells #[.int .i64 (r : Int)] 3)).grown hg3 (by simp; omega) (own_block HO.out)
        obtain ⟨p3, c3, e3, -, -, -, -⟩ := hO3.rd
        rw [e3] at hO3
        have C := IH.out (bs ++ [(r : Int)]) p3 c3 wr.heap.size w3 hl1d hO3 hb3.size
        rw [hl1] at C e3
        rw [e3]
        refine C.mono ?_
        rintro e w4 ⟨v4, rfl, hLL4, hb4⟩
        have hb34 : Below wr.heap.size wr w4 := hb3.trans (hb4.mono hb3.size)
        have hL4 := HL.out.below hb34
        obtain ⟨gL0, cL0, vsL0, eL0, -, -, -, -, hgL0⟩ := HL.out.parts
        obtain ⟨gL, cL, vsL, eL, oL, lL, -, -, hgL⟩ := hL4.parts
        obtain ⟨gR, cR, vsR, eR, oR, lR, newsR, oneR, hgR⟩ := hLL4.parts
        have hsep : ∀ g, u5.ownBlock = some g → g < wr.heap.size := by
          intro g hg
          rw [eL0] at hg
          simp [Value.ownBlock] at hg
          omega
        have hun : ¬ u5 = .slice none 0 0 := by rw [eL0]; intro e; cases e
        obtain ⟨nR, hnR⟩ : ∃ nR, (seatM n n d (bs ++ [(r : Int)])).length = nR := ⟨_, rfl⟩
        have hbs4 := hb34.size
        have hbsw := HB.out.size
        have HJ := Lib.hid (fun (v5 : Value) (w5 : World) hg5 ho5 hn5 hat5 => LL.join (v' := v5) (w' := w5) hL4 hLL4 hlw hsep hg5 oL oR ho5 hn5 hat5)
        rw [← hmore, hnR] at HJ
        rw [hnR] at eR lR hRr
        have HEL := Lib.hid eL0
        have HB4 := Lib.hid (HB.out.trans (hb34.mono HB.out.size))
        clear hL4 hLL4 eL oR hb3 hb4 hb34 hO3 hg3 hn3 C e3 HO HB2 hlit hmore hsep eL0 hnR
        subst eR
        go_wp2_with (at_builtin; refine wpList_append_own_at _ rfl _ _ 34 rfl w.heap.size 22 i0 (.slice none 0 0) 1 24 Try.underlying34 hi0 hz0 hz1 hz2 rfl (by decide) _ _ _ rfl oL ⟨gR, 0, none⟩ nR cR vsR rfl (by omega) newsR oneR (by unfold maxLen; omega) (by omega) (by omega) ?_; intro v5 w5 ho5 hg5 hnil5 hat5)
        have HL5 := Lib.hid (HJ.out v5 w5 hg5 ho5 (fun e => hun (hnil5.1 e).1) hat5)
        have HB5 := Lib.hid (HB4.out.grown hg5 (by omega) (own_block oL))
        clear HJ ho5 hg5 hnil5 hat5 oL
        go_wp2_with fail
        go_roundw
        case rel => exact ⟨r + 1, by omega, by go_num, HL5, HB5⟩
        case measure => simp [intOf]; omega
    · have hrn : r = n := by omega
      subst hrn
      have hr1 : ¬ (r : Int) < (r : Int) := by omega
      go_wp2_with fail
      go_ret
      exact ⟨_, rfl, HL.out, HB.out⟩

set_option maxRecDepth 4000 in
set_option maxHeartbeats 1000000 in
theorem l7All_leaf (n : Nat) (h1 : 1 ≤ n) (hn : n ≤ 10) (bs : List Int) (p : Option Addr) (cap lo : Nat) (w : World) (hbs : bs.length = n) (hO : Out lo w (.slice p bs.length cap) bs) (hlo : lo ≤ w.heap.size) :
    Calls Try.prog 29 #[.int .i64 (n : Nat), .slice p bs.length cap] w fun e w' => ∃ v, e = .returned v ∧ LL lo w.heap.size w' v [bs] ∧ Below w.heap.size w w' := by
  have hL : Hid (LL lo w.heap.size (w.alloc (.cells #[.slice p bs.length cap] 22)) (.slice (some ⟨w.heap.size, 0, none⟩) 1 1) [bs]) := by
    refine LL.one ?_ hO
    obtain ⟨g, c, e, -, hg, -⟩ := hO.some' (by intro e; simp only [Value.slice.injEq] at e; omega)
    exact ⟨g, c, e, hg⟩
  have hB := Lib.hid ((Below.refl w.heap.size w).alloc (Nat.le_refl _) (.cells #[.slice p bs.length cap] 22))
  rw [hbs] at hL hB ⊢
  clear hO hbs
  go_enter Try.func29, Try.ntmps29
  go_wp2_with fail
  go_ret
  exact ⟨_, rfl, hL.out, hB.out⟩
theorem l7All_any (n : Nat) (h1 : 1 ≤ n) (hn : n ≤ 10) : ∀ (d : Nat) (bs : List Int) (p : Option Addr) (cap lo : Nat) (w : World), bs.length + d = n → Out lo w (.slice p bs.length cap) bs → lo ≤ w.heap.size →
      Calls Try.prog 29 #[.int .i64 (n : Nat), .slice p bs.length cap] w fun e w' => ∃ v, e = .returned v ∧ LL lo w.heap.size w' v (seatM n n d bs) ∧ Below w.heap.size w w'
  | 0, bs, p, cap, lo, w, hbs, hO, hlo => l7All_leaf n h1 hn bs p cap lo w (by omega) hO hlo
  | d + 1, bs, p, cap, lo, w, hbs, hO, hlo => l7All_step n d hn (l7All_any n h1 hn d) bs p cap lo w hbs hO hlo
end Go.Proofs.Ytlhnejjciondeaa
end
