/- Chapter 9, impl side: impl.spacing's earliest. -/
import Derived.Test.YtoedcklgpmhnnaaSpcI9
import Derived.StillTailTactics
import Derived.Deep.DeepCutAuto
namespace Go.Proofs.Ytoedcklgpmhnnaa
open Go.RowKit

def lenO9 : Value → Nat
  | .slice _ l _ => l
  | _ => 0
theorem gap_self (n : Nat) (ring : Bool) (x : Nat) : gapM n ring x x = 0 := by
  unfold gapM
  cases ring <;> simp
theorem rest_head {n : Nat} {ring : Bool} {D x : Nat} {xs : List Nat} (hD : 1 ≤ D) : restM n ring D x (x :: xs) = restM n ring D x xs := by
  unfold restM
  rw [List.filter_cons_of_neg]
  rw [gap_self, decide_eq_true_eq]
  omega
/-- what is left, apart from what a slice v owns -/
def LeftV (w : World) (v : Value) (U : Option Addr) (L : List Nat) : Prop := 0 < L.length → ∃ b off, U = some ⟨b, off, none⟩ ∧ b < w.heap.size ∧ ¬ v.ownBlock = some b ∧ ∀ i, i < L.length → w.cell? ⟨b, off + i, none⟩ = some (.int .i64 ((L[i]?.getD 0 : Nat) : Int))
theorem LeftV.ri {w : World} {v : Value} {U : Option Addr} {L : List Nat} (h : LeftV w v U L) : ∃ lo hi, Ri lo hi w U (ints L) := by
  by_cases h0 : 0 < L.length
  · obtain ⟨b, off, e, h1, -, hc⟩ := h h0
    refine ⟨b, b + 1, ⟨h1, fun _ => ⟨b, off, e, Nat.le_refl _, Nat.lt_succ_self _, fun i hi => ?_⟩⟩⟩
    rw [iv_length, ints_length] at hi
    rw [hc i hi]
    unfold iv ints
    simp [hi]
  · have e : L = [] := List.length_eq_zero_iff.1 (by omega)
    subst e
    exact ⟨0, 0, Rd.nil _ _ _ _ (Nat.zero_le _)⟩
theorem LeftV.of_ri {w : World} {v : Value} {U : Option Addr} {L : List Nat} {lo hi : Nat} (h : Ri lo hi w U (ints L)) (hne : ∀ b, lo ≤ b → b < hi → ¬ v.ownBlock = some b) : LeftV w v U L := by
  intro h0
  obtain ⟨b, off, e, h1, h2, hh, hc⟩ := h.int (by rw [ints_length]; exact h0)
  have ht := h.top
  refine ⟨b, off, e, by omega, hne b h1 h2, fun i hi => ?_⟩
  rw [hc i (by rw [ints_length]; exact hi), ints_get hi]
/-- behind an append to v -/
theorem LeftV.grown {w w' : World} {v : Value} {U : Option Addr} {L : List Nat} (h : LeftV w v U L) (hg : w.grownBy w' v.ownBlock) : ∃ lo hi, Ri lo hi w' U (ints L) := by
  have hr : LeftV w' (.slice none 0 0) U L := by
    intro h0
    obtain ⟨b, off, e, h1, h2, hc⟩ := h h0
    refine ⟨b, off, e, Nat.lt_of_lt_of_le h1 hg.size, by simp [Value.ownBlock], fun i hi => ?_⟩
    rw [← hc i hi]
    exact World.cell?_of_block (a := ⟨b, off + i, none⟩) (hg.block b h1 (fun e5 => h2 e5.symm))
  exact hr.ri
theorem LeftV.head {w : World} {v : Value} {U : Option Addr} {x : Nat} {xs : List Nat} (h : LeftV w v U (x :: xs)) : ∃ b off, U = some ⟨b, off, none⟩ ∧ w.cell? ⟨b, off, none⟩ = some (.int .i64 (x : Int)) := by
  obtain ⟨b, off, e, -, -, hc⟩ := h (by simp)
  have := hc 0 (by simp)
  exact ⟨b, off, e, by simpa using this⟩

set_option maxRecDepth 4000 in
set_option maxHeartbeats 2000000 in
theorem earliest_any (n : Nat) (ring : Bool) (p : Option Addr) (m cap D : Nat) (q : Option Addr) (k c f : Nat) (l : List Nat) (w : World) (lo hi : Nat) (hin : Ri lo hi w q (ints l)) (hl : ∀ x ∈ l, x < n) (hll : l.length = k) (hk24 : k ≤ 24) (hkc : k ≤ c) (hcm : c ≤ maxLen) (hf : f ≤ k) (hn : n ≤ 24) (hD : 1 ≤ D) (hq : (q = none ∧ c = 0) ∨ ∃ b off, q = some ⟨b, off, none⟩) :
    Calls Try.prog 43 #[spcV n ring p m cap D q k c, .int .i64 (f : Int)] w fun e w' => ∃ v, e = .returned v ∧ Out w.heap.size w' v (ints (grg n ring D (l.drop f))) ∧ Below w.heap.size w w' := by
  have hX : OwnArr ((w.alloc (.cells #[.int .i64 n, .bool ring, .slice p m cap, .int .i64 D, .slice q k c] 49)).alloc (.cells #[] 3)) w.heap.size 49 [.int .i64 n, .bool ring, .slice p m cap, .int .i64 D, .slice q k c] := (OwnArr.made w _ [_, _, _, _, _]).alloc _
  have hO : Out (w.heap.size + 1) ((w.alloc (.cells #[.int .i64 n, .bool ring, .slice p m cap, .int .i64 D, .slice q k c] 49)).alloc (.cells #[] 3)) (.slice (some ⟨w.heap.size + 1, 0, none⟩) 0 0) (ints []) := by
    have h := Out.nilLit (w.alloc (.cells #[.int .i64 n, .bool ring, .slice p m cap, .int .i64 D, .slice q k c] 49))
    have hs : (w.alloc (.cells #[Value.int .i64 n, .bool ring, .slice p m cap, .int .i64 D, .slice q k c] 49)).heap.size = w.heap.size + 1 := by simp
    rw [hs] at h
    exact h
  have hB : Below w.heap.size w ((w.alloc (.cells #[.int .i64 n, .bool ring, .slice p m cap, .int .i64 D, .slice q k c] 49)).alloc (.cells #[] 3)) := ((Below.refl _ _).alloc (Nat.le_refl _) _).alloc (by simp) _
  have HX0 := Lib.hid hX
  have HO0 := Lib.hid hO
  have HB0 := Lib.hid hB
  have hLF : ∀ U, Ri lo hi w U (ints (l.drop f)) → LeftV ((w.alloc (.cells #[.int .i64 n, .bool ring, .slice p m cap, .int .i64 D, .slice q k c] 49)).alloc (.cells #[] 3)) (.slice (some ⟨w.heap.size + 1, 0, none⟩) 0 0) U (l.drop f) := by
    intro U h
    refine LeftV.of_ri (h.bel hB) (fun b h1 h2 => ?_)
    have := h.top
    simp [Value.ownBlock]
    omega
  have HLF := Lib.hid hLF
  have HBH : Hid (∀ b off, q = some ⟨b, off, none⟩ → Ri lo hi w (if c = f then some ⟨b, off, none⟩ else some ⟨b, off + f, none⟩) (ints (l.drop f))) := by
    show ∀ _, _
    intro b off e
    subst e
    have := hin.behind (k := f) (cap := c) (by rw [ints_length, hll]; exact hkc)
    rw [show (ints l).drop f = ints (l.drop f) from by unfold ints; rw [← List.map_drop]] at this
    exact this
  have HNI : Hid (q = none → Ri lo hi w none (ints (l.drop f))) := by
    show _ → _
    intro e
    subst e
    have hk0 : l = [] := by
      rcases Nat.eq_zero_or_pos l.length with h | h
      · exact List.length_eq_zero_iff.1 h
      · obtain ⟨b, off, e, -⟩ := hin.int (by rw [ints_length]; exact h)
        cases e
    subst hk0
    rw [List.drop_nil]
    exact Rd.nil _ _ _ _ hin.top
  obtain ⟨kf, hkf⟩ : ∃ x, k - f = x := ⟨_, rfl⟩
  have HKK := Lib.hid hkf
  have HKF : Hid ((l.drop f).length = kf) := by show _ = _; rw [List.length_drop, hll]; exact hkf
  have HLT : Hid (∀ x ∈ l.drop f, x < n) := fun x hx => hl x (List.mem_of_mem_drop hx)
  have HQ := Lib.hid hq
  have hfk : (f : Int) ≤ (k : Int) := by omega
  have hfk0 : (0 : Int) ≤ (f : Int) := by omega
  have hfc : (f : Int) ≤ (c : Int) := by omega
  have hkci : (k : Int) ≤ (c : Int) := by omega
  have hsub : ((k : Int) - (f : Int)).toNat = kf := by omega
  have hkf24 : kf ≤ 24 := by omega
  obtain ⟨G, hG⟩ : ∃ G, grg n ring D (l.drop f) = G := ⟨_, rfl⟩
  have HG := Lib.hid hG
  rw [hG]
  obtain ⟨l0, hl0⟩ : ∃ l0, l.drop f = l0 := ⟨_, rfl⟩
  rw [hl0] at HLF HBH HNI HKF HLT HG
  clear hX hO hB hin hl hll hq hLF hkf hG hl0
  obtain ⟨c0, c1, c2, c3, c4⟩ := HX0.out.five
  go_enter Try.func43, Try.ntmps43
  go_upto_region 2 with fail
  go_cut [6] (fun v wx => ∃ U c', v = .slice U kf c' ∧ Hid (Ri lo hi w U (ints l0)) ∧ ((w.alloc (.cells #[.int .i64 n, .bool ring, .slice p m cap, .int .i64 D, .slice q k c] 49)).alloc (.cells #[] 3)) = wx)
  case first =>
    rcases HQ.out with ⟨h1, h2⟩ | ⟨b, off, h1⟩
    · have hf0 : f = 0 := by omega
      have hk0 : k = 0 := by omega
      have HR := Lib.hid (HNI.out h1)
      have hkf0 : kf = 0 := by omega
      clear HNI HBH HQ HLF HKF HLT HG hfk hfk0 hfc hkci hsub
      subst h1 h2 hf0 hk0 hkf0
      go_wp2_with fail
      go_meet
      exact ⟨_, _, rfl, HR, rfl⟩
    · have HR := HBH.out b off h1
      by_cases hcf : c = f
      · rw [if_pos hcf] at HR
        replace HR := Lib.hid HR
        have hkfn := HKK.out
        clear HNI HBH HQ HLF HKF HLT HG HKK
        subst h1
        subst hcf
        go_wp2_with fail
        go_meet
        exact ⟨_, _, rfl, HR, rfl⟩
      · rw [if_neg hcf] at HR
        replace HR := Lib.hid HR
        have hkfn := HKK.out
        clear HNI HBH HQ HLF HKF HLT HG HKK
        subst h1
        go_wp2_with fail
        go_meet
        exact ⟨_, _, rfl, HR, rfl⟩
  case rest =>
    obtain ⟨U0, c0', rfl, HU0, rfl⟩ := hcut
    have HL0 := Lib.hid (HLF.out U0 HU0.out)
    clear HNI HBH HQ HLF HU0 c0 c1 c2 c3 c4 hfk hfk0 hfc hkci hsub
    go_wp2_with fail
    go_loopw [5, 6] (fun v u wr => ∃ (dn L : List Nat) (U : Option Addr) (kk c' : Nat), u = .slice U kk c' ∧ kk ≤ 24 ∧ Hid (L.length = kk) ∧ Hid (dn ++ grg n ring D L = G) ∧ Hid (∀ x ∈ L, x < n) ∧ Hid (OwnArr wr w.heap.size 49 [.int .i64 n, .bool ring, .slice p m cap, .int .i64 D, .slice q k c]) ∧ Hid (Out (w.heap.size + 1) wr v (ints dn)) ∧ Hid (LeftV wr v U L) ∧ Hid (dn.length + kk ≤ 24) ∧ Hid (Below w.heap.size w wr)) (fun _ u _ => lenO9 u)
    case atStart => exact ⟨[], l0, U0, kf, c0', rfl, hkf24, HKF, HG, HLT, HX0, HO0, HL0, Lib.hid (by simpa using hkf24), HB0⟩
    case round =>
      obtain ⟨dn, L, U, kk, c', rfl, hkk, HK, HGG, HLL, HX, HO, HLV, HDL, HB⟩ := hrel
      clear HL0 HKF HG HLT HX0 HO0 HB0
      obtain ⟨c0, c1, c2, c3, c4⟩ := HX.out.five
      cases L with
      | nil =>
        have hk0 : kk = 0 := HK.out.symm
        have hg := HGG.out
        rw [grg_nil, List.append_nil] at hg
        subst hg
        have HO2 := Lib.hid (HO.out.mono (Nat.le_succ w.heap.size))
        clear HGG HK HO HLV HDL hkk
        subst hk0
        go_wp2_with fail
        go_ret
        exact ⟨_, rfl, HO2.out, HB.out⟩
      | cons x xs =>
        have hkp : (0 : Int) < (kk : Int) := by have := HK.out; simp only [List.length_cons] at this; omega
        have hkn : 0 < kk := by omega
        obtain ⟨b, off, rfl, hcx⟩ := HLV.out.head
        have hxn := HLL.out x (by simp)
        have hwsz := HX.out.lt
        have HGX := HGG.out
        rw [grg_cons] at HGX
        replace HGX := Lib.hid HGX
        have hdl := HDL.out
        have hil := ints_length dn
        have HG9 := Lib.hid (fun (w' : World) (hg : wr.grownBy w' u5.ownBlock) => HLV.out.grown hg)
        obtain ⟨w1, hw1⟩ : ∃ w1, w1 = wr.alloc (.cells #[.int .i64 (x : Int)] 3) := ⟨_, rfl⟩
        have hls := HLV.out
        have hla : LeftV w1 u5 (some ⟨b, off, none⟩) (x :: xs) := by
          intro h0
          obtain ⟨b', off', e, h1, h2, hc⟩ := hls h0
          have hba : Below wr.heap.size wr w1 := by rw [hw1]; exact (Below.refl _ wr).alloc (Nat.le_refl _) _
          exact ⟨b', off', e, Nat.lt_of_lt_of_le h1 hba.size, h2, fun i hi => by rw [hba.cell (p := ⟨b', off' + i, none⟩) h1]; exact hc i hi⟩
        have HG8 : Hid (∀ (w' : World), w1.grownBy w' u5.ownBlock → ∃ lo hi, Ri lo hi w' (some ⟨b, off, none⟩) (ints (x :: xs))) := fun w' hg => hla.grown hg
        have hblk := Lib.hid (own_block HO.out)
        have hba : Below wr.heap.size wr w1 := by rw [hw1]; exact (Below.refl _ wr).alloc (Nat.le_refl _) _
        have HXa := Lib.hid (HX.out.below hba HX.out.lt)
        have HBa := Lib.hid (HB.out.trans (hba.mono HB.out.size))
        have hoa : Out (w.heap.size + 1) w1 u5 (ints dn) := by rw [hw1]; exact World.ownsRow.alloc HO.out _
        have hsa : w.heap.size + 1 ≤ w1.heap.size := by have := hba.size; omega
        have hlit : OwnArr w1 wr.heap.size 3 [.int .i64 (x : Int)] := by rw [hw1]; exact OwnArr.made wr _ [_]
        have hls1 : wr.heap.size < w1.heap.size := hlit.lt
        have HOA := Lib.hid hoa
        have HSN : Hid (ints (dn ++ [x]) = ints dn ++ [(x : Int)]) := by
          show ints (dn ++ [x]) = _
          unfold ints; rw [List.map_append]; rfl
        have HLI := Lib.hid hlit
        have hl6 : (ints dn).length + 1 ≤ 100000 := by omega
        clear hls hla hba hoa hlit HG9 HLV HO HX HB hil hdl
        go_wp2_with (at_builtin; rw [← hw1]; refine wpList_app rfl _ _ rfl (w.heap.size + 1) u5 (ints dn) rfl HOA.out _ 1 1 0 w1.heap.size [(x : Int)] rfl (lit_one HLI.out _ hls1 (Nat.le_refl _)) rfl hl6 hsa ?_; intro v3 w3 hO3 hg3 hn3)
        have hG3 : Below (w.heap.size + 1) w1 w3 := (Below.refl (w.heap.size + 1) w1).grown hg3 hsa hblk.out
        have HX3 := Lib.hid (HXa.out.below hG3 (Nat.lt_succ_self _))
        have HB3 := Lib.hid (HBa.out.trans (hG3.mono (Nat.le_succ _)))
        obtain ⟨lo3, hi3, hR3⟩ := HG8.out w3 hg3
        have hs3 : w.heap.size + 1 ≤ w3.heap.size := Nat.le_trans hsa hG3.size
        rw [← HSN.out] at hO3
        obtain ⟨b', off', e', -, -, -, hcc⟩ := hR3.int (by rw [ints_length]; simp)
        simp only [Option.some.injEq, Addr.mk.injEq, and_true] at e'
        obtain ⟨rfl, rfl⟩ := e'
        have hc0 := hcc 0 (by rw [ints_length]; simp)
        rw [Nat.add_zero, ints_get (by simp)] at hc0
        have hc1 : w3.cell? ⟨b, off, none⟩ = some (.int .i64 (x : Int)) := hc0
        have AF := apartFrom_any n ring p m cap D q k c x (some ⟨b, off, none⟩) c' (x :: xs) w3.drew lo3 hi3 (hR3.bel ((Below.refl _ w3).drew)) HLL.out (by rw [HK.out]; exact hkk) hn hxn
        rw [rest_head hD, HK.out] at AF
        replace AF := Lib.hid AF
        have hrl : (restM n ring D x xs).length ≤ xs.length := List.length_filter_le _ _
        have hkl := HK.out
        simp only [List.length_cons] at hkl
        have HLL2 : Hid (∀ y ∈ restM n ring D x xs, y < n) := fun y hy => HLL.out y (by have := (List.mem_filter.1 hy).1; simp [this])
        have HGX2 : Hid ((dn ++ [x]) ++ grg n ring D (restM n ring D x xs) = G) := by
          show _ = _
          rw [List.append_assoc]
          exact HGX.out
        obtain ⟨L2, hL2⟩ : ∃ L2, restM n ring D x xs = L2 := ⟨_, rfl⟩
        rw [hL2] at AF hrl HLL2 HGX2
        have HO3 := Lib.hid hO3
        have hdl2 : (dn ++ [x]).length = dn.length + 1 := by simp
        have HDL2 : Hid ((dn ++ [x]).length + L2.length ≤ 24) := by show _ ≤ _; have := HDL.out; omega
        have HRL : Hid (L2.length < kk) := by show _ < _; omega
        have hL24 : L2.length ≤ 24 := by omega
        obtain ⟨d0, d1, d2, d3, d4⟩ := HX3.out.five
        clear hG3 hR3 hcc hc0 hO3 hg3 hn3 HOA HLI HG8 hblk HXa HBa HGX HGG HSN hrl hkl hdl2 HDL HLL HK c0 c1 c2 c3 c4 hcx hw1 hL2
        go_still_tail 5, (by kernel_rfl)
        change wpList _ _ _ _ _ w3.drew
        go_wp2_with fail
        refine AF.out.mono ?_
        rintro e w5 ⟨v5, rfl, hO5, hb5⟩
        have hb6 : Below w3.heap.size w3 w5 := ((Below.refl _ w3).drew).trans hb5
        have HX5 := Lib.hid (HX3.out.below hb6 HX3.out.lt)
        have HB5 := Lib.hid (HB3.out.trans (hb6.mono (Nat.le_of_succ_le hs3)))
        have HO6 := Lib.hid (HO3.out.below hb6)
        obtain ⟨q5, c5, rfl, -, -, hR5, -⟩ := hO5.rd
        have HLV5 : Hid (LeftV w5 v3 q5 L2) := by
          show LeftV _ _ _ _
          refine LeftV.of_ri hR5 (fun b5 h1 h2 e5 => ?_)
          have h3 := (World.ownsRow.lt HO3.out b5 e5).2
          have h4 : w3.drew.heap.size = w3.heap.size := rfl
          omega
        have hil5 := ints_length L2
        rw [hil5]
        obtain ⟨k5, hk5⟩ : ∃ k5, L2.length = k5 := ⟨_, rfl⟩
        rw [hk5] at HDL2 HRL hL24 ⊢
        have HK5 := Lib.hid hk5
        clear hb5 hb6 hO5 hR5 AF d0 d1 d2 d3 d4 HX3 HB3 HO3 hc1 hil5 hk5
        go_wp2_with fail
        go_roundw
        case rel => exact ⟨dn ++ [x], L2, q5, k5, c5, rfl, hL24, HK5, HGX2, HLL2, HX5, HO6, HLV5, HDL2, HB5⟩
        case measure => exact HRL.out
end Go.Proofs.Ytoedcklgpmhnnaa
