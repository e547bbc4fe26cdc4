/- slices.Insert of one number into a row of the call's own that has room: in place. The library's own text is walked; slices.overlaps is the model's own entry. -/
import Derived.Test.YtfabannlebolfaaApp
import Derived.Lib.AppendZerosOnto
import Derived.Lib.JoinLaws
import Derived.Lib.Overlaps
import Derived.Laws.CopyOwn
import Derived.IntWalk
namespace Go.Proofs.Ytfabannlebolfaa
open Go.RowKit

theorem ov_apart (g g2 off : Nat) (lc cb : Nat) (x y : List Value) (w : World) (h : OwnArr w g 3 x) (h2 : OwnArr w g2 3 y) (hne : g2 ≠ g) (h0 : x.length ≠ 0) (la ca : Nat) :
    (callFunc 73 #[.slice (some ⟨g2, 0, none⟩) la ca, .slice (some ⟨g, off, none⟩) lc cb]).run Try.prog w = .ok (.value (.bool false)) w := by
  have hz : ∀ w, (Go.sizeOf 3).run Try.prog w = .ok 1 w := fun w => by
    obtain ⟨i0, hi, hz0, hz1, hz2⟩ := info_parts infoInt
    simp [sizeOf, typeInfo, hi, hz1]
  unfold OwnArr at h h2
  rw [run_callFunc_extern Try.func73 (by kernel_rfl) (by kernel_rfl) (by kernel_rfl) (e := Extern.SlicesOverlaps.overlaps #[22, 22] #[4]) (by kernel_rfl),
    Lib.run_overlaps_apart w 22 4 3 Try.underlying22 1 hz ⟨g2, 0, none⟩ ⟨g, off, none⟩ la ca lc cb hne 3 3 y.length x.length (by simp [World.shape?, h2]) (by simp [World.shape?, h]) h0 (by simp [World.frozen?, h2]) (by simp [World.frozen?, h2])]
  rfl

theorem iv_drop (xs : List Int) (k : Nat) : (iv xs).drop k = iv (xs.drop k) := by simp [iv, List.map_drop]

set_option maxRecDepth 4000 in
set_option maxHeartbeats 4000000 in
theorem insP_end (g n c vb : Nat) (cur : List Value) (xs : List Int) (x : Int) (w : World) (ho : OwnArr w g 3 cur) (hv : OwnArr w vb 3 [.int .i64 x]) (hxl : xs.length = n) (hcl : cur.length = c) (ht : cur.take n = iv xs) (hroom : n + 1 ≤ c) (hc : c ≤ 1000) :
    Calls Try.prog 66 #[.slice (some ⟨g, 0, none⟩) n c, .int .i64 n, .slice (some ⟨vb, 0, none⟩) 1 1] w fun e w' => e = .returned (.slice (some ⟨g, 0, none⟩) (n + 1) c) ∧ ∃ cur', OwnArr w' g 3 cur' ∧ cur'.length = c ∧ cur'.take (n + 1) = iv (xs ++ [x]) ∧ Keep g (g + 1) w w' := by
  have hsrc : Src Try.prog 1 22 (.slice (some ⟨vb, 0, none⟩) 1 1) 1 [.int .i64 x] w := Src.ofSlice w Try.underlying22 ⟨vb, 0, none⟩ 1 1 [.int .i64 x] (by simp) (fun j u hj => by rw [Addr.add_lit, Nat.zero_add, hv.cell]; exact hj) (by intro v hv; simp at hv; subst hv; rfl)
  have HSRC := Lib.hid hsrc
  have HSP : Hid (∀ j, j < 1 → (w.cell? ⟨g, 0 + n + j, none⟩).isSome = true) := by
    show ∀ _, _
    intro j hj
    rw [ho.cell, List.getElem?_eq_getElem (by omega)]; rfl
  have HFZ : Hid (∀ j, j < 1 → w.frozen? ⟨g, 0 + n + j, none⟩ = false) := by
    show ∀ _, _
    intro j hj
    exact ho.free _
  have HR : Hid (∃ cur', OwnArr (w.setCells g n [.int .i64 x]) g 3 cur' ∧ cur'.length = c ∧ cur'.take (n + 1) = iv (xs ++ [x]) ∧ Keep g (g + 1) w (w.setCells g n [.int .i64 x])) := by
    show ∃ cur', OwnArr (w.setCell ⟨g, n, none⟩ (.int .i64 x)) g 3 cur' ∧ cur'.length = c ∧ cur'.take (n + 1) = iv (xs ++ [x]) ∧ Keep g (g + 1) w (w.setCell ⟨g, n, none⟩ (.int .i64 x))
    refine ⟨cur.set n (.int .i64 x), ho.set n _, by rw [List.length_set]; exact hcl, ?_, ?_⟩
    · rw [iv_append, ← ht]
      apply List.ext_getElem?
      intro i
      rw [List.getElem?_take]
      have hlt : (cur.take n).length = n := by rw [List.length_take]; omega
      by_cases hi : i < n + 1
      · rw [if_pos hi]
        by_cases hin : i < n
        · rw [List.getElem?_set_ne (by omega), List.getElem?_append_left (by omega), List.getElem?_take, if_pos hin]
        · have : i = n := by omega
          subst this
          rw [List.getElem?_set_self (by omega), List.getElem?_append_right (by omega), hlt, Nat.sub_self]
          rfl
      · rw [if_neg hi, List.getElem?_eq_none]
        rw [List.length_append, hlt]
        show n + 1 ≤ i
        omega
    · exact (Keep.refl g (g + 1) w).setCell ⟨Nat.le_refl _, Nat.lt_succ_self _⟩ _ _
  have hz1 : ¬ ((1 : Int) = 0) := by omega
  have hn0 : (0 : Int) ≤ (n : Int) := by omega
  have hc63 : (c : Int) ≤ 1000 := by omega
  clear hsrc ho hv hxl hcl ht
  go_enter Try.func66, Try.ntmps66
  obtain ⟨i0, hi, hz0, hz1', hz2⟩ := info_parts infoInt
  go_wp2_with (at_builtin; refine wpList_append_room1 _ rfl _ _ 22 22 rfl 3 _ _ Try.underlying22 infoInt g 0 n c rfl _ rfl 1 [.int .i64 x] HSRC.out hroom HSP.out HFZ.out ?_)
  go_ret
  exact ⟨rfl, HR.out⟩

theorem keep_setRow {lo hi g : Nat} {w0 w : World} (h : Keep lo hi w0 w) (hg : lo ≤ g ∧ g < hi) (cs : Array Value) : Keep lo hi w0 (w.setRow g cs) :=
  h.trans ⟨rfl, rfl, rfl, by simp [World.setRow], fun k _ hk => setRow_other w g k cs (by omega)⟩
theorem copy_keep {P : Program} {o : Oper} {a : Act} {w : World} {K : Act → World → Prop} {Q : Exit → Act → World → Prop} (d s : Operand) (dT sT : TypeId)
    (ho : o.op = .call { callee := .builtin .copy, args := #[d, s], argTypes := #[dT, sT] }) (elem : TypeId) (hu : P.underlying dT = some (.slice elem)) (hsz : (P.info? elem).map (·.size) = some 1)
    (ad : Addr) (dLen dCap sLen sCap : Nat) (g off : Nat) (hd : a.eval d = .slice (some ⟨g, off, none⟩) dLen dCap) (hs : a.eval s = .slice (some ad) sLen sCap)
    (cur : List Value) (t : TypeId) (hg : w.heap[g]? = some (.cells cur.toArray t (0, 0))) (cs : List Value) (hn : cs.length = Nat.min sLen dLen)
    (hsrc : ∀ j v, cs[j]? = some v → w.cell? (ad.add j) = some v) (hfit : off + cs.length ≤ cur.length) (h1 : ∀ v ∈ cs, v.oneCell' = true) (lo hi : Nat) (w0 : World) (hb : Keep lo hi w0 w) (hBg : lo ≤ g ∧ g < hi)
    (h : ∀ w', Hid (w'.heap[g]? = some (.cells (splice cur off cs).toArray t (0, 0))) → Keep lo hi w0 w' → K (a.put o.dst (goInt cs.length)) w') :
    Oper.wp P o a w K Q := by
  have hrun := run_copy_row (P := P) w dT sT o.type elem g off dLen dCap ad sLen sCap cur.toArray t cs hu hsz hg hn hsrc (by simpa using hfit) h1
  unfold Oper.wp
  simp [execOp, ho, resolve, invoke, builtin, hd, hs, hrun, Result.andThen]
  exact h _ (show _ = _ by simpa [splice] using setRow_heap w g _ _ t _ hg) (keep_setRow hb hBg _)
theorem step_copyK {P : Program} {ops : Array Oper} {o : Oper} {a : Act} {w : World} {K : Act → World → Prop} {Q : Exit → Act → World → Prop} {E : Prop} (hgd : o.guard = none) (d s : Operand) (dT sT : TypeId)
    (ho : o.op = .call { callee := .builtin .copy, args := #[d, s], argTypes := #[dT, sT] }) (elem : TypeId) (hu : P.underlying dT = some (.slice elem)) (hsz : (P.info? elem).map (·.size) = some 1)
    (ad : Addr) (dLen dCap sLen sCap : Nat) (g off : Nat) (hd : a.eval d = .slice (some ⟨g, off, none⟩) dLen dCap) (hs : a.eval s = .slice (some ad) sLen sCap)
    (cur : List Value) (t : TypeId) (hg : w.heap[g]? = some (.cells cur.toArray t (0, 0))) (cs : List Value) (hn : cs.length = Nat.min sLen dLen)
    (hsrc : ∀ j v, cs[j]? = some v → w.cell? (ad.add j) = some v) (hfit : off + cs.length ≤ cur.length) (h1 : ∀ v ∈ cs, v.oneCell' = true) (lo hi : Nat) (w0 : World) (hb : Keep lo hi w0 w) (hBg : lo ≤ g ∧ g < hi)
    (h : ∀ w', Hid (w'.heap[g]? = some (.cells (splice cur off cs).toArray t (0, 0))) → Keep lo hi w0 w' → K (a.put o.dst (goInt cs.length)) w') :
    if Region.wanted o (yielded ops a.tmps) = true then Oper.wp P o a w K Q else E := by
  have hw : Region.wanted o (yielded ops a.tmps) = true := by simp [Region.wanted, hgd]
  rw [if_pos hw]
  exact copy_keep d s dT sT ho elem hu hsz ad dLen dCap sLen sCap g off hd hs cur t hg cs hn hsrc hfit h1 lo hi w0 hb hBg h
theorem wpList_copyK {P : Program} {ops : Array Oper} {rest : List Oper} {o : Oper} {a : Act} {w : World} {Q : Exit → Act → World → Prop} (hgd : o.guard = none) (d s : Operand) (dT sT : TypeId)
    (ho : o.op = .call { callee := .builtin .copy, args := #[d, s], argTypes := #[dT, sT] }) (elem : TypeId) (hu : P.underlying dT = some (.slice elem)) (hsz : (P.info? elem).map (·.size) = some 1)
    (ad : Addr) (dLen dCap sLen sCap : Nat) (g off : Nat) (hd : a.eval d = .slice (some ⟨g, off, none⟩) dLen dCap) (hs : a.eval s = .slice (some ad) sLen sCap)
    (cur : List Value) (t : TypeId) (hg : w.heap[g]? = some (.cells cur.toArray t (0, 0))) (cs : List Value) (hn : cs.length = Nat.min sLen dLen)
    (hsrc : ∀ j v, cs[j]? = some v → w.cell? (ad.add j) = some v) (hfit : off + cs.length ≤ cur.length) (h1 : ∀ v ∈ cs, v.oneCell' = true) (lo hi : Nat) (w0 : World) (hb : Keep lo hi w0 w) (hBg : lo ≤ g ∧ g < hi)
    (h : ∀ w', Hid (w'.heap[g]? = some (.cells (splice cur off cs).toArray t (0, 0))) → Keep lo hi w0 w' → wpList P ops Q rest (a.put o.dst (goInt cs.length)) w') : wpList P ops Q (o :: rest) a w :=
  wpList_plain hgd fun _ hK => copy_keep d s dT sT ho elem hu hsz ad dLen dCap sLen sCap g off hd hs cur t hg cs hn hsrc hfit h1 lo hi w0 hb hBg fun w' h1 h2 => hK _ _ (h w' h1 h2)

theorem splice_get (cur : List Value) (i : Nat) (cs : List Value) (j : Nat) (h : i + cs.length ≤ cur.length) : (splice cur i cs)[j]? = if j < i then cur[j]? else if j < i + cs.length then cs[j - i]? else cur[j]? := by
  unfold splice
  have hl : (cur.take i).length = i := by rw [List.length_take]; omega
  by_cases h1 : j < i
  · rw [if_pos h1, List.getElem?_append_left (by omega), List.getElem?_take, if_pos h1]
  · rw [if_neg h1, List.getElem?_append_right (by omega), hl]
    by_cases h2 : j < i + cs.length
    · rw [if_pos h2, List.getElem?_append_left (by omega)]
    · rw [if_neg h2, List.getElem?_append_right (by omega), List.getElem?_drop]
      congr 1
      omega

set_option maxRecDepth 4000 in
set_option maxHeartbeats 4000000 in
theorem insP_mid (g n c vb i : Nat) (cur : List Value) (xs : List Int) (x : Int) (w : World) (ho : OwnArr w g 3 cur) (hv : OwnArr w vb 3 [.int .i64 x]) (hne : vb ≠ g) (hxl : xs.length = n) (hcl : cur.length = c) (ht : cur.take n = iv xs) (hroom : n + 1 ≤ c) (hc : c ≤ 1000) (hin : i < n) :
    Calls Try.prog 66 #[.slice (some ⟨g, 0, none⟩) n c, .int .i64 i, .slice (some ⟨vb, 0, none⟩) 1 1] w fun e w' => e = .returned (.slice (some ⟨g, 0, none⟩) (n + 1) c) ∧ ∃ cur', OwnArr w' g 3 cur' ∧ cur'.length = c ∧ cur'.take (n + 1) = iv (xs.take i ++ x :: xs.drop i) ∧ Keep g (g + 1) w w' := by
  obtain ⟨i0, hi, hz0, hz1', hz2⟩ := info_parts infoInt
  have hsz : (Try.prog.info? 3).map (·.size) = some 1 := by rw [hi]; simp [hz1']
  have hov := Lib.hid (fun la ca lb cb => ov_apart g vb (i + 1) lb cb cur [.int .i64 x] w ho hv hne (by omega) la ca)
  obtain ⟨D, hD⟩ : ∃ D, iv (xs.drop i) = D := ⟨_, rfl⟩
  have hDl : D.length = n - i := by rw [← hD, iv_length, List.length_drop, hxl]
  have hD1 : ∀ v ∈ D, v.oneCell' = true := by rw [← hD]; exact iv_one _
  have HO : Hid (w.drew.heap[g]? = some (.cells cur.toArray 3 (0, 0))) := ho
  have HS : Hid (∀ j v, D[j]? = some v → w.drew.cell? ((⟨g, i, none⟩ : Addr).add j) = some v) := by
    show ∀ _, _
    intro j v hj
    rw [Addr.add_lit]
    show w.cell? ⟨g, i + j, none⟩ = some v
    rw [ho.cell]
    rw [← hD, ← iv_drop, ← ht, List.getElem?_drop, List.getElem?_take] at hj
    split at hj
    · exact hj
    · cases hj
  have HV : Hid (∀ w', Keep g (g + 1) w w' → ∀ j v, [Value.int .i64 x][j]? = some v → w'.cell? ((⟨vb, 0, none⟩ : Addr).add j) = some v) := by
    show ∀ _, _
    intro w' hk j v hj
    rw [Addr.add_lit, Nat.zero_add]
    have hvlt := hv.lt
    have : OwnArr w' vb 3 [.int .i64 x] := by
      unfold OwnArr at hv ⊢
      rw [hk.block vb hvlt (by omega)]; exact hv
    rw [this.cell]; exact hj
  have hl1 : (splice cur (i + 1) D).length = c := by rw [length_splice _ _ _ (by omega), hcl]
  have HF : Hid ((splice (splice cur (i + 1) D) i [.int .i64 x]).length = c ∧ (splice (splice cur (i + 1) D) i [.int .i64 x]).take (n + 1) = iv (xs.take i ++ x :: xs.drop i)) := by
    show _ ∧ _
    refine ⟨by rw [length_splice _ _ _ (by rw [hl1]; simp only [List.length_singleton]; omega)]; exact hl1, ?_⟩
    apply List.ext_getElem?
    intro j
    rw [List.getElem?_take]
    have e : iv (xs.take i ++ x :: xs.drop i) = (iv xs).take i ++ .int .i64 x :: D := by rw [iv_append, ← hD, iv_take]; rfl
    have hlt : ((iv xs).take i).length = i := by rw [List.length_take, iv_length]; omega
    rw [e]
    by_cases hj : j < n + 1
    · rw [if_pos hj, splice_get _ _ _ _ (by rw [hl1]; simp only [List.length_singleton]; omega), splice_get _ _ _ _ (by omega)]
      by_cases h1 : j < i
      · rw [if_pos h1, if_pos (by omega), List.getElem?_append_left (by omega), List.getElem?_take, if_pos h1, ← ht, List.getElem?_take, if_pos (by omega)]
      · rw [if_neg h1, List.getElem?_append_right (by omega), hlt]
        by_cases h2 : j = i
        · subst h2
          rw [if_pos (by simp), Nat.sub_self]
          rfl
        · rw [if_neg (by simp only [List.length_singleton]; omega), if_neg (by omega), if_pos (by omega)]
          obtain ⟨d, rfl⟩ : ∃ d, j = i + 1 + d := ⟨j - (i + 1), by omega⟩
          rw [show i + 1 + d - i = d + 1 by omega, show i + 1 + d - (i + 1) = d by omega]
          rfl
    · rw [if_neg hj, List.getElem?_eq_none]
      rw [List.length_append, hlt, List.length_cons, hDl]
      omega
  have k0 : (0 : Int) ≤ (i : Int) := by omega
  have k1 : (i : Int) < (n : Int) := by omega
  have k2 : ¬ (i : Int) = (n : Int) := by omega
  have k2' : ¬ i = n := by omega
  have k3 : (i : Int) ≤ (c : Int) := by omega
  have k4 : (n : Int) + 1 ≤ (c : Int) := by omega
  have k5 : (i : Int) + 1 ≤ (c : Int) := by omega
  have k6 : (i : Int) + 1 ≤ (n : Int) + 1 := by omega
  have k7 : (i : Int) ≤ (n : Int) + 1 := by omega
  have k8 : ¬ c = i := by omega
  have k9 : ¬ c = i + 1 := by omega
  have k10 : ¬ n = i := by omega
  have e1 : IntKind.i64.wrap ((i : Int) + 1) = (i : Int) + 1 := IntWalk.i64_in _ (by omega)
  have e3 : IntKind.i64.wrap ((n : Int) + 1) = (n : Int) + 1 := IntWalk.i64_in _ (by omega)
  have e2 : ((i : Int) + 1).toNat = i + 1 := by omega
  have k11 : (0 : Int) ≤ (i : Int) + 1 := by omega
  have k12 : (i : Int) ≤ (n : Int) := by omega
  have k13 : ¬ (c : Int) < (n : Int) + 1 := by omega
  have hc63 : (c : Int) ≤ 1000 := by omega
  have HDL := Lib.hid hDl
  have HL1 := Lib.hid hl1
  have HCL := Lib.hid hcl
  clear ho hv hxl hcl ht hD hi hz0 hz1' hz2 hDl hl1
  go_enter Try.func66, Try.ntmps66
  go_wp2_with (simp only [hov.out])
  go_region_law (refine step_copyK rfl (.tmp 73) (.tmp 76) 22 22 rfl 3 Try.underlying22 hsz ⟨g, i, none⟩ (n + 1 - (i + 1)) (c - (i + 1)) (n + 1 - i) (c - i) g (i + 1) (by simp [Act.eval, Act.put]) (by simp [Act.eval, Act.put]) cur 3 HO.out D (by rw [HDL.out]; show n - i = min (n + 1 - i) (n + 1 - (i + 1)); omega) HS.out (by rw [HDL.out, HCL.out]; omega) hD1 g (g + 1) w ((Keep.refl _ _ w).trans ⟨rfl, rfl, rfl, Nat.le_refl _, fun _ _ _ => rfl⟩) ⟨Nat.le_refl _, Nat.lt_succ_self _⟩ ?_; intro W2 hA2 hK2)
  have HK2 := Lib.hid hK2
  clear hK2
  go_wp2_with (refine wpList_copyK rfl (.tmp 80) (.tmp 81) 22 22 rfl 3 Try.underlying22 hsz ⟨vb, 0, none⟩ (n + 1 - i) (c - i) 1 1 g i rfl rfl (splice cur (i + 1) D) 3 hA2.out [.int .i64 x] (by show (1 : Nat) = min 1 (n + 1 - i); omega) (HV.out _ HK2.out) (by rw [HL1.out]; simp only [List.length_singleton]; omega) (by intro v hv; simp at hv; subst hv; rfl) g (g + 1) w HK2.out ⟨Nat.le_refl _, Nat.lt_succ_self _⟩ ?_; intro W3 hA3 hK3)
  have HE : Hid (∃ cur', OwnArr W3 g 3 cur' ∧ cur'.length = c ∧ cur'.take (n + 1) = iv (xs.take i ++ x :: xs.drop i) ∧ Keep g (g + 1) w W3) := ⟨_, hA3.out, HF.out.1, HF.out.2, hK3⟩
  clear hA3 hK3 hA2 HK2
  go_wp2_with fail
  go_ret
  exact ⟨rfl, HE.out⟩

theorem insP_any (g n c vb i : Nat) (cur : List Value) (xs : List Int) (x : Int) (w : World) (ho : OwnArr w g 3 cur) (hv : OwnArr w vb 3 [.int .i64 x]) (hne : vb ≠ g) (hxl : xs.length = n) (hcl : cur.length = c) (ht : cur.take n = iv xs) (hroom : n + 1 ≤ c) (hc : c ≤ 1000) (hin : i ≤ n) :
    Calls Try.prog 66 #[.slice (some ⟨g, 0, none⟩) n c, .int .i64 i, .slice (some ⟨vb, 0, none⟩) 1 1] w fun e w' => e = .returned (.slice (some ⟨g, 0, none⟩) (n + 1) c) ∧ ∃ cur', OwnArr w' g 3 cur' ∧ cur'.length = c ∧ cur'.take (n + 1) = iv (xs.take i ++ x :: xs.drop i) ∧ Keep g (g + 1) w w' := by
  by_cases h : i = n
  · subst h
    rw [List.take_of_length_le (by omega), List.drop_eq_nil_of_le (by omega)]
    exact insP_end g i c vb cur xs x w ho hv hxl hcl ht hroom hc
  · exact insP_mid g n c vb i cur xs x w ho hv hne hxl hcl ht hroom hc (by omega)
end Go.Proofs.Ytfabannlebolfaa
