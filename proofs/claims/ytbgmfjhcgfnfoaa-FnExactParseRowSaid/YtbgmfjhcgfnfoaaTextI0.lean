/- impl.RowText, for every Row. -/
import Derived.Test.YtbgmfjhcgfnfoaaText0
import Derived.Test.YtbgmfjhcgfnfoaaMarks
import Derived.Test.YtbgmfjhcgfnfoaaNe
import Derived.Test.YtbgmfjhcgfnfoaaRowHelp
import Derived.Test.YtbgmfjhcgfnfoaaRowI
import Derived.Laws.IdiomStrings
import Derived.Lib.Strings
import Derived.Deep.AppendLies
import Derived.Lib.SmallJoins
import Derived.Lib.AppendZeros
namespace Go.Proofs.Ytbgmfjhcgfnfoaa
open Go.RowKit

def u8v (l : List UInt8) : List Value := l.map fun b => Value.int .u8 (b.toNat : Int)
def textL (ring : Bool) (S : Nat → Bool) (k : Nat) : List UInt8 := (textT ring S k).data.toList
theorem textL_len (ring : Bool) (S : Nat → Bool) (k : Nat) : (textL ring S k).length = 5 + k := by
  have := textT_size ring S k
  unfold textL
  rw [Array.length_toList]; exact this
theorem textL_yes {ring : Bool} {S : Nat → Bool} {k : Nat} (h : S k = true) : textL ring S (k + 1) = textL ring S k ++ [120] := by
  unfold textL
  rw [textT, h]
  simp [signT, ByteArray.data_append]
theorem textL_no {ring : Bool} {S : Nat → Bool} {k : Nat} (h : S k = false) : textL ring S (k + 1) = textL ring S k ++ [46] := by
  unfold textL
  rw [textT, h]
  simp [signT, ByteArray.data_append]
theorem textL_back (ring : Bool) (S : Nat → Bool) (k : Nat) : (⟨(textL ring S k).toArray⟩ : ByteArray) = textT ring S k := by
  unfold textL
  simp
theorem infoU8 : (Try.prog.info? 5).map (fun i => (i.zero, i.size, i.bytes)) = some (some (.int .u8 0), 1, 1) := by kernel_rfl
theorem own_ne8 {B : Nat} {w : World} {v : Value} {n : Nat} {xs : List Value} {R : Nat} {ys : List Value} {e' : TypeId} (h : w.ownsRow B 5 1 v n xs) (hR : OwnArr w R e' ys) (he : ¬ e' = 5) : ¬ v.ownBlock = some R := by
  intro e
  rcases h.2 with ⟨hv, _⟩ | ⟨g, cap, cur, hv, _, hh, _⟩
  · subst hv; simp [Value.ownBlock] at e
  · subst hv
    simp only [Value.ownBlock, Option.some.injEq] at e
    subst e
    unfold OwnArr at hR
    rw [hR] at hh
    simp only [Option.some.injEq, Obj.cells.injEq] at hh
    exact he hh.2.1
/-- a text that is built, byte after byte -/
abbrev OutT (B : Nat) (w : World) (v : Value) (l : List UInt8) : Prop := w.ownsRow B 5 1 v l.length (u8v l)
theorem OutT.below {B : Nat} {w w' : World} {v : Value} {xs : List UInt8} (h : OutT B w v xs) (hb : Below w.heap.size w w') : OutT B w' v xs := by
  refine ⟨h.1, h.2.elim .inl (fun ⟨g, cap, cur, hv, hg, hh, r⟩ => .inr ⟨g, cap, cur, hv, hg, ?_, r⟩)⟩
  have hlt : g < w.heap.size := by
    rcases Nat.lt_or_ge g w.heap.size with h' | h'
    · exact h'
    · rw [Array.getElem?_eq_none h'] at hh; cases hh
  rw [hb.block g hlt]; exact hh
theorem OutT.bytes {B : Nat} {w : World} {v : Value} {l : List UInt8} (h : OutT B w v l) (h0 : 0 < l.length) : ∃ g cap, v = .slice (some ⟨g, 0, none⟩) l.length cap ∧ ∀ j (hj : j < l.length), w.cell? ((⟨g, 0, none⟩ : Addr).add j) = some (.int .u8 (l[j].toNat : Int)) := by
  rcases h.2 with ⟨_, h1⟩ | ⟨g, cap, cur, hv, _, hh, _, _, _, ht⟩
  · omega
  · refine ⟨g, cap, hv, fun j hj => ?_⟩
    have ho : OwnArr w g 5 cur.toList := hh
    rw [Addr.add_lit, Nat.zero_add, ho.cell]
    have : cur.toList[j]? = (cur.toList.take (l.length * 1))[j]? := by rw [List.getElem?_take, if_pos (by omega)]
    rw [this, ht]
    simp [u8v, hj]

/-- a byte appended to a text that has no room -/
theorem grow_lit (w : World) (g0 : Nat) (l0 : List UInt8) (x : UInt8) (hold : ∀ j u, (u8v l0)[j]? = some u → w.cell? ((⟨g0, 0, none⟩ : Addr).add j) = some u) (a : Addr) (hnew : w.cell? (a.add 0) = some (.int .u8 (x.toNat : Int))) (hl : l0.length ≤ 100) :
    ∃ v' w', (Builtin.append_ #[75, 75] 75 #[.slice (some ⟨g0, 0, none⟩) l0.length l0.length, .slice (some a) 1 1]).run Try.prog w = .ok v' w' ∧ OutT w.heap.size w' v' (l0 ++ [x]) ∧ Below w.heap.size w w' := by
  obtain ⟨i0, hi, hz0, hz1, hz2⟩ := info_parts infoU8
  have hr := run_append_grow (P := Try.prog) w 75 75 5 i0 (.int .u8 0) Try.underlying75 hi hz0 ⟨g0, 0, none⟩ l0.length l0.length (u8v l0) (by rw [hz1]; simp [u8v]) hold a 1 1 [.int .u8 (x.toNat : Int)] (by rw [hz1]; rfl) (fun j v hj => by
    cases j with
    | zero => simp at hj; subst hj; exact hnew
    | succ j => simp at hj) (by omega) (by omega) (by rw [hz2]; exact growslice_fits (by omega) (by omega))
  have hge := grownCap_ge w (l0.length + 1) l0.length 5
  have hle := grownCap_le_maxLen w (l0.length + 1) l0.length 5 (by unfold maxLen; omega)
  obtain ⟨C, hC⟩ : ∃ C, grownCap w (l0.length + 1) l0.length 5 = C := ⟨_, rfl⟩
  rw [hC] at hr hge hle
  refine ⟨_, _, hr, ⟨?_, .inr ⟨w.heap.size, C, _, ?_, Nat.le_refl _, heap_alloc_new w.drew _, ?_, hle, ?_, ?_⟩⟩, ((Below.refl _ w).drew).alloc (Nat.le_refl _) _⟩
  · simp [u8v]
  · rw [List.length_append]; rfl
  · rw [List.length_append]; exact hge
  · simp only [Array.size_append, List.size_toArray, size_zeroCells]
    show (u8v l0).length + 1 + (C - (l0.length + 1)) * 1 = C * 1
    simp [u8v]; omega
  · simp only [Array.toList_append]
    rw [List.take_append_of_le_length (by simp [u8v])]
    rw [List.take_of_length_le (by simp [u8v])]
    simp [u8v]

set_option maxHeartbeats 800000 in
theorem rowTextI_bad (s : Int) (ring : Bool) (p : Option Addr) (cap : Nat) (xs : List Int) (w : World) (lo hi : Nat) (hin : Ri lo hi w p xs) (hlen : xs.length ≤ 1048576) (hr : rowB s ring xs = false) :
    Calls Try.prog 53 #[rowV s ring p xs.length cap] w fun e w' => e = .returned (.tuple #[.string ⟨#[]⟩, .bool false]) ∧ Below w.heap.size w w' := by
  have hb := box_below w s ring p xs.length cap 28
  have R := Lib.hid (isRow_any s ring p cap xs _ lo hi (hin.bel hb) hlen)
  rw [hr] at R
  have HB := Lib.hid hb
  clear hb hin hr
  go_enter Try.func53, Try.ntmps53
  go_wp2_with fail
  refine R.out.mono ?_
  rintro e w1 ⟨rfl, hb1⟩
  go_wp2_with fail
  go_ret2
  exact ⟨rfl, HB.out.trans (hb1.mono HB.out.size)⟩

set_option maxRecDepth 4000 in
set_option maxHeartbeats 2000000 in
theorem rowTextI_any (n : Nat) (ring : Bool) (p : Option Addr) (cap : Nat) (S : Nat → Bool) (w : World) (lo hi : Nat) (hin : Ri lo hi w p (ints (tk n S))) (h2 : 2 ≤ n) (hn : n ≤ 24) (h3 : ring = true → 3 ≤ n) :
    Calls Try.prog 53 #[rowV n ring p (ints (tk n S)).length cap] w fun e w' => e = .returned (.tuple #[.string (textT ring S n), .bool true]) ∧ Below w.heap.size w w' := by
  obtain ⟨i0, hi0, hz0, hz1, hz2⟩ := info_parts infoU8
  have hlen := ints_tk_len n S
  have hb := box_below w n ring p (ints (tk n S)).length cap 28
  have R := Lib.hid (fun (w' : World) (h' : Below w.heap.size w w') => isRow_any n ring p cap (ints (tk n S)) w' lo hi (hin.below h' hin.top) (by omega))
  rw [rowB_of h2 hn h3] at R
  have MK := Lib.hid (fun (w' : World) (h' : Below w.heap.size w w') => marksOf_any n ring p cap S w' lo hi (hin.below h' hin.top) hn)
  have HX := Lib.hid (OwnArr.made w 28 [.int .i64 n, .bool ring, .slice p (ints (tk n S)).length cap])
  have HB := Lib.hid hb
  clear hb hin hlen h3
  obtain ⟨m, hm⟩ : ∃ m, (ints (tk n S)).length = m := ⟨_, rfl⟩
  rw [hm] at R MK HX HB ⊢
  clear hm
  cases ring with
  | false =>
    go_enter Try.func53, Try.ntmps53
    go_wp2_with fail
    refine (R.out _ HB.out).mono ?_
    rintro e w1 ⟨rfl, hb1⟩
    have HX1 := Lib.hid (HX.out.below hb1 HX.out.lt)
    have HB1 := Lib.hid (HB.out.trans (hb1.mono HB.out.size))
    clear HX HB R hb1
    have hs1 := HX1.out.lt
    obtain ⟨c0, c1, c2, -⟩ := HX1.out.three
    have hcv1 := Go.Joins.run_convert_bytes_const_at (P := Try.prog) w1 75 5 #[.int .u8 108, .int .u8 105, .int .u8 110, .int .u8 101, .int .u8 32] 5 5 w1.heap.size rfl Try.underlying75 Try.underlying5
    have hcv1' : (convert 75 75 (.slice (some ⟨w1.heap.size, 0, none⟩) 5 5)).run Try.prog (w1.alloc (.cells #[.int .u8 108, .int .u8 105, .int .u8 110, .int .u8 101, .int .u8 32] 5)) = .ok (.slice (some ⟨w1.heap.size, 0, none⟩) 5 5) (w1.alloc (.cells #[.int .u8 108, .int .u8 105, .int .u8 110, .int .u8 101, .int .u8 32] 5 (5, 6))) := hcv1
    clear hcv1
    obtain ⟨wL, hwL⟩ : ∃ wL, w1.alloc (.cells #[.int .u8 108, .int .u8 105, .int .u8 110, .int .u8 101, .int .u8 32] 5 (5, 6)) = wL := ⟨_, rfl⟩
    rw [hwL] at hcv1'
    have hbL : Below w1.heap.size w1 wL := by rw [← hwL]; exact (Below.refl _ w1).alloc (Nat.le_refl _) _
    have hXL := HX1.out.below hbL HX1.out.lt
    obtain ⟨d0, d1, d2, -⟩ := hXL.three
    have hlit : ∀ j u, (u8v (textL false S 0))[j]? = some u → wL.cell? ((⟨w1.heap.size, 0, none⟩ : Addr).add j) = some u := by
      intro j u hu
      rw [Addr.add_lit, ← hwL, Nat.zero_add, Go.Joins.cell_of_block (heap_alloc_new w1 _), ← Array.getElem?_toList]
      exact hu
    have hB2 : Below w.heap.size w wL := HB1.out.trans (hbL.mono HB1.out.size)
    have hgR : w1.heap.size < wL.heap.size := by rw [← hwL]; simp
    clear hwL hbL hXL
    replace hlit := Lib.hid hlit
    replace hB2 := Lib.hid hB2
    go_wp2_with fail
    clear c0 c1 c2 d0 d1 d2 HX1 HB1
    refine (MK.out _ hB2.out).mono ?_
    rintro e w4 ⟨g, rfl, hg, hOm, hb4⟩
    have HMK0 := Lib.hid hOm
    have HO0 : Hid (∀ j u, (u8v (textL false S 0))[j]? = some u → w4.cell? ((⟨w1.heap.size, 0, none⟩ : Addr).add j) = some u) := by
      show ∀ _, _
      intro j u hu
      have hcell := hlit.out j u hu
      rw [Addr.add_lit] at hcell ⊢
      rw [hb4.cell (p := ⟨w1.heap.size, 0 + j, none⟩) hgR]; exact hcell
    have hg04 : w1.heap.size < w4.heap.size := Nat.lt_of_lt_of_le hgR hb4.size
    have HB0 := Lib.hid (hB2.out.trans (hb4.mono hB2.out.size))
    clear hlit hB2 hOm hb4 hg MK
    go_wp2_with fail
    go_loopw [4, 6, 19] (fun v _ i wr => ∃ (k : Nat) (v0 : Value), k ≤ n ∧ i = .int .i64 k ∧ v0 = v ∧ (Hid (OutT w.heap.size wr v0 (textL false S k)) ∨ (k = 0 ∧ ∃ g0, g0 < wr.heap.size ∧ v0 = .slice (some ⟨g0, 0, none⟩) 5 5 ∧ Hid (∀ j u, (u8v (textL false S 0))[j]? = some u → wr.cell? ((⟨g0, 0, none⟩ : Addr).add j) = some u))) ∧ Hid (OwnArr wr g 4 (bv (bl n S))) ∧ Hid (Below w.heap.size w wr)) (fun _ _ i _ => n - (intOf i).toNat)
    case atStart => exact ⟨0, _, Nat.zero_le _, rfl, rfl, .inr ⟨rfl, w1.heap.size, hg04, rfl, HO0⟩, HMK0, HB0⟩
    case round =>
      obtain ⟨k, v, hk, rfl, rfl, HOO, HMK, HB⟩ := hrel
      clear HO0 HMK0 HB0
      by_cases hlt : k < n
      · have hk1 : (k : Int) < (n : Int) := by omega
        have h0 := HMK.out.cell k
        rw [bv_get (by rw [bl_length]; exact hlt), bl_getD hlt] at h0
        obtain ⟨t, ht⟩ : ∃ t, S k = t := ⟨_, rfl⟩
        rw [ht] at h0
        cases t with
        | true =>
          rcases HOO with HO | ⟨rfl, g0, hg0, rfl, HLIT⟩
          · have HT := Lib.hid (textL_yes (ring := false) ht)
            have HL := Lib.hid (textL_len false S k)
            have hne1 := Lib.hid (own_ne8 HO.out HMK.out (by decide))
            have hblk : Hid (∀ k', v.ownBlock = some k' → w.heap.size ≤ k') := by
              show ∀ _, _
              intro k' hk'
              exact (HO.out.lt k' hk').1
            obtain ⟨l, vs, hl, hvs, hown⟩ : ∃ l vs, (textL false S k).length = l ∧ u8v (textL false S k) = vs ∧ wr.ownsRow w.heap.size 5 1 v l vs := ⟨_, _, rfl, rfl, HO.out⟩
            have hlk := HL.out
            rw [hl] at hlk
            have hlk2 : l ≤ 5 + k := by omega
            have hsz2 := HMK.out.lt
            have hszB := HB.out.size
            replace hl := Lib.hid hl
            replace hvs := Lib.hid hvs
            clear ht hlk
            go_wp2_with (at_builtin; refine wpList_append_own _ rfl _ _ 75 rfl w.heap.size 5 i0 (.int .u8 0) 1 1 Try.underlying75 hi0 hz0 hz1 hz2 rfl (by decide) _ _ _ rfl (hown.alloc _) ⟨wr.heap.size, 0, none⟩ 1 1 [.int .u8 120] rfl rfl (cell_one_new _ _ _) (fun x hx => by simp at hx; subst hx; rfl) (by unfold maxLen; omega) (by omega) (by simp; omega) ?_; intro v' w3 hown' hgrow3 hnil3)
            have hG : Below w.heap.size wr w3 := ((Below.refl w.heap.size wr).alloc (by omega) _).grown hgrow3 (by simp; omega) hblk.out
            have HO3 : Hid (OutT w.heap.size w3 v' (textL false S (k + 1))) := by
              show w3.ownsRow _ _ _ _ _ _
              rw [HT.out, List.length_append, hl.out]
              unfold u8v
              rw [List.map_append]
              show w3.ownsRow _ _ _ _ _ (u8v _ ++ _)
              rw [hvs.out]
              exact hown'
            have HMK3 := Lib.hid (OwnArr.grown (HMK.out.alloc _) hgrow3 hne1.out)
            have HB3 := Lib.hid (HB.out.trans hG)
            clear hown' hgrow3 hnil3 hown hG HO HMK HB
            go_wp2_with fail
            go_roundw
            case rel => exact ⟨k + 1, v', by omega, by go_num, rfl, .inl HO3, HMK3, HB3⟩
            case measure => simp [intOf]; omega
          · have HT := Lib.hid (textL_yes (ring := false) ht)
            have hgl := grow_lit (wr.alloc (.cells #[.int .u8 120] 5)) g0 (textL false S 0) 120 (by
              intro j u hu
              have hcell := HLIT.out j u hu
              rw [Addr.add_lit] at hcell ⊢
              rw [World.cell?_alloc_past (w := wr) _ g0 _ hg0]
              exact hcell) ⟨wr.heap.size, 0, none⟩ (by rw [Addr.add_lit]; exact ((OwnArr.made wr 5 [.int .u8 120]).cell 0)) (by rw [textL_len]; omega)
            rw [textL_len] at hgl
            obtain ⟨v', w3, hr3, hO3, hb3⟩ := hgl
            have hszB := HB.out.size
            have HO3 : Hid (OutT w.heap.size w3 v' (textL false S (0 + 1))) := by
              show OutT _ _ _ _
              rw [HT.out]
              exact ⟨hO3.1, hO3.2.elim .inl (fun ⟨g, cap, cur, hv, hg, r⟩ => .inr ⟨g, cap, cur, hv, by simp at hg; omega, r⟩)⟩
            have hba := (HB.out.alloc hszB (.cells #[.int .u8 120] 5))
            have HB3 := Lib.hid (hba.trans (hb3.mono hba.size))
            have HMK3 := Lib.hid ((HMK.out.alloc (.cells #[.int .u8 120] 5)).below hb3 (HMK.out.alloc _).lt)
            have HR3 := Lib.hid hr3
            clear ht hr3 hO3 hb3 hba HMK HB
            go_wp2_with (at_builtin; refine Lib.wpList_append_run _ rfl _ _ _ _ rfl _ _ rfl rfl _ _ HR3.out ?_)
            go_roundw
            case rel => exact ⟨0 + 1, v', by omega, by go_num, rfl, .inl HO3, HMK3, HB3⟩
            case measure => simp [intOf]; omega
        | false =>
          rcases HOO with HO | ⟨rfl, g0, hg0, rfl, HLIT⟩
          · have HT := Lib.hid (textL_no (ring := false) ht)
            have HL := Lib.hid (textL_len false S k)
            have hne1 := Lib.hid (own_ne8 HO.out HMK.out (by decide))
            have hblk : Hid (∀ k', v.ownBlock = some k' → w.heap.size ≤ k') := by
              show ∀ _, _
              intro k' hk'
              exact (HO.out.lt k' hk').1
            obtain ⟨l, vs, hl, hvs, hown⟩ : ∃ l vs, (textL false S k).length = l ∧ u8v (textL false S k) = vs ∧ wr.ownsRow w.heap.size 5 1 v l vs := ⟨_, _, rfl, rfl, HO.out⟩
            have hlk := HL.out
            rw [hl] at hlk
            have hlk2 : l ≤ 5 + k := by omega
            have hsz2 := HMK.out.lt
            have hszB := HB.out.size
            replace hl := Lib.hid hl
            replace hvs := Lib.hid hvs
            clear ht hlk
            go_wp2_with (at_builtin; refine wpList_append_own _ rfl _ _ 75 rfl w.heap.size 5 i0 (.int .u8 0) 1 1 Try.underlying75 hi0 hz0 hz1 hz2 rfl (by decide) _ _ _ rfl (hown.alloc _) ⟨wr.heap.size, 0, none⟩ 1 1 [.int .u8 46] rfl rfl (cell_one_new _ _ _) (fun x hx => by simp at hx; subst hx; rfl) (by unfold maxLen; omega) (by omega) (by simp; omega) ?_; intro v' w3 hown' hgrow3 hnil3)
            have hG : Below w.heap.size wr w3 := ((Below.refl w.heap.size wr).alloc (by omega) _).grown hgrow3 (by simp; omega) hblk.out
            have HO3 : Hid (OutT w.heap.size w3 v' (textL false S (k + 1))) := by
              show w3.ownsRow _ _ _ _ _ _
              rw [HT.out, List.length_append, hl.out]
              unfold u8v
              rw [List.map_append]
              show w3.ownsRow _ _ _ _ _ (u8v _ ++ _)
              rw [hvs.out]
              exact hown'
            have HMK3 := Lib.hid (OwnArr.grown (HMK.out.alloc _) hgrow3 hne1.out)
            have HB3 := Lib.hid (HB.out.trans hG)
            clear hown' hgrow3 hnil3 hown hG HO HMK HB
            go_wp2_with fail
            go_roundw
            case rel => exact ⟨k + 1, v', by omega, by go_num, rfl, .inl HO3, HMK3, HB3⟩
            case measure => simp [intOf]; omega
          · have HT := Lib.hid (textL_no (ring := false) ht)
            have hgl := grow_lit (wr.alloc (.cells #[.int .u8 46] 5)) g0 (textL false S 0) 46 (by
              intro j u hu
              have hcell := HLIT.out j u hu
              rw [Addr.add_lit] at hcell ⊢
              rw [World.cell?_alloc_past (w := wr) _ g0 _ hg0]
              exact hcell) ⟨wr.heap.size, 0, none⟩ (by rw [Addr.add_lit]; exact ((OwnArr.made wr 5 [.int .u8 46]).cell 0)) (by rw [textL_len]; omega)
            rw [textL_len] at hgl
            obtain ⟨v', w3, hr3, hO3, hb3⟩ := hgl
            have hszB := HB.out.size
            have HO3 : Hid (OutT w.heap.size w3 v' (textL false S (0 + 1))) := by
              show OutT _ _ _ _
              rw [HT.out]
              exact ⟨hO3.1, hO3.2.elim .inl (fun ⟨g, cap, cur, hv, hg, r⟩ => .inr ⟨g, cap, cur, hv, by simp at hg; omega, r⟩)⟩
            have hba := (HB.out.alloc hszB (.cells #[.int .u8 46] 5))
            have HB3 := Lib.hid (hba.trans (hb3.mono hba.size))
            have HMK3 := Lib.hid ((HMK.out.alloc (.cells #[.int .u8 46] 5)).below hb3 (HMK.out.alloc _).lt)
            have HR3 := Lib.hid hr3
            clear ht hr3 hO3 hb3 hba HMK HB
            go_wp2_with (at_builtin; refine Lib.wpList_append_run _ rfl _ _ _ _ rfl _ _ rfl rfl _ _ HR3.out ?_)
            go_roundw
            case rel => exact ⟨0 + 1, v', by omega, by go_num, rfl, .inl HO3, HMK3, HB3⟩
            case measure => simp [intOf]; omega
      · have hkn : k = n := by omega
        subst hkn
        have HO := HOO.resolve_right (fun h => by have := h.1; omega)
        clear HOO
        obtain ⟨g', c', e, hcell⟩ := HO.out.bytes (by rw [textL_len]; omega)
        subst e
        have hcv := run_convert_bytes_back (P := Try.prog) wr 75 9 5 ⟨g', 0, none⟩ c' (textL false S k) Try.underlying75 Try.underlying5 Try.underlying9 hcell
        rw [textL_back, textL_len] at hcv
        rw [textL_len] at *
        clear hcell
        go_wp2_with fail
        go_ret2
        exact ⟨rfl, HB.out⟩
  | true =>
    go_enter Try.func53, Try.ntmps53
    go_wp2_with fail
    refine (R.out _ HB.out).mono ?_
    rintro e w1 ⟨rfl, hb1⟩
    have HX1 := Lib.hid (HX.out.below hb1 HX.out.lt)
    have HB1 := Lib.hid (HB.out.trans (hb1.mono HB.out.size))
    clear HX HB R hb1
    have hs1 := HX1.out.lt
    obtain ⟨c0, c1, c2, -⟩ := HX1.out.three
    have hcv1 := Go.Joins.run_convert_bytes_const_at (P := Try.prog) w1 75 5 #[.int .u8 108, .int .u8 105, .int .u8 110, .int .u8 101, .int .u8 32] 5 5 w1.heap.size rfl Try.underlying75 Try.underlying5
    have hcv1' : (convert 75 75 (.slice (some ⟨w1.heap.size, 0, none⟩) 5 5)).run Try.prog (w1.alloc (.cells #[.int .u8 108, .int .u8 105, .int .u8 110, .int .u8 101, .int .u8 32] 5)) = .ok (.slice (some ⟨w1.heap.size, 0, none⟩) 5 5) (w1.alloc (.cells #[.int .u8 108, .int .u8 105, .int .u8 110, .int .u8 101, .int .u8 32] 5 (5, 6))) := hcv1
    clear hcv1
    obtain ⟨wL, hwL⟩ : ∃ wL, w1.alloc (.cells #[.int .u8 108, .int .u8 105, .int .u8 110, .int .u8 101, .int .u8 32] 5 (5, 6)) = wL := ⟨_, rfl⟩
    rw [hwL] at hcv1'
    have hbL : Below w1.heap.size w1 wL := by rw [← hwL]; exact (Below.refl _ w1).alloc (Nat.le_refl _) _
    have hXL := HX1.out.below hbL HX1.out.lt
    obtain ⟨d0, d1, d2, -⟩ := hXL.three
    have hcv2 := Go.Joins.run_convert_bytes_const_at (P := Try.prog) wL 75 5 #[.int .u8 114, .int .u8 105, .int .u8 110, .int .u8 103, .int .u8 32] 5 5 wL.heap.size rfl Try.underlying75 Try.underlying5
    have hcv2' : (convert 75 75 (.slice (some ⟨wL.heap.size, 0, none⟩) 5 5)).run Try.prog (wL.alloc (.cells #[.int .u8 114, .int .u8 105, .int .u8 110, .int .u8 103, .int .u8 32] 5)) = .ok (.slice (some ⟨wL.heap.size, 0, none⟩) 5 5) (wL.alloc (.cells #[.int .u8 114, .int .u8 105, .int .u8 110, .int .u8 103, .int .u8 32] 5 (5, 6))) := hcv2
    clear hcv2
    obtain ⟨wR, hwR⟩ : ∃ wR, wL.alloc (.cells #[.int .u8 114, .int .u8 105, .int .u8 110, .int .u8 103, .int .u8 32] 5 (5, 6)) = wR := ⟨_, rfl⟩
    rw [hwR] at hcv2'
    have hbR : Below wL.heap.size wL wR := by rw [← hwR]; exact (Below.refl _ wL).alloc (Nat.le_refl _) _
    have hlit : ∀ j u, (u8v (textL true S 0))[j]? = some u → wR.cell? ((⟨wL.heap.size, 0, none⟩ : Addr).add j) = some u := by
      intro j u hu
      rw [Addr.add_lit, ← hwR, Nat.zero_add, Go.Joins.cell_of_block (heap_alloc_new wL _), ← Array.getElem?_toList]
      exact hu
    have hB2 : Below w.heap.size w wR := (HB1.out.trans (hbL.mono HB1.out.size)).trans (hbR.mono (Nat.le_trans HB1.out.size hbL.size))
    have hgR : wL.heap.size < wR.heap.size := by rw [← hwR]; simp
    have hXR := hXL.below hbR hXL.lt
    obtain ⟨e0, e1, e2, -⟩ := hXR.three
    clear hwL hwR hbL hbR hXL hXR
    replace hlit := Lib.hid hlit
    replace hB2 := Lib.hid hB2
    go_wp2_with fail
    clear c0 c1 c2 d0 d1 d2 e0 e1 e2 HX1 HB1
    refine (MK.out _ hB2.out).mono ?_
    rintro e w4 ⟨g, rfl, hg, hOm, hb4⟩
    have HMK0 := Lib.hid hOm
    have HO0 : Hid (∀ j u, (u8v (textL true S 0))[j]? = some u → w4.cell? ((⟨wL.heap.size, 0, none⟩ : Addr).add j) = some u) := by
      show ∀ _, _
      intro j u hu
      have hcell := hlit.out j u hu
      rw [Addr.add_lit] at hcell ⊢
      rw [hb4.cell (p := ⟨wL.heap.size, 0 + j, none⟩) hgR]; exact hcell
    have hg04 : wL.heap.size < w4.heap.size := Nat.lt_of_lt_of_le hgR hb4.size
    have HB0 := Lib.hid (hB2.out.trans (hb4.mono hB2.out.size))
    clear hlit hB2 hOm hb4 hg MK
    go_wp2_with fail
    go_loopw [4, 6, 19] (fun v _ i wr => ∃ (k : Nat) (v0 : Value), k ≤ n ∧ i = .int .i64 k ∧ v0 = v ∧ (Hid (OutT w.heap.size wr v0 (textL true S k)) ∨ (k = 0 ∧ ∃ g0, g0 < wr.heap.size ∧ v0 = .slice (some ⟨g0, 0, none⟩) 5 5 ∧ Hid (∀ j u, (u8v (textL true S 0))[j]? = some u → wr.cell? ((⟨g0, 0, none⟩ : Addr).add j) = some u))) ∧ Hid (OwnArr wr g 4 (bv (bl n S))) ∧ Hid (Below w.heap.size w wr)) (fun _ _ i _ => n - (intOf i).toNat)
    case atStart => exact ⟨0, _, Nat.zero_le _, rfl, rfl, .inr ⟨rfl, wL.heap.size, hg04, rfl, HO0⟩, HMK0, HB0⟩
    case round =>
      obtain ⟨k, v, hk, rfl, rfl, HOO, HMK, HB⟩ := hrel
      clear HO0 HMK0 HB0
      by_cases hlt : k < n
      · have hk1 : (k : Int) < (n : Int) := by omega
        have h0 := HMK.out.cell k
        rw [bv_get (by rw [bl_length]; exact hlt), bl_getD hlt] at h0
        obtain ⟨t, ht⟩ : ∃ t, S k = t := ⟨_, rfl⟩
        rw [ht] at h0
        cases t with
        | true =>
          rcases HOO with HO | ⟨rfl, g0, hg0, rfl, HLIT⟩
          · have HT := Lib.hid (textL_yes (ring := true) ht)
            have HL := Lib.hid (textL_len true S k)
            have hne1 := Lib.hid (own_ne8 HO.out HMK.out (by decide))
            have hblk : Hid (∀ k', v.ownBlock = some k' → w.heap.size ≤ k') := by
              show ∀ _, _
              intro k' hk'
              exact (HO.out.lt k' hk').1
            obtain ⟨l, vs, hl, hvs, hown⟩ : ∃ l vs, (textL true S k).length = l ∧ u8v (textL true S k) = vs ∧ wr.ownsRow w.heap.size 5 1 v l vs := ⟨_, _, rfl, rfl, HO.out⟩
            have hlk := HL.out
            rw [hl] at hlk
            have hlk2 : l ≤ 5 + k := by omega
            have hsz2 := HMK.out.lt
            have hszB := HB.out.size
            replace hl := Lib.hid hl
            replace hvs := Lib.hid hvs
            clear ht hlk
            go_wp2_with (at_builtin; refine wpList_append_own _ rfl _ _ 75 rfl w.heap.size 5 i0 (.int .u8 0) 1 1 Try.underlying75 hi0 hz0 hz1 hz2 rfl (by decide) _ _ _ rfl (hown.alloc _) ⟨wr.heap.size, 0, none⟩ 1 1 [.int .u8 120] rfl rfl (cell_one_new _ _ _) (fun x hx => by simp at hx; subst hx; rfl) (by unfold maxLen; omega) (by omega) (by simp; omega) ?_; intro v' w3 hown' hgrow3 hnil3)
            have hG : Below w.heap.size wr w3 := ((Below.refl w.heap.size wr).alloc (by omega) _).grown hgrow3 (by simp; omega) hblk.out
            have HO3 : Hid (OutT w.heap.size w3 v' (textL true S (k + 1))) := by
              show w3.ownsRow _ _ _ _ _ _
              rw [HT.out, List.length_append, hl.out]
              unfold u8v
              rw [List.map_append]
              show w3.ownsRow _ _ _ _ _ (u8v _ ++ _)
              rw [hvs.out]
              exact hown'
            have HMK3 := Lib.hid (OwnArr.grown (HMK.out.alloc _) hgrow3 hne1.out)
            have HB3 := Lib.hid (HB.out.trans hG)
            clear hown' hgrow3 hnil3 hown hG HO HMK HB
            go_wp2_with fail
            go_roundw
            case rel => exact ⟨k + 1, v', by omega, by go_num, rfl, .inl HO3, HMK3, HB3⟩
            case measure => simp [intOf]; omega
          · have HT := Lib.hid (textL_yes (ring := true) ht)
            have hgl := grow_lit (wr.alloc (.cells #[.int .u8 120] 5)) g0 (textL true S 0) 120 (by
              intro j u hu
              have hcell := HLIT.out j u hu
              rw [Addr.add_lit] at hcell ⊢
              rw [World.cell?_alloc_past (w := wr) _ g0 _ hg0]
              exact hcell) ⟨wr.heap.size, 0, none⟩ (by rw [Addr.add_lit]; exact ((OwnArr.made wr 5 [.int .u8 120]).cell 0)) (by rw [textL_len]; omega)
            rw [textL_len] at hgl
            obtain ⟨v', w3, hr3, hO3, hb3⟩ := hgl
            have hszB := HB.out.size
            have HO3 : Hid (OutT w.heap.size w3 v' (textL true S (0 + 1))) := by
              show OutT _ _ _ _
              rw [HT.out]
              exact ⟨hO3.1, hO3.2.elim .inl (fun ⟨g, cap, cur, hv, hg, r⟩ => .inr ⟨g, cap, cur, hv, by simp at hg; omega, r⟩)⟩
            have hba := (HB.out.alloc hszB (.cells #[.int .u8 120] 5))
            have HB3 := Lib.hid (hba.trans (hb3.mono hba.size))
            have HMK3 := Lib.hid ((HMK.out.alloc (.cells #[.int .u8 120] 5)).below hb3 (HMK.out.alloc _).lt)
            have HR3 := Lib.hid hr3
            clear ht hr3 hO3 hb3 hba HMK HB
            go_wp2_with (at_builtin; refine Lib.wpList_append_run _ rfl _ _ _ _ rfl _ _ rfl rfl _ _ HR3.out ?_)
            go_roundw
            case rel => exact ⟨0 + 1, v', by omega, by go_num, rfl, .inl HO3, HMK3, HB3⟩
            case measure => simp [intOf]; omega
        | false =>
          rcases HOO with HO | ⟨rfl, g0, hg0, rfl, HLIT⟩
          · have HT := Lib.hid (textL_no (ring := true) ht)
            have HL := Lib.hid (textL_len true S k)
            have hne1 := Lib.hid (own_ne8 HO.out HMK.out (by decide))
            have hblk : Hid (∀ k', v.ownBlock = some k' → w.heap.size ≤ k') := by
              show ∀ _, _
              intro k' hk'
              exact (HO.out.lt k' hk').1
            obtain ⟨l, vs, hl, hvs, hown⟩ : ∃ l vs, (textL true S k).length = l ∧ u8v (textL true S k) = vs ∧ wr.ownsRow w.heap.size 5 1 v l vs := ⟨_, _, rfl, rfl, HO.out⟩
            have hlk := HL.out
            rw [hl] at hlk
            have hlk2 : l ≤ 5 + k := by omega
            have hsz2 := HMK.out.lt
            have hszB := HB.out.size
            replace hl := Lib.hid hl
            replace hvs := Lib.hid hvs
            clear ht hlk
            go_wp2_with (at_builtin; refine wpList_append_own _ rfl _ _ 75 rfl w.heap.size 5 i0 (.int .u8 0) 1 1 Try.underlying75 hi0 hz0 hz1 hz2 rfl (by decide) _ _ _ rfl (hown.alloc _) ⟨wr.heap.size, 0, none⟩ 1 1 [.int .u8 46] rfl rfl (cell_one_new _ _ _) (fun x hx => by simp at hx; subst hx; rfl) (by unfold maxLen; omega) (by omega) (by simp; omega) ?_; intro v' w3 hown' hgrow3 hnil3)
            have hG : Below w.heap.size wr w3 := ((Below.refl w.heap.size wr).alloc (by omega) _).grown hgrow3 (by simp; omega) hblk.out
            have HO3 : Hid (OutT w.heap.size w3 v' (textL true S (k + 1))) := by
              show w3.ownsRow _ _ _ _ _ _
              rw [HT.out, List.length_append, hl.out]
              unfold u8v
              rw [List.map_append]
              show w3.ownsRow _ _ _ _ _ (u8v _ ++ _)
              rw [hvs.out]
              exact hown'
            have HMK3 := Lib.hid (OwnArr.grown (HMK.out.alloc _) hgrow3 hne1.out)
            have HB3 := Lib.hid (HB.out.trans hG)
            clear hown' hgrow3 hnil3 hown hG HO HMK HB
            go_wp2_with fail
            go_roundw
            case rel => exact ⟨k + 1, v', by omega, by go_num, rfl, .inl HO3, HMK3, HB3⟩
            case measure => simp [intOf]; omega
          · have HT := Lib.hid (textL_no (ring := true) ht)
            have hgl := grow_lit (wr.alloc (.cells #[.int .u8 46] 5)) g0 (textL true S 0) 46 (by
              intro j u hu
              have hcell := HLIT.out j u hu
              rw [Addr.add_lit] at hcell ⊢
              rw [World.cell?_alloc_past (w := wr) _ g0 _ hg0]
              exact hcell) ⟨wr.heap.size, 0, none⟩ (by rw [Addr.add_lit]; exact ((OwnArr.made wr 5 [.int .u8 46]).cell 0)) (by rw [textL_len]; omega)
            rw [textL_len] at hgl
            obtain ⟨v', w3, hr3, hO3, hb3⟩ := hgl
            have hszB := HB.out.size
            have HO3 : Hid (OutT w.heap.size w3 v' (textL true S (0 + 1))) := by
              show OutT _ _ _ _
              rw [HT.out]
              exact ⟨hO3.1, hO3.2.elim .inl (fun ⟨g, cap, cur, hv, hg, r⟩ => .inr ⟨g, cap, cur, hv, by simp at hg; omega, r⟩)⟩
            have hba := (HB.out.alloc hszB (.cells #[.int .u8 46] 5))
            have HB3 := Lib.hid (hba.trans (hb3.mono hba.size))
            have HMK3 := Lib.hid ((HMK.out.alloc (.cells #[.int .u8 46] 5)).below hb3 (HMK.out.alloc _).lt)
            have HR3 := Lib.hid hr3
            clear ht hr3 hO3 hb3 hba HMK HB
            go_wp2_with (at_builtin; refine Lib.wpList_append_run _ rfl _ _ _ _ rfl _ _ rfl rfl _ _ HR3.out ?_)
            go_roundw
            case rel => exact ⟨0 + 1, v', by omega, by go_num, rfl, .inl HO3, HMK3, HB3⟩
            case measure => simp [intOf]; omega
      · have hkn : k = n := by omega
        subst hkn
        have HO := HOO.resolve_right (fun h => by have := h.1; omega)
        clear HOO
        obtain ⟨g', c', e, hcell⟩ := HO.out.bytes (by rw [textL_len]; omega)
        subst e
        have hcv := run_convert_bytes_back (P := Try.prog) wr 75 9 5 ⟨g', 0, none⟩ c' (textL true S k) Try.underlying75 Try.underlying5 Try.underlying9 hcell
        rw [textL_back, textL_len] at hcv
        rw [textL_len] at *
        clear hcell
        go_wp2_with fail
        go_ret2
        exact ⟨rfl, HB.out⟩

end Go.Proofs.Ytbgmfjhcgfnfoaa
