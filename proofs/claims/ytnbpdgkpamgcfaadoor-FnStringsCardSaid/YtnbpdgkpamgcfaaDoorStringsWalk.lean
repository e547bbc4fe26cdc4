/- FnStrings' walk. -/
import Derived.Test.YtnbpdgkpamgcfaaDoorBoth
import Derived.Test.YtnbpdgkpamgcfaaDoorDraw1
import Derived.Test.YtnbpdgkpamgcfaaDoorByteRow
import Derived.StillTailTactics
namespace Go.Proofs.YtnbpdgkpamgcfaaDoor.strings
open Go.RowKit

theorem xor_byte (c : UInt8) (ev : Nat) (h : ev ≤ 254) : ∃ d : UInt8, bits BinOp.xor IntKind.u8 (c.toNat : Int) (1 + (ev : Int)) = (d.toNat : Int) ∧ c ≠ d := by
  have h1 := c.toNat_lt
  have hx := u8_xor_nat c.toNat (1 + ev) (by omega) (by omega)
  refine ⟨c ^^^ UInt8.ofNat (1 + ev), ?_, ?_⟩
  · have e : ((1 + ev : Nat) : Int) = 1 + (ev : Int) := by omega
    rw [e] at hx
    rw [hx, UInt8.toNat_xor]
    have e2 : (UInt8.ofNat (1 + ev)).toNat = 1 + ev := by simp; omega
    rw [e2]
  · intro e
    have e2 : (UInt8.ofNat (1 + ev)).toNat = 1 + ev := by simp; omega
    have e3 : c ^^^ c = c ^^^ (c ^^^ UInt8.ofNat (1 + ev)) := by rw [← e]
    rw [UInt8.xor_self, ← UInt8.xor_assoc, UInt8.xor_self, UInt8.zero_xor] at e3
    rw [← e3] at e2
    have : (0 : UInt8).toNat = 0 := rfl
    omega
theorem changed_at {Y : ByteArray} (hch : ∀ (y' : ByteArray) (a b : List UInt8) (c d : UInt8), Y.data.toList = a ++ c :: b → y'.data.toList = a ++ d :: b → c ≠ d → ¬ VOk y') (k : Nat) (hk : k < Y.size) (c d : UInt8) (hc : Y.data.toList[k]?.getD 0 = c) (hcd : c ≠ d) :
    ¬ VOk ⟨(Y.data.toList.set k d).toArray⟩ := by
  have hl : k < Y.data.toList.length := by rw [← Lib.size_eq]; exact hk
  rw [List.getElem?_eq_getElem hl, Option.getD_some] at hc
  refine hch _ (Y.data.toList.take k) (Y.data.toList.drop (k + 1)) c d ?_ ?_ hcd
  · rw [← hc]
    have := List.take_append_drop k Y.data.toList
    rw [List.drop_eq_getElem_cons hl] at this
    exact this.symm
  · rw [List.toList_toArray, List.set_eq_take_append_cons_drop, if_pos hl]

set_option maxRecDepth 100000 in
set_option maxHeartbeats 4000000 in
theorem walk (p : Option Addr) (cap : Nat) (bs : List UInt8) (w : World) (hin : InBytes w p bs) (hT : TabOk w) :
    Calls Tryd.prog 3 #[.slice p bs.length cap] w fun e w' => e = .returned (.bool true) ∧ Below w.heap.size w w' := by
  have hlen := hin.len
  by_cases hbig : 65536 < bs.length
  · have hb : decide (65536 < (bs.length : Int)) = true := decide_eq_true (by omega)
    obtain ⟨n, hn⟩ : ∃ n, bs.length = n := ⟨_, rfl⟩
    rw [hn] at hlen hbig hb ⊢
    clear hin hn
    go_enter Tryd.func3, Tryd.ntmps3
    go_wp2_with fail
    refine (vBig_any p n cap w hlen).mono ?_
    rintro e w' ⟨rfl, rfl⟩
    rw [hb]
    go_wp2_with fail
    go_ret
    exact ⟨rfl, Below.refl _ _⟩
  · have hb : decide (65536 < (bs.length : Int)) = false := decide_eq_false (by omega)
    have D1 := fun w' (h : Below w.heap.size w w') => drawFormat_any p cap bs w' (hin.below h)
    have D2 := fun w' (h : Below w.heap.size w w') => drawParse_any p cap bs w' (hin.below h)
    have D3 := fun w' (h : Below w.heap.size w w') => drawSeal_any p cap bs w' (hin.below h)
    have D4 := fun (k : Nat) (hk : k ≤ 1000000) w' (h : Below w.heap.size w w') => vAt_any p cap bs k w' (hin.below h) hk (by omega)
    have D5 := vBig_any p bs.length cap w hlen
    obtain ⟨n, hn⟩ : ∃ n, bs.length = n := ⟨_, rfl⟩
    rw [hn] at hlen hbig hb D1 D2 D3 D4 D5 ⊢
    replace D1 := Lib.hid D1
    replace D2 := Lib.hid D2
    replace D3 := Lib.hid D3
    replace D4 := Lib.hid D4
    replace D5 := Lib.hid D5
    replace hT := Lib.hid hT
    clear hin hn
    go_enter Tryd.func3, Tryd.ntmps3
    go_wp2_with fail
    refine D5.out.mono ?_
    rintro e w' ⟨rfl, rfl⟩
    rw [hb]
    clear hb hlen D5
    go_wp2_with fail
    refine (D1.out _ (Below.refl _ _)).mono ?_
    rintro e w1 ⟨x1, ⟨hx1, hx2⟩, rfl, hb1⟩
    go_wp2_with fail
    refine (formatI_any x1 w1 (hT.out.below hb1)).mono ?_
    rintro e w2 ⟨rfl, hb2⟩
    replace hb2 := hb1.trans (hb2.mono hb1.size)
    clear hb1
    go_wp2_with fail
    refine (formatS_any x1 w2).mono ?_
    rintro e w3 ⟨rfl, hb3⟩
    replace hb3 := hb2.trans (hb3.mono hb2.size)
    clear hb2
    go_wp2_with fail
    refine (D2.out _ hb3).mono ?_
    rintro e w4 ⟨t, ht, rfl, hb4⟩
    replace hb4 := hb3.trans (hb4.mono hb3.size)
    clear hb3
    obtain ⟨pv, pb, PS, PI, _⟩ := parse_both t (by omega)
    replace PS := Lib.hid PS
    replace PI := Lib.hid PI
    go_wp2_with fail
    refine (PI.out w4 (hT.out.below hb4)).mono ?_
    rintro e w5 ⟨rfl, hb5⟩
    replace hb5 := hb4.trans (hb5.mono hb4.size)
    clear hb4
    go_wp2_with fail
    refine (PS.out w5).mono ?_
    rintro e w6 ⟨rfl, hb6⟩
    replace hb6 := hb5.trans (hb6.mono hb5.size)
    clear hb5 PS PI
    go_wp2_with fail
    refine (D3.out _ hb6).mono ?_
    rintro e w7 ⟨x, hx, rfl, hb7⟩
    replace hb7 := hb6.trans (hb7.mono hb6.size)
    clear hb6
    obtain ⟨y, yb, AS, AI, hy⟩ := app_both x (by omega)
    replace AS := Lib.hid AS
    replace AI := Lib.hid AI
    replace hy := Lib.hid hy
    go_wp2_with fail
    refine (AI.out w7 (hT.out.below hb7)).mono ?_
    rintro e w8 ⟨rfl, hb8⟩
    replace hb8 := hb7.trans (hb8.mono hb7.size)
    clear hb7
    go_wp2_with fail
    refine (AS.out w8).mono ?_
    rintro e w9 ⟨rfl, hb9⟩
    replace hb9 := hb8.trans (hb9.mono hb8.size)
    clear hb8 AS AI
    have hfl : (fmtS x1).size ≤ 1000000 := fmt_len x1
    obtain ⟨v2, b2, _, PI2, hnum⟩ := parse_both (fmtS x1) (by omega)
    have hin2 : (fmtIn x1 = true ∧ v2 = x1 ∧ b2 = true) ∨ fmtIn x1 = false := by
      by_cases hi : -999999 ≤ x1 ∧ x1 ≤ 999999
      · have := hnum x1 ⟨(fmtS_in hi).symm, hi.1, hi.2⟩
        exact Or.inl ⟨fmtIn_in hi, this.1, this.2⟩
      · exact Or.inr (fmtIn_out hi)
    replace PI2 := Lib.hid PI2
    clear hnum
    go_wp2_with fail
    refine (PI2.out w9 (hT.out.below hb9)).mono ?_
    rintro e w10 ⟨rfl, hb10⟩
    replace hb10 := hb9.trans (hb10.mono hb9.size)
    clear hb9 PI2 hfl
    rcases hy.out with ⟨rfl, hok, rfl⟩ | ⟨rfl, rfl⟩
    · clear hy
      have hvok := sealed_ok hok
      have hfst := sealed_first hok
      have hYl := seal_list x
      have hch := fun (y' : ByteArray) (a b : List UInt8) (c d : UInt8) => changed_not_ok (x := x) (y := y') hok a b c d
      obtain ⟨Y, hY⟩ : ∃ Y, sealS x = Y := ⟨_, rfl⟩
      rw [hY] at hvok hfst hYl hch ⊢
      have hYz : Y.size ≤ 4000 := hvok.1
      have hYp : 0 < Y.size := by rw [Lib.size_eq, hYl]; simp; omega
      replace hvok := Lib.hid hvok
      replace hfst := Lib.hid hfst
      replace hch := Lib.hid hch
      clear hYl hY hok
      have D49 := D4.out 9 (by omega)
      have D410 := D4.out 10 (by omega)
      have hA0 := (vAtV_bd bs 9).1
      have hE0 := (vAtV_bd bs 10).1
      have hE1 := (vAtV_bd bs 10).2
      obtain ⟨va, hva⟩ : ∃ va, vAtV bs 9 = va := ⟨_, rfl⟩
      obtain ⟨ve, hve⟩ : ∃ ve, vAtV bs 10 = ve := ⟨_, rfl⟩
      rw [hva] at D49 hA0
      rw [hve] at D410 hE0 hE1
      replace D49 := Lib.hid D49
      replace D410 := Lib.hid D410
      clear D4 hva hve D1 D2 D3
      obtain ⟨k, hk⟩ : ∃ k : Nat, va % (Y.size : Int) = (k : Int) := ⟨(va % (Y.size : Int)).toNat, by have := Int.emod_nonneg va (show (Y.size : Int) ≠ 0 by omega); omega⟩
      have hkY : k < Y.size := by have := Int.emod_lt_of_pos va (show (0 : Int) < (Y.size : Int) by omega); omega
      rcases hin2 with ⟨hf, rfl, rfl⟩ | hf
      all_goals
        go_wp2_with fail
        refine (verI_yes Y w10 hvok.out (hT.out.below hb10)).mono ?_
        rintro e w11 ⟨rfl, hb11⟩
        rw [hfst.out]
        replace hb11 := hb10.trans (hb11.mono hb10.size)
        clear hb10
        have hcv := Lib.run_convert_string_bytes (P := Tryd.prog) w11 9 22 5 Y Tryd.underlying9 Tryd.underlying22 Tryd.underlying5
        have hrow := byteRow_made w11 5 Y
        have hbw := below_bytes w11 5 Y
        obtain ⟨w12, hw12⟩ : ∃ w12, Lib.bytesWorld w11 5 Y = w12 := ⟨_, rfl⟩
        obtain ⟨C, hC⟩ : ∃ C, grownCap w11 Y.size 0 5 = C := ⟨_, rfl⟩
        rw [hw12] at hcv hrow hbw
        rw [hC] at hcv
        clear hw12 hC
        replace hrow := Lib.hid hrow
        have hb12 := hb11.trans (hbw.mono hb11.size)
        go_wp2_with fail
        refine (D49.out w12 hb12).mono ?_
        rintro e w13 ⟨rfl, hw13⟩
        obtain rfl := hw13.symm
        have hkl : k < Y.data.toList.length := by rw [← Lib.size_eq]; exact hkY
        have hck := hrow.out.cell k hkl
        have hfk := hrow.out.free k hkl
        obtain ⟨c, hcY⟩ : ∃ c, Y.data.toList[k]?.getD 0 = c := ⟨_, rfl⟩
        rw [hcY] at hck
        obtain ⟨hcb1, hcb2⟩ := byte_bd c
        obtain ⟨ev, hev⟩ : ∃ ev : Nat, ve % 255 = (ev : Int) := ⟨(ve % 255).toNat, by have := Int.emod_nonneg ve (show (255 : Int) ≠ 0 by omega); omega⟩
        have hev1 : ev ≤ 254 := by have := Int.emod_lt_of_pos ve (show (0 : Int) < 255 by omega); omega
        have hke : (0 : Int) ≤ (k : Int) := by omega
        have hkf : (k : Int) < (Y.size : Int) := by omega
        replace hcY := Lib.hid hcY
        go_wp2_with fail
        refine wp_region_still_tail 13 (by kernel_rfl) (by kernel_rfl) ?_
        simp only [List.take_succ_cons, List.take_zero, List.drop_succ_cons, List.drop_zero]
        change wpStill _ _ w12.drew _ _ _
        obtain ⟨w14, hw14⟩ : ∃ w14, w12.drew = w14 := ⟨_, rfl⟩
        have hb14 : Below w.heap.size w w14 := by rw [← hw14]; exact hb12.drew
        have hck14 : w14.cell? ⟨w11.heap.size, k, none⟩ = some (.int .u8 (c.toNat : Int)) := by rw [← hw14]; exact hck
        have hfk14 : w14.frozen? ⟨w11.heap.size, k, none⟩ = false := by rw [← hw14]; exact hfk
        have hrow14 : Hid (ByteRow w14 w11.heap.size Y.data.toList) := by rw [← hw14]; exact hrow.out.drew
        have D14 := D410.out w14 hb14
        rw [hw14]
        replace hw14 := Lib.hid hw14
        clear hck hfk hrow hb12
        repeat still_step
        still_call D14
        repeat still_step
        refine wpStill_nil ?_
        change wpList _ _ _ _ _ w12.drew
        rw [hw14.out]
        obtain ⟨d, hxor, hcd⟩ := xor_byte c ev hev1
        have hrow15 := hrow14.out.set k d
        have hcv15 := row_text hrow15 C
        rw [List.length_set, ← Lib.size_eq] at hcv15
        have hno := changed_at (Y := Y) hch.out k hkY c d hcY.out hcd
        obtain ⟨Y', hY'⟩ : ∃ Y' : ByteArray, (⟨(Y.data.toList.set k d).toArray⟩ : ByteArray) = Y' := ⟨_, rfl⟩
        rw [hY'] at hcv15 hno
        have hY'z : Y'.size ≤ 4000 := by
          rw [← hY', Lib.size_eq]
          simp only [List.length_set]
          rw [← Lib.size_eq]
          exact hYz
        have hb15 : Below w.heap.size w (w14.setCell ⟨w11.heap.size, k, none⟩ (.int .u8 (d.toNat : Int))) := hb14.setCell (p := ⟨w11.heap.size, k, none⟩) hb11.size _
        replace hno := Lib.hid hno
        clear hrow15 hrow14 hcY hcd hY' hb14 hch
        go_wp2_with fail
        refine (verI_no Y' _ hno.out (by omega) (hT.out.below hb15)).mono ?_
        rintro e w16 ⟨rfl, hb16⟩
        go_wp2_with fail
        go_ret
        exact ⟨rfl, hb15.trans (hb16.mono hb15.size)⟩
    · clear hy
      rcases hin2 with ⟨hf, rfl, rfl⟩ | hf
      all_goals
        go_wp2_with fail
        go_ret
        exact ⟨rfl, hb10⟩
end Go.Proofs.YtnbpdgkpamgcfaaDoor.strings
