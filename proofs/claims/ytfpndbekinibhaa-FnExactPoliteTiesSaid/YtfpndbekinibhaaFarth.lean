/- impl.farthest: of some seats those that are farthest. -/
import Derived.Test.YtfpndbekinibhaaPolM
import Derived.Test.YtfpndbekinibhaaApp
import Derived.Test.YtfpndbekinibhaaOut
namespace Go.Proofs.Ytfpndbekinibhaa
open Go.RowKit

theorem atM_nil (g : Nat → Nat) (m : Nat) : atM g [] m = [] := rfl
theorem lit_out (w : World) (x : Nat) : Out w.heap.size (w.alloc (.cells #[.int .i64 (x : Int)] 3)) (.slice (some ⟨w.heap.size, 0, none⟩) 1 1) (ints [x]) :=
  own_lit [.int .i64 (x : Int)] 1 1 rfl (by unfold maxLen; omega)
theorem atM_len (g : Nat → Nat) (l : List Nat) (m : Nat) : (ints (atM g l m)).length ≤ l.length := by
  rw [ints_length]; exact List.length_filter_le _ _

set_option maxRecDepth 4000 in
set_option maxHeartbeats 2000000 in
theorem farthest_any (g : Nat → Nat) (n : Nat) (rv : Value) (l : List Nat) (q : Option Addr) (c : Nat) (least : Nat) (w : World) (lo hi : Nat) (hin : Ri lo hi w q (ints l)) (hl : ∀ x ∈ l, x < n) (hll : l.length ≤ 24) (hg : ∀ x, g x ≤ 24) (hle : least ≤ 24)
    (hG : ∀ a, a < n → ∀ w', Below w.heap.size w w' → Calls Try.prog 70 #[rv, .int .i64 a] w' fun e w'' => e = .returned (.int .i64 (g a : Nat)) ∧ Below w'.heap.size w' w'') :
    Calls Try.prog 69 #[.slice q l.length c, .func (.func 70) #[rv] #[], .int .i64 least] w fun e w' => ∃ v, e = .returned v ∧ Out w.heap.size w' v (ints (atM g l (mostM g l least))) ∧ Below w.heap.size w w' := by
  have HI := Lib.hid hin
  have HL := Lib.hid hl
  have HGT := Lib.hid hg
  have G := Lib.hid hG
  obtain ⟨k0, hk0⟩ : ∃ k, l.length = k := ⟨_, rfl⟩
  rw [hk0] at hll ⊢
  have HM := Lib.hid hk0
  have HO0 : Hid (Out w.heap.size (w.alloc (.cells #[] 3)) (.slice (some ⟨w.heap.size, 0, none⟩) 0 0) (ints (atM g (l.take 0) least))) := Out.nilLit w
  have HB0 := Lib.hid ((Below.refl w.heap.size w).alloc (Nat.le_refl _) (.cells #[] 3))
  clear hin hl hk0 hg hG
  go_enter Try.func69, Try.ntmps69
  go_wp2_with fail
  go_loopw [2, 7, 9, 10, 14, 21, 28] (fun d v _ _ i _ _ wr => ∃ (M k : Nat), k ≤ k0 ∧ M ≤ 24 ∧ i = .int .i64 k ∧ d = .int .i64 M ∧ Hid (M = mostM g (l.take k) least) ∧ Hid (Out w.heap.size wr v (ints (atM g (l.take k) M))) ∧ Hid (Below w.heap.size w wr)) (fun _ _ _ _ i _ _ _ => k0 - (intOf i).toNat)
  case atStart => exact ⟨least, 0, Nat.zero_le _, hle, rfl, rfl, rfl, HO0, HB0⟩
  case round =>
    obtain ⟨M, k, hk, hM, rfl, rfl, HF, HO, HB⟩ := hrel
    clear HO0 HB0
    by_cases hlt : k < k0
    · have hk1 : (k : Int) < (k0 : Int) := by omega
      have hkl : k < l.length := by have := HM.out; omega
      obtain ⟨b, off, rfl, -, -, hbw, hc⟩ := HI.out.int (by rw [ints_length]; omega)
      have h0 := (HB.out.cell (p := ⟨b, off + k, none⟩) hbw).trans (hc k (by rw [ints_length]; exact hkl))
      rw [ints_get hkl] at h0
      have hyn := HL.out _ (nat_mem hkl)
      have HT : Hid (l.take (k + 1) = l.take k ++ [l[k]?.getD 0]) := by
        show _ = _
        rw [List.take_succ_eq_append_getElem hkl, List.getElem?_eq_getElem hkl]; rfl
      obtain ⟨y, hy⟩ : ∃ y, l[k]?.getD 0 = y := ⟨_, rfl⟩
      rw [hy] at h0 hyn HT
      have hst : mostM g (l.take (k + 1)) least = max M (g y) := by rw [HT.out, mostM_snoc, ← HF.out]
      have G2 := Lib.hid (G.out y hyn wr HB.out)
      have hle2 := HGT.out y
      have hlen := atM_len g (l.take k) M
      have hlen2 := List.length_take_le k l
      by_cases hgt : M < g y
      · have hmore : Hid (atM g (l.take (k + 1)) (g y) = [y]) := by
          show _ = _
          rw [HT.out]; exact atM_more (b := least) (by rw [← HF.out]; exact hgt)
        have HF2 : Hid (g y = mostM g (l.take (k + 1)) least) := by show _ = _; rw [hst]; omega
        obtain ⟨d, hd⟩ : ∃ d, g y = d := ⟨_, rfl⟩
        rw [hd] at G2 hgt HF2 hmore hle2
        have hI : (M : Int) < (d : Int) := by omega
        clear hd hst HF HT hc hy
        go_wp2_with fail
        refine G2.out.mono ?_
        rintro e w2 ⟨rfl, hb2⟩
        have HB2 := Lib.hid (HB.out.trans (hb2.mono HB.out.size))
        have ho := (lit_out w2 y).mono (by have := HB2.out.size; omega : w.heap.size ≤ _)
        rw [← hmore.out] at ho
        have HO2 := Lib.hid ho
        have HB3 := Lib.hid (HB2.out.alloc HB2.out.size (.cells #[.int .i64 (y : Int)] 3))
        clear HO HB hb2 h0 G2 ho hmore HB2
        go_wp2_with fail
        go_roundw
        case rel => exact ⟨d, k + 1, by omega, by omega, by go_num, rfl, HF2, HO2, HB3⟩
        case measure => simp [intOf]; omega
      · have HF2 : Hid (M = mostM g (l.take (k + 1)) least) := by show _ = _; rw [hst]; omega
        have hI : ¬ (M : Int) < (g y : Int) := by omega
        by_cases heq : g y = M
        · have hsame : Hid (ints (atM g (l.take (k + 1)) M) = ints (atM g (l.take k) M) ++ [(y : Int)]) := by
            show _ = _
            rw [HT.out, atM_same heq, ints_append]; rfl
          rw [heq] at G2 hI
          clear hst HF HT hc hy hgt heq
          go_wp2_with fail
          refine G2.out.mono ?_
          rintro e w2 ⟨rfl, hb2⟩
          have HO2 := Lib.hid (HO.out.below hb2)
          have HB2 := Lib.hid (HB.out.trans (hb2.mono HB.out.size))
          have hs2 := HB2.out.size
          have hblk := Lib.hid (own_block HO2.out)
          clear HO HB hb2 h0 G2
          go_wp2_with (at_builtin; refine wpList_app rfl _ _ rfl w.heap.size _ (ints (atM g (l.take k) M)) rfl (World.ownsRow.alloc HO2.out (.cells #[.int .i64 (y : Int)] 3)) _ 1 1 0 (w2.heap.size + 1) [(y : Int)] rfl (lit_one (OwnArr.made w2 _ [_]) _ (Nat.lt_succ_self _) (by simp)) rfl (by omega) (by simp; omega) ?_; intro v3 w3 hO3 hg3 hn3)
          have hG3 : Below w.heap.size w2 w3 := ((Below.refl w.heap.size w2).alloc (by omega) _).grown hg3 (by simp; omega) hblk.out
          have HB3 := Lib.hid (HB2.out.trans hG3)
          rw [← hsame.out] at hO3
          have HO3 := Lib.hid hO3
          clear hO3 hg3 hn3 hG3 HB2 HO2
          go_wp2_with fail
          go_roundw
          case rel => exact ⟨M, k + 1, by omega, hM, by go_num, rfl, HF2, HO3, HB3⟩
          case measure => simp [intOf]; omega
        · have hless : Hid (atM g (l.take (k + 1)) M = atM g (l.take k) M) := by
            show _ = _
            rw [HT.out]; exact atM_less heq
          obtain ⟨d, hd⟩ : ∃ d, g y = d := ⟨_, rfl⟩
          rw [hd] at G2 hI hle2 heq
          have hne : ((d : Int) == (M : Int)) = false := by simp; omega
          have HO1 : Hid (Out w.heap.size wr u7 (ints (atM g (l.take (k + 1)) M))) := by
            show Out _ _ _ _
            rw [hless.out]; exact HO.out
          clear hd hst HF HT hc hy hgt heq HO hless
          go_wp2_with fail
          refine G2.out.mono ?_
          rintro e w2 ⟨rfl, hb2⟩
          have HO2 := Lib.hid (HO1.out.below hb2)
          have HB2 := Lib.hid (HB.out.trans (hb2.mono HB.out.size))
          clear HO1 HB hb2 h0 G2
          go_wp2_with fail
          go_roundw
          case rel => exact ⟨M, k + 1, by omega, hM, by go_num, rfl, HF2, HO2, HB2⟩
          case measure => simp [intOf]; omega
    · have hkm : l.take k = l := List.take_of_length_le (by have := HM.out; omega)
      have hF := HF.out
      rw [hkm] at hF
      have hO := HO.out
      rw [hkm, hF] at hO
      replace hO := Lib.hid hO
      clear HO HF hkm hF
      go_wp2_with fail
      go_ret
      exact ⟨_, rfl, hO.out, HB.out⟩
end Go.Proofs.Ytfpndbekinibhaa
