/- Chapter 5, spec side: spec.WrongMean. -/
import Derived.Test.YtadonbnnolfbdaaOwnP
namespace Go.Proofs.Ytadonbnnolfbdaa
open Go.RowKit

/-- the mean of wrong ones among the first j travelers, and all others -/
def wrongR (n k : Nat) : Nat → Rat
  | 0 => (n : Rat)
  | j + 1 => wrongR n k j + -(ownR n k j)
/-- the numbers that the sums meet are small -/
def wrongOk (n k j : Nat) : Bool :=
  decide ((wrongR n k j).num.natAbs * (-(ownR n k j)).den ≤ 1152921504606846976) && (decide ((-(ownR n k j)).num.natAbs * (wrongR n k j).den ≤ 1152921504606846976) && decide ((wrongR n k j).den * (-(ownR n k j)).den ≤ 4611686018427387904))
theorem wrong_ok : (List.range 13).all (fun n => (List.range (n + 1)).all (fun k => (List.range n).all (fun j => wrongOk n k j))) = true := by decide +kernel
theorem wrong_bound {n k j : Nat} (hn : n ≤ 12) (hk : k ≤ n) (hj : j < n) : wrongOk n k j = true := by
  have h := wrong_ok
  rw [List.all_eq_true] at h
  have h1 := h n (List.mem_range.2 (by omega))
  rw [List.all_eq_true] at h1
  have h2 := h1 k (List.mem_range.2 (by omega))
  rw [List.all_eq_true] at h2
  exact h2 j (List.mem_range.2 hj)

/-- the mean of wrong ones, or 0 where numbers are not valid -/
def wrongM (n k : Int) : Rat := wrongR n.toNat k.toNat n.toNat

set_option maxRecDepth 4000 in
set_option maxHeartbeats 1600000 in
theorem wrongMeanS_any (n k : Int) (w : World) :
    Calls Try.prog 12 #[.int .i64 n, .int .i64 k] w (MadeFr w (if good5 n k then (wrongM n k).num else 0) (if good5 n k then (((wrongM n k).den : Nat) : Int) else 0) (good5 n k)) := by
  have G := l5Good_any n k
  have HZ1 : Hid (OwnArr (w.alloc (.cells #[.int .i64 0, .int .i64 0] 22)) w.heap.size 22 [.int .i64 0, .int .i64 0]) := OwnArr.made w _ [_, _]
  have HB1 : Hid (Below w.heap.size w (w.alloc (.cells #[.int .i64 0, .int .i64 0] 22))) := (Below.refl _ _).alloc (Nat.le_refl _) _
  unfold MadeFr
  cases hg : good5 n k with
  | false =>
    rw [hg] at G
    replace G := Lib.hid G
    simp only [Bool.false_eq_true, if_false]
    clear hg
    obtain ⟨z0, z1, y0, y1⟩ := boxed_fr HZ1.out
    go_enter Try.func12, Try.ntmps12
    go_wp2_with fail
    refine (G.out _).mono ?_
    rintro e w1 ⟨rfl, rfl⟩
    go_wp2_with fail
    exact ret_fr2 Try.results12 rfl rfl HZ1.out rfl ⟨rfl, HB1.out⟩
  | true =>
    obtain ⟨a, b, rfl, rfl, h1, h2, h3⟩ := good5_is hg
    rw [hg] at G
    replace G := Lib.hid G
    simp only [if_true]
    have HWM : Hid (wrongM (a : Int) (b : Int) = wrongR a b a) := by show _ = _; unfold wrongM; simp
    obtain ⟨wb, hwb⟩ : ∃ wb, (w.alloc (.cells #[.int .i64 0, .int .i64 0] 22)).alloc (.cells #[.int .i64 (a : Int), .int .i64 1] 22) = wb := ⟨_, rfl⟩
    have hZ : OwnArr wb w.heap.size 22 [.int .i64 0, .int .i64 0] := by rw [← hwb]; exact (OwnArr.made w _ [_, _]).alloc _
    have hX : OwnArr wb (w.heap.size + 1) 22 [.int .i64 (wrongR a b 0).num, .int .i64 (((wrongR a b 0).den : Nat) : Int)] := by rw [← hwb]; exact OwnArr.mk' rfl (by simp)
    have hB : Below w.heap.size w wb := by rw [← hwb]; exact ((Below.refl _ _).alloc (Nat.le_refl _) _).alloc (by simp) _
    have HZ0 := Lib.hid hZ
    have HX0 := Lib.hid hX
    have HB0 := Lib.hid hB
    have HW := Lib.hid hwb
    clear hg hZ hX hB hwb HZ1 HB1
    go_enter Try.func12, Try.ntmps12
    go_wp2_with fail
    refine (G.out _).mono ?_
    rintro e w1 ⟨rfl, rfl⟩
    clear G
    go_upto_region 4 with fail
    rw [HW.out]
    go_wp2_with fail
    go_loopw [7, 8] (fun i _ wr => ∃ (j : Nat), j ≤ a ∧ i = .int .i64 j ∧ Hid (OwnArr wr w.heap.size 22 [.int .i64 0, .int .i64 0]) ∧ Hid (OwnArr wr (w.heap.size + 1) 22 [.int .i64 (wrongR a b j).num, .int .i64 (((wrongR a b j).den : Nat) : Int)]) ∧ Hid (Below w.heap.size w wr)) (fun i _ _ => a - (intOf i).toNat)
    case atStart => exact ⟨0, Nat.zero_le _, rfl, HZ0, HX0, HB0⟩
    case round =>
      obtain ⟨j, hj, rfl, HZ, HX, HB⟩ := hrel
      clear HZ0 HX0 HB0 HW
      by_cases hlt : j < a
      · have hj1 : (j : Int) < (a : Int) := by omega
        have hbd := wrong_bound h2 h3 hlt
        unfold wrongOk at hbd
        simp only [Bool.and_eq_true, decide_eq_true_eq] at hbd
        have O := l5Own_any a b j h2 h3 hlt
        have P := l2Plus_any (wrongR a b j) (-(ownR a b j)) hbd.1 hbd.2.1 hbd.2.2
        have hn1 : (wrongR a b j + -(ownR a b j)) = wrongR a b (j + 1) := rfl
        rw [hn1] at P
        unfold ratV at O P
        rw [Rat.neg_num, Rat.neg_den] at P
        have hnb : (ownR a b j).num.natAbs ≤ 1152921504606846976 := by
          have := hbd.2.1
          rw [Rat.neg_num, Int.natAbs_neg] at this
          have h0 := (wrongR a b j).den_pos
          exact Nat.le_trans (Nat.le_mul_of_pos_right _ h0) this
        obtain ⟨S, hS⟩ : ∃ S, wrongR a b (j + 1) = S := ⟨_, rfl⟩
        rw [hS] at P
        have HS := Lib.hid hS
        obtain ⟨x, hx⟩ : ∃ x, (wrongR a b j).num = x := ⟨_, rfl⟩
        obtain ⟨y, hy⟩ : ∃ y : Nat, (wrongR a b j).den = y := ⟨_, rfl⟩
        obtain ⟨u, hu⟩ : ∃ x, (ownR a b j).num = x := ⟨_, rfl⟩
        obtain ⟨v, hv⟩ : ∃ y : Nat, (ownR a b j).den = y := ⟨_, rfl⟩
        rw [hx, hy] at P HX
        rw [hu, hv] at P O
        rw [hu] at hnb
        have hwn : IntKind.i64.wrap (-u) = -u := IntWalk.i64_in _ (by omega)
        replace O := Lib.hid O
        replace P := Lib.hid P
        clear hbd hn1 hS hx hy hu hv
        go_wp2_with fail
        refine (O.out _).mono ?_
        rintro e w2 ⟨rfl, hb2⟩
        have hb3 := hb2.alloc hb2.size (.cells #[.int .i64 u, .int .i64 (v : Int)] 22)
        have HZ2 := Lib.hid (HZ.out.below hb3 HZ.out.lt)
        have HX2 := Lib.hid (HX.out.below hb3 HX.out.lt)
        have HB2 := Lib.hid (HB.out.trans (hb3.mono HB.out.size))
        have HO2 := Lib.hid (OwnArr.made w2 22 [.int .i64 u, .int .i64 (v : Int)])
        clear HZ HX HB hb2 hb3 O
        obtain ⟨x0, x1, -⟩ := boxed_fr HX2.out
        obtain ⟨o0, o1, -⟩ := boxed_fr HO2.out
        go_wp2_with fail
        refine (P.out _).mono ?_
        rintro e w3 ⟨rfl, hb3⟩
        have HZ3 := Lib.hid (HZ2.out.below hb3 HZ2.out.lt)
        have HX3 := Lib.hid (HX2.out.below hb3 HX2.out.lt)
        have HB3 := Lib.hid (HB2.out.trans (hb3.mono HB2.out.size))
        have hz5 := (HZ3.out.other (a := ⟨w.heap.size + 1, 0, none⟩) (by show w.heap.size ≠ w.heap.size + 1; omega) (.int .i64 S.num)).other (a := ⟨w.heap.size + 1, 1, none⟩) (by show w.heap.size ≠ w.heap.size + 1; omega) (.int .i64 ((S.den : Nat) : Int))
        have hx5 := (HX3.out.set 0 (.int .i64 S.num)).set 1 (.int .i64 ((S.den : Nat) : Int))
        have hb5 := (HB3.out.setCell (p := ⟨w.heap.size + 1, 0, none⟩) (Nat.le_succ _) (.int .i64 S.num)).setCell (p := ⟨w.heap.size + 1, 1, none⟩) (Nat.le_succ _) (.int .i64 ((S.den : Nat) : Int))
        have HZ5 := Lib.hid hz5
        have HX5 : Hid (OwnArr ((w3.setCell ⟨w.heap.size + 1, 0, none⟩ (.int .i64 S.num)).setCell ⟨w.heap.size + 1, 1, none⟩ (.int .i64 ((S.den : Nat) : Int))) (w.heap.size + 1) 22 [.int .i64 (wrongR a b (j + 1)).num, .int .i64 (((wrongR a b (j + 1)).den : Nat) : Int)]) := by show OwnArr _ _ _ _; rw [HS.out]; exact hx5
        have HB5 := Lib.hid hb5
        clear HZ2 HX2 HB2 hb3 HZ3 HB3 hz5 hx5 hb5 P x0 x1 o0 o1 HS HO2
        obtain ⟨x0, x1, y0, y1⟩ := boxed_fr HX3.out
        go_wp2_with fail
        go_roundw
        case rel => exact ⟨j + 1, by omega, by go_num, HZ5, HX5, HB5⟩
        case measure => simp [intOf]; omega
      · have hja : j = a := by omega
        subst hja
        have hj1 : ¬ (j : Int) < (j : Int) := by omega
        obtain ⟨S, hS⟩ : ∃ S, wrongR j b j = S := ⟨_, rfl⟩
        have hwm := HWM.out
        rw [hS] at HX hwm
        have HWM2 := Lib.hid hwm
        obtain ⟨x0, x1, -⟩ := boxed_fr HX.out
        obtain ⟨z0, z1, y0, y1⟩ := boxed_fr HZ.out
        clear hS HWM hwm
        go_wp2_with fail
        exact ret_fr2 Try.results12 rfl rfl ((HZ.out.set 0 _).set 1 _) rfl ⟨by rw [HWM2.out]; rfl, (HB.out.setCell (p := ⟨w.heap.size, 0, none⟩) (Nat.le_refl _) _).setCell (p := ⟨w.heap.size, 1, none⟩) (Nat.le_refl _) _⟩
end Go.Proofs.Ytadonbnnolfbdaa
