/- impl.roundFrom: the marks of so many seats from a first one on, in memory of the call's own. -/
import Derived.Test.YtefbepebgmalpaaConcat
namespace Go.Proofs.Ytefbepebgmalpaa
open Go.RowKit

set_option maxRecDepth 4000 in
set_option maxHeartbeats 2000000 in
theorem roundFrom_any (g n c a m : Nat) (S : Nat → Bool) (w : World) (ho : OwnArr w g 4 (bv (bl n S))) (h1 : 1 ≤ n) (hn : n ≤ 24) (ha : a + m ≤ n + n) (hm : 1 ≤ m) :
    Calls Try.prog 44 #[.slice (some ⟨g, 0, none⟩) n c, .int .i64 a, .int .i64 m] w fun e w' => ∃ q, e = .returned (.slice q m m) ∧ Rd w.heap.size w'.heap.size w' q (bv (bl m fun i => S ((a + i) % n))) ∧ Below w.heap.size w w' := by
  have hglt := ho.lt
  have CC := Lib.hid (fun (h : Nat) (w' : World) (hb : Below w.heap.size w w') (c0 : w'.cell? ⟨h, 0, none⟩ = some (.slice (some ⟨g, 0, none⟩) n c)) (c1 : w'.cell? ⟨h, 1, none⟩ = some (.slice (some ⟨g, 0, none⟩) n c)) (hh : h < w'.heap.size) =>
    concat_any h g 0 n c g 0 n c (bl n S) (bl n S) w' 0 w.heap.size 0 w.heap.size 2 c0 c1 hh
      (by have := Rd.of_own (ho.below hb hglt) (Nat.zero_le g) hglt hb.size n; rwa [List.take_of_length_le (by rw [bv_length, bl_length]; exact Nat.le_refl _)] at this)
      (by have := Rd.of_own (ho.below hb hglt) (Nat.zero_le g) hglt hb.size n; rwa [List.take_of_length_le (by rw [bv_length, bl_length]; exact Nat.le_refl _)] at this) (bl_length n S) (bl_length n S) (by omega) (by omega))
  have HA : Hid (OwnArr (w.alloc (.cells #[.slice (some ⟨g, 0, none⟩) n c, .slice (some ⟨g, 0, none⟩) n c] 46)) w.heap.size 46 [.slice (some ⟨g, 0, none⟩) n c, .slice (some ⟨g, 0, none⟩) n c]) := OwnArr.made w _ [_, _]
  have HB : Hid (Below w.heap.size w (w.alloc (.cells #[.slice (some ⟨g, 0, none⟩) n c, .slice (some ⟨g, 0, none⟩) n c] 46))) := (Below.refl _ w).alloc (Nat.le_refl _) _
  have k1 : (0 : Int) ≤ (a : Int) := by omega
  have k2 : (0 : Int) ≤ (m : Int) := by omega
  have k3 : (a : Int) + (m : Int) ≤ (n : Int) + (n : Int) := by omega
  have k5 : (a : Int) ≤ (a : Int) + (m : Int) := by omega
  have hn' : (n : Int) ≤ 24 := by omega
  clear ho hglt
  go_enter Try.func44, Try.ntmps44
  go_wp2_with fail
  refine (CC.out _ _ HB.out (HA.out.cell 0) (HA.out.cell 1) HA.out.lt).mono ?_
  rintro e w2 ⟨q, k, rfl, hO2, hb2⟩
  obtain ⟨q', k', ys, e, hq1, ho2, hys, hk, -, hyl⟩ := hO2.some' (by simp)
  have hll : (bl n S ++ bl n S).length = n + n := by rw [List.length_append, bl_length]
  rw [hll] at e hys hk
  simp only [Value.slice.injEq, Option.some.injEq, Addr.mk.injEq, and_true, true_and] at e
  obtain ⟨rfl, rfl⟩ := e
  have hq : w.heap.size ≤ q := by have := HB.out.size; omega
  have hR : Hid (Rd w.heap.size w2.heap.size w2 (some ⟨q, a, none⟩) (bv (bl m fun i => S ((a + i) % n)))) := by
    refine ⟨Nat.le_refl _, fun _ => ⟨q, a, rfl, hq, ho2.lt, fun i hi => ?_⟩⟩
    rw [bv_length, bl_length] at hi
    rw [ho2.cell]
    have e1 : ys[a + i]? = (ys.take (n + n))[a + i]? := by rw [List.getElem?_take, if_pos (by omega)]
    rw [e1, hys, ← bl_part (n := n) (S := S) ha]
    have e2 : (bv (((bl n S ++ bl n S).drop a).take m))[i]? = (((bl n S ++ bl n S).drop a).take m)[i]?.map Value.bool := by unfold bv; rw [List.getElem?_map]
    have e3 : (bv (bl n S ++ bl n S))[a + i]? = (bl n S ++ bl n S)[a + i]?.map Value.bool := by unfold bv; rw [List.getElem?_map]
    rw [e2, e3, List.getElem?_take, if_pos hi, List.getElem?_drop]
  have HB2 := Lib.hid (HB.out.trans (hb2.mono HB.out.size))
  have k4 : (a : Int) + (m : Int) ≤ (k : Int) := by omega
  have k6 : ¬ m = 0 := by omega
  have k7 : (0 : Int) ≤ (a : Int) + (m : Int) := by omega
  have k8 : a + m - a = m := by omega
  clear hys hyl ho2 hO2 hb2 hll HA HB CC
  go_wp2_with fail
  go_ret
  refine ⟨some ⟨q, a, none⟩, ?_, hR.out, HB2.out⟩
  show Ending.returned (Value.slice _ (a + m - a) (a + m - a)) = _
  rw [k8]
end Go.Proofs.Ytefbepebgmalpaa
