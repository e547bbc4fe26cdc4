/- Chapter 9, impl side: impl.seatGroup. -/
import Derived.Test.YtogdiahojbonaaaPlcM9
import Derived.Test.YtogdiahojbonaaaRowOf
import Derived.Test.YtogdiahojbonaaaMade0
namespace Go.Proofs.Ytogdiahojbonaaa
open Go.RowKit

/-- the seats from x to before k, too -/
def upTo (S : Nat → Bool) (x k q : Nat) : Bool := S q || (decide (x ≤ q) && decide (q < k))
theorem upTo_self (n : Nat) (S : Nat → Bool) (x : Nat) : bl n (upTo S x x) = bl n S := by
  apply bl_congr
  intro q _
  unfold upTo
  by_cases h : x ≤ q
  · have : ¬ q < x := by omega
    simp [this]
  · simp [h]
theorem upTo_succ (n : Nat) (S : Nat → Bool) {x k : Nat} (h : x ≤ k) : bl n (fun i => if i = k then true else upTo S x k i) = bl n (upTo S x (k + 1)) := by
  apply bl_congr
  intro q _
  unfold upTo
  by_cases e : q = k
  · subst e
    rw [if_pos rfl, decide_eq_true h, decide_eq_true (Nat.lt_succ_self q), Bool.and_self, Bool.or_true]
  · rw [if_neg e]
    congr 2
    exact decide_eq_decide.2 (by omega)

set_option maxRecDepth 4000 in
set_option maxHeartbeats 2000000 in
theorem seatGroup_any (n : Nat) (p : Option Addr) (cap : Nat) (S : Nat → Bool) (Z X : Nat) (w : World) (lo hi : Nat) (hin : Ri lo hi w p (ints (tk n S))) (h2 : 2 ≤ n) (hn : n ≤ 24) (hZ : 1 ≤ Z) (hXZ : X + Z ≤ n) :
    Calls Try.prog 47 #[rowV n false p (ints (tk n S)).length cap, .int .i64 (Z : Int), .int .i64 (X : Int)] w fun e w' => ∃ v, e = .returned (.agg #[.int .i64 n, .bool false, v]) ∧ Out w.heap.size w' v (ints (tk n (upTo S X (X + Z)))) ∧ Below w.heap.size w w' := by
  have w1' : IntKind.i64.wrap ((X : Int) + Z) = (X : Int) + Z := IntWalk.i64_in _ (by omega)
  obtain ⟨Y, hY⟩ : ∃ Y, X + Z = Y := ⟨_, rfl⟩
  have hYi : (X : Int) + Z = (Y : Int) := by omega
  have hXY : X ≤ Y := by omega
  rw [hY] at hXZ ⊢
  rw [hYi] at w1'
  clear hY
  have hE := Beg.start w n false p (ints (tk n S)).length cap
  have MK := Lib.hid (marksOf_any n false p cap S _ lo hi (hin.below hE.bel hin.top) hn)
  have RO := Lib.hid (fun (q : Option Addr) (c : Nat) (w' : World) (lo hi : Nat) (hin : Rd lo hi w' q (bv (bl n (upTo S X Y)))) => rowOf_any n false q c (upTo S X Y) w' lo hi hin (by omega) true (rowB_of h2 hn (by intro h; cases h)))
  have HU0 := Lib.hid (upTo_self n S X)
  have HUS := Lib.hid (fun k (h : X ≤ k) => upTo_succ n S h)
  obtain ⟨m, hm⟩ : ∃ m, (ints (tk n S)).length = m := ⟨_, rfl⟩
  rw [hm] at hE MK ⊢
  have HE := Lib.hid hE
  obtain ⟨c0, c1, c2, -⟩ := HE.out.row.three
  clear hin hm hE
  go_enter Try.func47, Try.ntmps47
  go_wp2_with fail
  refine MK.out.mono ?_
  rintro e w1 ⟨g, rfl, hg, hO, hb1⟩
  rw [← HU0.out] at hO
  have hg2 : w.heap.size + 2 ≤ g := by
    have : w.heap.size + 1 < _ := HE.out.res.lt
    omega
  have HE1 := Lib.hid (HE.out.next hb1)
  have HO1 := Lib.hid hO
  clear HE hb1 hO hg c0 c1 c2 MK HU0
  go_wp2_with fail
  go_loopw [8] (fun i wr => ∃ (k : Nat), X ≤ k ∧ k ≤ Y ∧ i = .int .i64 k ∧ Hid (OwnArr wr g 4 (bv (bl n (upTo S X k)))) ∧ Hid (Beg w n false p m cap wr)) (fun i _ => Y - (intOf i).toNat)
  case atStart => exact ⟨X, Nat.le_refl _, by omega, rfl, HO1, HE1⟩
  case round =>
    obtain ⟨k, hXk, hk, rfl, HO, HE⟩ := hrel
    clear HO1 HE1
    by_cases hlt : k < Y
    · have hk1 : (k : Int) < (Y : Int) := by omega
      have hk0 : (0 : Int) ≤ (k : Int) := by omega
      have hkn : (k : Int) < (n : Int) := by omega
      have hold := HO.out.cell k
      rw [bv_get (by rw [bl_length]; omega)] at hold
      have hfree := HO.out.free k
      have hset := HO.out.set k (.bool true)
      rw [bv_set, bl_set, HUS.out k hXk] at hset
      have HO3 := Lib.hid hset
      have HE3 := Lib.hid (HE.out.next2 ((Below.refl (w.heap.size + 2) wr).setCell (p := ⟨g, k, none⟩) hg2 (.bool true)))
      obtain ⟨y, hy⟩ : ∃ y, ((bl n (upTo S X k))[k]?.getD false) = y := ⟨_, rfl⟩
      rw [hy] at hold
      clear hset hy HO HE
      go_wp2_with fail
      go_roundw
      case rel => exact ⟨k + 1, by omega, by omega, by go_num, HO3, HE3⟩
      case measure => simp [intOf]; omega
    · have hkY : k = Y := by omega
      subst hkY
      have hr := Rd.of_own HO.out (Nat.zero_le _) HO.out.lt (Nat.le_refl _) n
      rw [List.take_of_length_le (by rw [bv_length, bl_length]; exact Nat.le_refl _)] at hr
      have RO2 := RO.out (some ⟨g, 0, none⟩) n wr _ _ hr
      simp only [if_true] at RO2
      replace RO2 := Lib.hid RO2
      clear RO hr HUS HO
      go_wp2_with fail
      refine RO2.out.mono ?_
      rintro e w2 ⟨v, rfl, hO, hb2⟩
      have hO' := hO trivial
      obtain ⟨qv, kv, rfl, -⟩ := hO'.rd
      have HE2 := Lib.hid (HE.out.next hb2)
      have HO2 := Lib.hid (hO'.mono HE.out.bel.size)
      clear HE hO hO' hb2 RO2
      have HEA := Lib.hid (HE2.out.next ((Below.refl _ w2).alloc (Nat.le_refl _) (.cells #[.int .i64 n, .bool false, .slice qv (ints (tk n (upTo S X k))).length kv] 28)))
      have HOA := Lib.hid (HO2.out.below ((Below.refl _ w2).alloc (Nat.le_refl _) (.cells #[.int .i64 n, .bool false, .slice qv (ints (tk n (upTo S X k))).length kv] 28)))
      obtain ⟨z0, z1, z2, y0, y1, y2⟩ := HEA.out.res.three
      clear HE2 HO2
      go_wp2_with fail
      refine ret_row Try.results47 rfl (HEA.out.out _ _ _).1 rfl ⟨_, rfl, HOA.out.boxed HEA.out.res _ _ _, (HEA.out.out _ _ _).2⟩
end Go.Proofs.Ytogdiahojbonaaa
