/- impl.TakeSeat at a free seat of a valid Row. -/
import Derived.Test.YtfabannlebolfaaRowOf
import Derived.Test.YtfabannlebolfaaHasI
import Derived.Test.YtfabannlebolfaaSeatI
import Derived.Test.YtfabannlebolfaaMade0
namespace Go.Proofs.Ytfabannlebolfaa
open Go.RowKit

set_option maxRecDepth 4000 in
set_option maxHeartbeats 2000000 in
theorem takeI_any (n : Nat) (ring : Bool) (p : Option Addr) (cap : Nat) (S : Nat → Bool) (k : Nat) (w : World) (lo hi : Nat) (hin : Ri lo hi w p (ints (tk n S))) (h2 : 2 ≤ n) (hn : n ≤ 24) (h3 : ring = true → 3 ≤ n) (hk : k < n) (hS : S k = false) :
    Calls Try.prog 39 #[rowV n ring p (ints (tk n S)).length cap, .int .i64 k] w (MadeRow w n ring (ints (tk n fun i => if i = k then true else S i)) true) := by
  have hlen := ints_tk_len n S
  have hE := Beg.start w n ring p (ints (tk n S)).length cap
  have I := fun (w' : World) (h' : Below w.heap.size w w') => isSeatOf_any n ring p cap (ints (tk n S)) k w' lo hi (hin.below h' hin.top) (by omega)
  have J := fun (w' : World) (h' : Below w.heap.size w w') => isTaken_any n ring p cap (ints (tk n S)) k w' lo hi (hin.below h' hin.top) (by omega)
  have hv : seatB n ring (ints (tk n S)) k = true := by
    unfold seatB
    rw [rowB_of h2 hn h3]
    simp
    omega
  rw [hv] at I
  rw [has_tk hk, hS] at J
  have MK := Lib.hid (fun (w' : World) (h' : Below w.heap.size w w') => marksOf_any n ring p cap S w' lo hi (hin.below h' hin.top) hn)
  have RO := Lib.hid (fun (q : Option Addr) (w' : World) (l h' : Nat) (h : Rd l h' w' q (bv (bl n fun i => if i = k then true else S i))) => rowOf_any n ring q n (fun i => if i = k then true else S i) w' l h' h (by omega) true (rowB_of h2 hn h3))
  obtain ⟨T, hT⟩ : ∃ T : Nat → Bool, (fun i => if i = k then true else S i) = T := ⟨_, rfl⟩
  rw [hT] at RO ⊢
  have HT := Lib.hid hT
  have HE := Lib.hid hE
  replace I := Lib.hid I
  replace J := Lib.hid J
  clear hE hin hv h3 hlen hT
  obtain ⟨m, hm⟩ : ∃ m, (ints (tk n S)).length = m := ⟨_, rfl⟩
  rw [hm] at HE I J MK ⊢
  clear hm
  unfold MadeRow
  go_enter Try.func39, Try.ntmps39
  go_wp2_with fail
  refine (I.out _ HE.out.bel).mono ?_
  rintro e w1 ⟨rfl, hb1⟩
  have HE1 := Lib.hid (HE.out.next hb1)
  clear HE hb1 I
  obtain ⟨c0, c1, c2, -⟩ := HE1.out.row.three
  go_wp2_with fail
  refine (J.out _ HE1.out.bel).mono ?_
  rintro e w2 ⟨rfl, hb2⟩
  have HE2 := Lib.hid (HE1.out.next hb2)
  clear HE1 hb2 J c0 c1 c2
  obtain ⟨c0, c1, c2, -⟩ := HE2.out.row.three
  go_wp2_with fail
  refine (MK.out _ HE2.out.bel).mono ?_
  rintro e w3 ⟨g, rfl, hg, hO, hb3⟩
  have HE3 := Lib.hid (HE2.out.next hb3)
  have hgw : w.heap.size + 2 ≤ g := by have := HE2.out.res.lt; omega
  have hold := hO.cell k
  rw [bv_get (by rw [bl_length]; exact hk), bl_getD hk, hS] at hold
  have hfree := hO.free k
  have hset := hO.set k (.bool true)
  rw [bv_set, bl_set, HT.out] at hset
  have hbs : Below (w.heap.size + 2) w3 (w3.setCell ⟨g, k, none⟩ (.bool true)) := (Below.refl _ _).setCell (p := ⟨g, k, none⟩) hgw _
  have HE4 := Lib.hid (HE3.out.next2 hbs)
  have HR := Rd.of_own hset (Nat.zero_le g) (Nat.lt_succ_self g) (by have := hset.lt; omega) n
  rw [List.take_of_length_le (by rw [bv_length, bl_length]; exact Nat.le_refl _)] at HR
  have RO2 := Lib.hid (RO.out _ _ _ _ HR)
  clear hset hO hg HE2 hb3 HR RO hbs c0 c1 c2 HE3 MK
  have hk1 : (k : Int) < (n : Int) := by omega
  obtain ⟨c0, c1, c2, -⟩ := HE4.out.row.three
  go_wp2_with fail
  refine RO2.out.mono ?_
  rintro e w4 ⟨v, rfl, hO3, hb4⟩
  obtain ⟨q, qc, rfl, -⟩ := (hO3 trivial).rd
  have HO3 := Lib.hid ((hO3 trivial).mono HE4.out.bel.size)
  have HE5 := Lib.hid (HE4.out.next hb4)
  clear hO3 hb4 HE4 c0 c1 c2 RO2
  obtain ⟨z0, z1, z2, y0, y1, y2⟩ := HE5.out.res.three
  go_wp2_with fail
  exact ret_row2 Try.results39 rfl rfl (HE5.out.out _ _ _).1 rfl ⟨_, rfl, HO3.out.boxed HE5.out.res _ _ _, (HE5.out.out _ _ _).2⟩
end Go.Proofs.Ytfabannlebolfaa
