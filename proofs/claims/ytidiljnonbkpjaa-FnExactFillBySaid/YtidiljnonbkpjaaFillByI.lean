/- impl.FillBy, for every Row and all lists. -/
import Derived.Test.YtidiljnonbkpjaaFillBy
import Derived.Test.YtidiljnonbkpjaaIsOrd
namespace Go.Proofs.Ytidiljnonbkpjaa
open Go.RowKit

set_option maxRecDepth 4000 in
set_option maxHeartbeats 1600000 in
theorem fillByI_bad (s : Int) (ring : Bool) (p : Option Addr) (cap : Nat) (xs : List Int) (q : Option Addr) (c : Nat) (ys : List Int) (w : World) (lo hi lo2 hi2 : Nat) (hin : Ri lo hi w p xs) (hin2 : Ri lo2 hi2 w q ys) (hlen : xs.length ≤ 1048576) (hlen2 : ys.length ≤ 1048576) (h : (fillB s ring xs && orderB s ys) = false) :
    Calls Try.prog 18 #[rowV s ring p xs.length cap, .slice q ys.length c] w (MadeRow w 0 false [] false) := by
  have hE := Beg.start w s ring p xs.length cap
  have R := fun (w' : World) (h' : Below w.heap.size w w') => canFill_any s ring p cap xs w' lo hi (hin.below h' hin.top) hlen
  cases hf : fillB s ring xs with
  | false =>
    rw [hf] at R
    replace R := Lib.hid R
    have HE := Lib.hid hE
    obtain ⟨m, hm⟩ : ∃ m, xs.length = m := ⟨_, rfl⟩
    rw [hm] at HE R ⊢
    clear hE hin hin2 h hf hm
    unfold MadeRow
    go_enter Try.func18, Try.ntmps18
    go_wp2_with fail
    refine (R.out _ HE.out.bel).mono ?_
    rintro e w1 ⟨rfl, hb1⟩
    have HE1 := Lib.hid (HE.out.next hb1)
    obtain ⟨z0, z1, z2, y0, y1, y2⟩ := HE1.out.res.three
    clear HE hb1 R
    go_wp2_with fail
    exact ret_row2 Try.results18 rfl rfl (HE1.out.out _ _ _).1 rfl ⟨_, rfl, Out.none _ _, (HE1.out.out _ _ _).2⟩
  | true =>
    obtain ⟨n, S, rfl, -, h2, hn, -⟩ := fillB_is hf
    rw [hf] at R h
    rw [Bool.true_and] at h
    have O := fun (w' : World) (h' : Below w.heap.size w w') => isOrder_any q c ys (n : Int) w' lo2 hi2 (hin2.below h' hin2.top) (by omega) (by omega) hlen2
    rw [h] at O
    replace R := Lib.hid R
    replace O := Lib.hid O
    have HE := Lib.hid hE
    obtain ⟨m, hm⟩ : ∃ m, xs.length = m := ⟨_, rfl⟩
    rw [hm] at HE R ⊢
    obtain ⟨m2, hm2⟩ : ∃ m, ys.length = m := ⟨_, rfl⟩
    rw [hm2] at O ⊢
    clear hE hin hin2 h hf hm hm2
    unfold MadeRow
    go_enter Try.func18, Try.ntmps18
    go_wp2_with fail
    refine (R.out _ HE.out.bel).mono ?_
    rintro e w1 ⟨rfl, hb1⟩
    have HE1 := Lib.hid (HE.out.next hb1)
    obtain ⟨c0, c1, c2, -⟩ := HE1.out.row.three
    clear HE hb1 R
    go_wp2_with fail
    refine (O.out _ HE1.out.bel).mono ?_
    rintro e w2 ⟨rfl, hb2⟩
    have HE2 := Lib.hid (HE1.out.next hb2)
    obtain ⟨z0, z1, z2, y0, y1, y2⟩ := HE2.out.res.three
    clear HE1 hb2 O c0 c1 c2
    go_wp2_with fail
    exact ret_row2 Try.results18 rfl rfl (HE2.out.out _ _ _).1 rfl ⟨_, rfl, Out.none _ _, (HE2.out.out _ _ _).2⟩

set_option maxRecDepth 4000 in
set_option maxHeartbeats 1600000 in
theorem fillByI_any (n : Nat) (ring : Bool) (p : Option Addr) (cap : Nat) (S : Nat → Bool) (q : Option Addr) (c : Nat) (l : List Nat) (w : World) (lo hi lo2 hi2 : Nat) (hin : Ri lo hi w p (ints (tk n S))) (h2 : 2 ≤ n) (hn : n ≤ 12) (h3 : ring = true → 3 ≤ n) (hin2 : Ri lo2 hi2 w q (ints l)) (hl : ∀ x ∈ l, x < n) (hll : l.length ≤ 1000) (ho : orderB n (ints l) = true) :
    Calls Try.prog 18 #[rowV n ring p (ints (tk n S)).length cap, .slice q (ints l).length c] w (MadeRow w n ring (ints (tk n (fillM n ring S l))) true) := by
  have hlen := ints_tk_len n S
  have hlen2 : (ints l).length ≤ 1000 := by rw [ints_length]; exact hll
  have hE := Beg.start w n ring p (ints (tk n S)).length cap
  have R := fun (w' : World) (h' : Below w.heap.size w w') => canFill_any n ring p cap (ints (tk n S)) w' lo hi (hin.below h' hin.top) (by omega)
  rw [fillB_of h2 hn h3] at R
  have O := fun (w' : World) (h' : Below w.heap.size w w') => isOrder_any q c (ints l) (n : Int) w' lo2 hi2 (hin2.below h' hin2.top) (by omega) (by omega) (by omega)
  rw [ho] at O
  have FB := Lib.hid (fun (w' : World) (h' : Below w.heap.size w w') => fillBy_any n ring p cap S l q c w' lo hi lo2 hi2 (hin.below h' hin.top) h2 hn h3 (hin2.below h' hin2.top) hl hll)
  obtain ⟨L, hL⟩ : ∃ L, ints (tk n (fillM n ring S l)) = L := ⟨_, rfl⟩
  rw [hL] at FB ⊢
  replace R := Lib.hid R
  replace O := Lib.hid O
  have HE := Lib.hid hE
  obtain ⟨m, hm⟩ : ∃ m, (ints (tk n S)).length = m := ⟨_, rfl⟩
  rw [hm] at HE R FB ⊢
  obtain ⟨m2, hm2⟩ : ∃ m, (ints l).length = m := ⟨_, rfl⟩
  rw [hm2] at O FB ⊢
  clear hE hin hin2 hL hm hm2 hlen hlen2 ho
  unfold MadeRow
  go_enter Try.func18, Try.ntmps18
  go_wp2_with fail
  refine (R.out _ HE.out.bel).mono ?_
  rintro e w1 ⟨rfl, hb1⟩
  have HE1 := Lib.hid (HE.out.next hb1)
  obtain ⟨c0, c1, c2, -⟩ := HE1.out.row.three
  clear HE hb1 R
  go_wp2_with fail
  refine (O.out _ HE1.out.bel).mono ?_
  rintro e w2 ⟨rfl, hb2⟩
  have HE2 := Lib.hid (HE1.out.next hb2)
  clear HE1 hb2 O c0 c1 c2
  obtain ⟨c0, c1, c2, -⟩ := HE2.out.row.three
  go_wp2_with fail
  refine (FB.out _ HE2.out.bel).mono ?_
  rintro e w3 ⟨v, rfl, hO, hb3⟩
  obtain ⟨q3, c3, rfl, -⟩ := hO.rd
  have HE3 := Lib.hid (HE2.out.next hb3)
  have HO := Lib.hid (hO.mono HE2.out.bel.size)
  clear HE2 hb3 hO c0 c1 c2
  obtain ⟨z0, z1, z2, y0, y1, y2⟩ := HE3.out.res.three
  go_wp2_with fail
  exact ret_row2 Try.results18 rfl rfl (HE3.out.out _ _ _).1 rfl ⟨_, rfl, HO.out.boxed HE3.out.res _ _ _, (HE3.out.out _ _ _).2⟩
end Go.Proofs.Ytidiljnonbkpjaa
