/- impl.MirrorSeats, for every Row; both functions give the same Row. -/
import Derived.Test.YtefbepebgmalpaaMirrorS
import Derived.Test.YtefbepebgmalpaaRowOf
import Derived.Test.YtefbepebgmalpaaRev
namespace Go.Proofs.Ytefbepebgmalpaa
open Go.RowKit

set_option maxHeartbeats 800000 in
theorem mirrorI_bad (s : Int) (ring : Bool) (p : Option Addr) (cap : Nat) (xs : List Int) (w : World) (lo hi : Nat) (hin : Ri lo hi w p xs) (hlen : xs.length ≤ 1048576) (hr : rowB s ring xs = false) :
    Calls Try.prog 17 #[rowV s ring p xs.length cap] w (MadeRow w 0 false [] false) := by
  have hE := Beg.start w s ring p xs.length cap
  have R := fun (w' : World) (h' : Below w.heap.size w w') => isRow_any s ring p cap xs w' lo hi (hin.below h' hin.top) hlen
  rw [hr] at R
  have HE := Lib.hid hE
  replace R := Lib.hid R
  clear hE hin hr
  unfold MadeRow
  go_enter Try.func17, Try.ntmps17
  go_wp2_with fail
  refine (R.out _ HE.out.bel).mono ?_
  rintro e w1 ⟨rfl, hb1⟩
  have HE1 := Lib.hid (HE.out.next hb1)
  obtain ⟨z0, z1, z2, y0, y1, y2⟩ := HE1.out.res.three
  clear HE hb1 R
  go_wp2_with fail
  exact ret_row2 Try.results17 rfl rfl (HE1.out.out _ _ _).1 rfl ⟨_, rfl, Out.none _ _, (HE1.out.out _ _ _).2⟩

set_option maxRecDepth 4000 in
set_option maxHeartbeats 2000000 in
theorem mirrorI_any (n : Nat) (ring : Bool) (p : Option Addr) (cap : Nat) (S : Nat → Bool) (w : World) (lo hi : Nat) (hin : Ri lo hi w p (ints (tk n S))) (h2 : 2 ≤ n) (hn : n ≤ 24) (h3 : ring = true → 3 ≤ n) :
    Calls Try.prog 17 #[rowV n ring p (ints (tk n S)).length cap] w (MadeRow w n ring (ints (tk n fun i => S (n - 1 - i))) true) := by
  have hlen := ints_tk_len n S
  have hE := Beg.start w n ring p (ints (tk n S)).length cap
  have R := fun (w' : World) (h' : Below w.heap.size w w') => isRow_any n ring p cap (ints (tk n S)) w' lo hi (hin.below h' hin.top) (by omega)
  rw [rowB_of h2 hn h3] at R
  have MK := Lib.hid (fun (w' : World) (h' : Below w.heap.size w w') => marksOf_any n ring p cap S w' lo hi (hin.below h' hin.top) hn)
  have RV := Lib.hid (fun (g : Nat) (w' : World) (h : OwnArr w' g 4 (bv (bl n S))) => reverse_any g n S w' h (by omega) (by omega))
  have RO := Lib.hid (fun (q : Option Addr) (w' : World) (l h' : Nat) (h : Rd l h' w' q (bv (bl n fun i => S (n - 1 - i)))) => rowOf_any n ring q n (fun i => S (n - 1 - i)) w' l h' h (by omega) true (rowB_of h2 hn h3))
  obtain ⟨T, hT⟩ : ∃ T : Nat → Bool, (fun i => S (n - 1 - i)) = T := ⟨_, rfl⟩
  rw [hT] at RV RO ⊢
  have HE := Lib.hid hE
  replace R := Lib.hid R
  clear hE hin h3 hlen hT
  obtain ⟨m, hm⟩ : ∃ m, (ints (tk n S)).length = m := ⟨_, rfl⟩
  rw [hm] at HE R MK ⊢
  clear hm
  unfold MadeRow
  go_enter Try.func17, Try.ntmps17
  go_wp2_with fail
  refine (R.out _ HE.out.bel).mono ?_
  rintro e w1 ⟨rfl, hb1⟩
  have HE1 := Lib.hid (HE.out.next hb1)
  clear HE hb1 R
  obtain ⟨c0, c1, c2, -⟩ := HE1.out.row.three
  go_wp2_with fail
  refine (MK.out _ HE1.out.bel).mono ?_
  rintro e w3 ⟨g, rfl, hg, hO, hb3⟩
  have HE3 := Lib.hid (HE1.out.next hb3)
  have hgw : w.heap.size + 2 ≤ g := by have := HE1.out.res.lt; omega
  have RV2 := Lib.hid (RV.out _ _ hO)
  have hglt := hO.lt
  clear HE1 hb3 MK c0 c1 c2 hO RV
  go_wp2_with fail
  refine RV2.out.mono ?_
  rintro e w4 ⟨rfl, hO4, hk4⟩
  have HE4 := Lib.hid (HE3.out.next2 ((hk4.below (by omega)).mono hgw))
  have HR := Rd.of_own hO4 (Nat.zero_le g) (Nat.lt_succ_self g) (by have := hO4.lt; omega) n
  rw [List.take_of_length_le (by rw [bv_length, bl_length]; exact Nat.le_refl _)] at HR
  have RO2 := Lib.hid (RO.out _ _ _ _ HR)
  clear HE3 hO4 hk4 HR RO RV2
  obtain ⟨c0, c1, c2, -⟩ := HE4.out.row.three
  go_wp2_with fail
  refine RO2.out.mono ?_
  rintro e w5 ⟨v, rfl, hO5, hb5⟩
  obtain ⟨q, qc, rfl, -⟩ := (hO5 trivial).rd
  have HO5 := Lib.hid ((hO5 trivial).mono HE4.out.bel.size)
  have HE5 := Lib.hid (HE4.out.next hb5)
  clear hO5 hb5 HE4 c0 c1 c2 RO2
  obtain ⟨z0, z1, z2, y0, y1, y2⟩ := HE5.out.res.three
  go_wp2_with fail
  exact ret_row2 Try.results17 rfl rfl (HE5.out.out _ _ _).1 rfl ⟨_, rfl, HO5.out.boxed HE5.out.res _ _ _, (HE5.out.out _ _ _).2⟩

theorem mirrorSeats_both (s : Int) (ring : Bool) (xs : List Int) : ∃ (s' : Int) (ring' : Bool) (L : List Int) (B : Bool), L.length ≤ 24 ∧
    (∀ (p : Option Addr) (cap : Nat) (w : World) (lo hi : Nat), Ri lo hi w p xs → xs.length ≤ 1048576 → Calls Try.prog 16 #[rowV s ring p xs.length cap] w (MadeRow w s' ring' L B)) ∧
    (∀ (p : Option Addr) (cap : Nat) (w : World) (lo hi : Nat), Ri lo hi w p xs → xs.length ≤ 1048576 → Calls Try.prog 17 #[rowV s ring p xs.length cap] w (MadeRow w s' ring' L B)) := by
  cases hr : rowB s ring xs with
  | true =>
    obtain ⟨n, S, rfl, rfl, h2, hn, h3⟩ := rowB_is hr
    exact ⟨n, ring, ints (tk n fun i => S (n - 1 - i)), true, by have := ints_tk_len n (fun i => S (n - 1 - i)); omega,
      fun p cap w lo hi hin _ => mirrorS_any n ring p cap S w lo hi hin h2 hn h3,
      fun p cap w lo hi hin _ => mirrorI_any n ring p cap S w lo hi hin h2 hn h3⟩
  | false =>
    exact ⟨0, false, [], false, by simp,
      fun p cap w lo hi hin hl => mirrorS_bad s ring p cap xs w lo hi hin hl hr,
      fun p cap w lo hi hin hl => mirrorI_bad s ring p cap xs w lo hi hin hl hr⟩
end Go.Proofs.Ytefbepebgmalpaa
