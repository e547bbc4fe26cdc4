/- spec.MirrorSeats, for every Row. -/
import Derived.Test.YtefbepebgmalpaaMirror
import Derived.Test.YtefbepebgmalpaaApp
import Derived.Test.YtefbepebgmalpaaIsRow
namespace Go.Proofs.Ytefbepebgmalpaa
open Go.RowKit

set_option maxHeartbeats 800000 in
theorem mirrorS_bad (s : Int) (ring : Bool) (p : Option Addr) (cap : Nat) (xs : List Int) (w : World) (lo hi : Nat) (hin : Ri lo hi w p xs) (hlen : xs.length ≤ 1048576) (hr : rowB s ring xs = false) :
    Calls Try.prog 16 #[rowV s ring p xs.length cap] w (MadeRow w 0 false [] false) := by
  have hE := Beg.start w s ring p xs.length cap
  have R := fun (w' : World) (h' : Below w.heap.size w w') => l2Row_any s ring p cap xs w' lo hi (hin.below h' hin.top) hlen
  rw [hr] at R
  have HE := Lib.hid hE
  replace R := Lib.hid R
  clear hE hin hr
  unfold MadeRow
  go_enter Try.func16, Try.ntmps16
  go_wp2_with fail
  refine (R.out _ HE.out.bel).mono ?_
  rintro e w1 ⟨rfl, hb1⟩
  have HE1 := Lib.hid (HE.out.next hb1)
  obtain ⟨z0, z1, z2, y0, y1, y2⟩ := HE1.out.res.three
  clear HE hb1 R
  go_wp2_with fail
  exact ret_row2 Try.results16 rfl rfl (HE1.out.out _ _ _).1 rfl ⟨_, rfl, Out.none _ _, (HE1.out.out _ _ _).2⟩

set_option maxRecDepth 4000 in
set_option maxHeartbeats 4000000 in
theorem mirrorS_any (n : Nat) (ring : Bool) (p : Option Addr) (cap : Nat) (S : Nat → Bool) (w : World) (lo hi : Nat) (hin : Ri lo hi w p (ints (tk n S))) (h2 : 2 ≤ n) (hn : n ≤ 24) (h3 : ring = true → 3 ≤ n) :
    Calls Try.prog 16 #[rowV n ring p (ints (tk n S)).length cap] w (MadeRow w n ring (ints (tk n fun i => S (n - 1 - i))) true) := by
  have hlen := ints_tk_len n S
  have hE := Beg.start w n ring p (ints (tk n S)).length cap
  have R := fun (w' : World) (h' : Below w.heap.size w w') => l2Row_any n ring p cap (ints (tk n S)) w' lo hi (hin.below h' hin.top) (by omega)
  rw [rowB_of h2 hn h3] at R
  have HL : Hid (∀ x ∈ tk n S, x < n) := by show ∀ _, _; exact fun x hx => (mem_tk.1 hx).1
  rw [← mirror_spec]
  obtain ⟨l, hl⟩ : ∃ l, tk n S = l := ⟨_, rfl⟩
  rw [hl] at hin hlen R HL hE ⊢
  obtain ⟨m, hm⟩ : ∃ m, l.length = m := ⟨_, rfl⟩
  have hml : (ints l).length = m := by rw [ints_length, hm]
  rw [hml] at hlen R hE ⊢
  obtain ⟨L, hL⟩ : ∃ L, (ints l).reverse.map (fun x => (n : Int) - 1 - x) = L := ⟨_, rfl⟩
  have HG : Hid (∀ t, t < m → L[m - 1 - t]?.getD 0 = (n : Int) - 1 - ((l[t]?.getD 0 : Nat) : Int)) := by
    show ∀ _, _
    intro t ht
    rw [← hL, mirror_get (by omega)]
    congr 4
    omega
  have HLL : Hid (L.length = m) := by show _ = _; rw [← hL, List.length_map, List.length_reverse, hml]
  rw [hL]
  replace HI := Lib.hid hin
  have HE := Lib.hid hE
  replace R := Lib.hid R
  replace hm := Lib.hid hm
  clear hE hin hl hL hml
  unfold MadeRow
  go_enter Try.func16, Try.ntmps16
  go_wp2_with fail
  refine (R.out _ HE.out.bel).mono ?_
  rintro e w1 ⟨rfl, hb1⟩
  have hE1 := HE.out.next hb1
  have hO := Out.nilLit w1
  have hE2 := hE1.next ((Below.refl _ w1).alloc (Nat.le_refl _) (.cells #[] 3))
  have HE1 := Lib.hid hE2
  have HO1 := Lib.hid (hO.mono (Nat.le_of_lt hE1.res.lt))
  clear HE R hb1 hE1 hO hE2
  obtain ⟨c0, c1, c2, -⟩ := HE1.out.row.three
  go_wp2_with fail
  clear c0 c1 c2
  go_loopw [4, 5] (fun v i wr => ∃ (z : Int), -1 ≤ z ∧ z < m ∧ i = .int .i64 z ∧ Hid (Beg w n ring p m cap wr) ∧ Hid (Out (w.heap.size + 1) wr v (L.take (m - 1 - z).toNat))) (fun _ i _ => (intOf i + 1).toNat)
  case atStart => exact ⟨_, by omega, by omega, rfl, HE1, by simpa using HO1⟩
  case round =>
    obtain ⟨z, hz1, hz2, rfl, HE, HO⟩ := hrel
    clear HE1 HO1
    obtain ⟨c0, c1, c2, -⟩ := HE.out.row.three
    by_cases hz : 0 ≤ z
    · obtain ⟨t, rfl⟩ : ∃ t : Nat, z = t := ⟨z.toNat, by omega⟩
      have htm : t < m := by omega
      have htl : t < l.length := by have := hm.out; omega
      obtain ⟨b, off, rfl, -, -, hbw, hc⟩ := HI.out.int (by rw [ints_length]; omega)
      have h0 := (HE.out.bel.cell (p := ⟨b, off + t, none⟩) hbw).trans (hc t (by rw [ints_length]; exact htl))
      rw [ints_get htl] at h0
      have hyn := HL.out _ (nat_mem htl)
      have hgt := HG.out t htm
      obtain ⟨y, hy⟩ : ∃ y, l[t]?.getD 0 = y := ⟨_, rfl⟩
      rw [hy] at h0 hyn hgt
      have hj : (m - 1 - (t : Int)).toNat = m - 1 - t := by omega
      have HT : Hid (L.take (m - 1 - ((t : Int) - 1)).toNat = L.take (m - 1 - (t : Int)).toNat ++ [(n : Int) - 1 - (y : Int)]) := by
        show _ = _
        rw [hj, show (m - 1 - ((t : Int) - 1)).toNat = (m - 1 - t) + 1 by omega]
        exact take_next (by rw [HLL.out]; omega) hgt
      have HTL : Hid ((L.take (m - 1 - (t : Int)).toNat).length ≤ 24) := by
        show _ ≤ _
        have := List.length_take_le (m - 1 - (t : Int)).toNat L
        omega
      have hsz := HE.out.res.lt
      have e1 : IntKind.i64.wrap ((n : Int) - 1) = (n : Int) - 1 := IntWalk.i64_in _ (by omega)
      have e2 : IntKind.i64.wrap ((n : Int) - 1 - (y : Int)) = (n : Int) - 1 - (y : Int) := IntWalk.i64_in _ (by omega)
      have HOA : Hid (Out (w.heap.size + 1) (wr.alloc (.cells #[.int .i64 ((n : Int) - 1 - (y : Int))] 3)).drew u4 (L.take (m - 1 - (t : Int)).toNat)) := World.ownsRow.alloc HO.out _
      have HLA : Hid (OwnArr (wr.alloc (.cells #[.int .i64 ((n : Int) - 1 - (y : Int))] 3)).drew wr.heap.size 3 [.int .i64 ((n : Int) - 1 - (y : Int))]) := OwnArr.made wr _ [_]
      have HEA : Hid (Beg w n ring (some ⟨b, off, none⟩) m cap (wr.alloc (.cells #[.int .i64 ((n : Int) - 1 - (y : Int))] 3)).drew) := by
        show Beg _ _ _ _ _ _ _
        exact HE.out.next (((Below.refl _ wr).alloc (Nat.le_refl _) _).drew)
      have HNE := Lib.hid (own_ne HOA.out HEA.out.row)
      have HNE2 := Lib.hid (own_ne HOA.out HEA.out.res)
      have ht0 : (0 : Int) ≤ (t : Int) := by omega
      have ht1 : (t : Int) < (m : Int) := by omega
      replace hgt := Lib.hid hgt
      replace hj := Lib.hid hj
      have HBK := Lib.hid (own_block HO.out)
      clear hc hy
      go_wp2_with fail
      go_region_law (refine step_app rfl (.tmp 19) (.tmp 29) rfl (w.heap.size + 1) u4 (L.take (m - 1 - (t : Int)).toNat) (by rfl) HOA.out _ 1 1 0 (wr.heap.size + 1) [(n : Int) - 1 - (y : Int)] (by rfl) (lit_one HLA.out _ (Nat.lt_succ_self _) (by simp)) rfl (by have := HTL.out; omega) (by simp; omega) ?_; intro v1 w2 hO2 hg2 hn2; rw [← HT.out] at hO2; have HO2 := Lib.hid hO2; have HE2 : Hid (Beg w n ring (some ⟨b, off, none⟩) m cap w2) := (by show Beg _ _ _ _ _ _ _; exact ⟨OwnArr.grown HEA.out.row hg2 HNE.out, OwnArr.grown HEA.out.res hg2 HNE2.out, HEA.out.bel.grown hg2 HEA.out.bel.size (fun k hk => by have := HBK.out k hk; omega)⟩); clear hO2 hg2 hn2)
      all_goals
        go_wp2_with fail
        refine ⟨⟨_, ?_, ?_, rfl, HE2, HO2⟩, ?_⟩
        · omega
        · omega
        · simp [intOf]
    · have hz3 : z = -1 := by omega
      subst hz3
      have hto : L.take (m - 1 - (-1 : Int)).toNat = L := List.take_of_length_le (by rw [HLL.out]; omega)
      have hO := HO.out
      rw [hto] at hO
      obtain ⟨q, qc, e, -⟩ := hO.rd
      rw [HLL.out] at e
      subst e
      have HO2 := Lib.hid hO
      clear hO HO hto
      go_wp2_with fail
      refine (l2Made_any _ _ _ _ _ _ _ _ _).mono ?_
      rintro e w3 ⟨rfl, hb3⟩
      have HE3 := Lib.hid (HE.out.next hb3)
      have HO3 := Lib.hid (HO2.out.below hb3)
      clear HE HO2 hb3 c0 c1 c2
      obtain ⟨z0, z1, z2, y0, y1, y2⟩ := HE3.out.res.three
      go_wp2_with fail
      exact ret_row2 Try.results16 rfl rfl (HE3.out.out _ _ _).1 rfl ⟨_, rfl, (HO3.out.boxed HE3.out.res _ _ _).mono (Nat.le_succ _), (HE3.out.out _ _ _).2⟩
end Go.Proofs.Ytefbepebgmalpaa
