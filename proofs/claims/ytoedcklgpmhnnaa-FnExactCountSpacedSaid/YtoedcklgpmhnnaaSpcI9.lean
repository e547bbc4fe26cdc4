/- Chapter 9, impl side: impl.spacing's apartFrom. -/
import Derived.Test.YtoedcklgpmhnnaaSpcM9
import Derived.Test.YtoedcklgpmhnnaaGap
import Derived.Test.YtoedcklgpmhnnaaApp
import Derived.StillTailTactics
import Derived.Deep.RegionHeld3
namespace Go.Proofs.Ytoedcklgpmhnnaa
open Go.RowKit

/-- a spacing as a value -/
abbrev spcV (n : Int) (ring : Bool) (p : Option Addr) (m cap : Nat) (d : Int) (q : Option Addr) (k c : Nat) : Value := .agg #[.int .i64 n, .bool ring, .slice p m cap, .int .i64 d, .slice q k c]
theorem OwnArr.five {w : World} {b : Nat} {e : TypeId} {x y z u v : Value} (h : OwnArr w b e [x, y, z, u, v]) :
    w.cell? ⟨b, 0, none⟩ = some x ∧ w.cell? ⟨b, 1, none⟩ = some y ∧ w.cell? ⟨b, 2, none⟩ = some z ∧ w.cell? ⟨b, 3, none⟩ = some u ∧ w.cell? ⟨b, 4, none⟩ = some v :=
  ⟨h.cell 0, h.cell 1, h.cell 2, h.cell 3, h.cell 4⟩
theorem OwnArr.five' {w : World} {b : Nat} {e : TypeId} {x y z u v : Value} (h : OwnArr w b e [x, y, z, u, v]) :
    w.frozen? ⟨b, 0, none⟩ = false ∧ w.frozen? ⟨b, 1, none⟩ = false ∧ w.frozen? ⟨b, 2, none⟩ = false ∧ w.frozen? ⟨b, 3, none⟩ = false ∧ w.frozen? ⟨b, 4, none⟩ = false :=
  ⟨h.free 0, h.free 1, h.free 2, h.free 3, h.free 4⟩

theorem rest_yes {n : Nat} {ring : Bool} {D a : Nat} {l : List Nat} {k : Nat} (hk : k < l.length) (h : D ≤ gapM n ring a (l[k]?.getD 0)) : ints (restM n ring D a (l.take (k + 1))) = ints (restM n ring D a (l.take k)) ++ [((l[k]?.getD 0 : Nat) : Int)] := by
  unfold restM
  rw [List.take_succ_eq_append_getElem hk, List.filter_append, ints_append]
  rw [List.getElem?_eq_getElem hk] at h ⊢
  simp only [Option.getD_some] at h ⊢
  have e : ([l[k]].filter fun q => decide (D ≤ gapM n ring a q)) = [l[k]] := by simp [h]
  rw [e]; rfl
theorem rest_no {n : Nat} {ring : Bool} {D a : Nat} {l : List Nat} {k : Nat} (hk : k < l.length) (h : ¬ D ≤ gapM n ring a (l[k]?.getD 0)) : ints (restM n ring D a (l.take (k + 1))) = ints (restM n ring D a (l.take k)) := by
  unfold restM
  rw [List.take_succ_eq_append_getElem hk, List.filter_append, ints_append]
  rw [List.getElem?_eq_getElem hk] at h
  simp only [Option.getD_some] at h
  have e : ([l[k]].filter fun q => decide (D ≤ gapM n ring a q)) = [] := by simp [h]
  rw [e]; simp [ints]
theorem rest_len (n : Nat) (ring : Bool) (D a : Nat) (l : List Nat) : (restM n ring D a l).length ≤ l.length := List.length_filter_le _ _

set_option maxRecDepth 4000 in
set_option maxHeartbeats 2000000 in
theorem apartFrom_any (n : Nat) (ring : Bool) (p : Option Addr) (m cap : Nat) (D : Nat) (q : Option Addr) (k c : Nat) (a : Nat) (u : Option Addr) (uc : Nat) (l : List Nat) (w : World) (lo hi : Nat) (hin : Ri lo hi w u (ints l)) (hl : ∀ x ∈ l, x < n) (hll : l.length ≤ 24) (hn : n ≤ 24) (ha : a < n) :
    Calls Try.prog 36 #[spcV n ring p m cap D q k c, .int .i64 a, .slice u l.length uc] w fun e w' => ∃ v, e = .returned v ∧ Out (w.heap.size + 1) w' v (ints (restM n ring D a l)) ∧ Below w.heap.size w w' := by
  obtain ⟨i0, hi, hz0, hz1, hz2⟩ := info_parts infoInt
  have hX : OwnArr ((w.alloc (.cells #[.int .i64 n, .bool ring, .slice p m cap, .int .i64 D, .slice q k c] 49)).alloc (.cells #[] 3)) w.heap.size 49 [.int .i64 n, .bool ring, .slice p m cap, .int .i64 D, .slice q k c] := (OwnArr.made w _ [_, _, _, _, _]).alloc _
  have hO : Out (w.heap.size + 1) ((w.alloc (.cells #[.int .i64 n, .bool ring, .slice p m cap, .int .i64 D, .slice q k c] 49)).alloc (.cells #[] 3)) (.slice (some ⟨w.heap.size + 1, 0, none⟩) 0 0) [] := by
    have h := Out.nilLit (w.alloc (.cells #[.int .i64 n, .bool ring, .slice p m cap, .int .i64 D, .slice q k c] 49))
    have hs : (w.alloc (.cells #[Value.int .i64 n, .bool ring, .slice p m cap, .int .i64 D, .slice q k c] 49)).heap.size = w.heap.size + 1 := by simp
    rw [hs] at h
    exact h
  have hB : Below w.heap.size w ((w.alloc (.cells #[.int .i64 n, .bool ring, .slice p m cap, .int .i64 D, .slice q k c] 49)).alloc (.cells #[] 3)) := ((Below.refl _ _).alloc (Nat.le_refl _) _).alloc (by simp) _
  have HX0 := Lib.hid hX
  have HO0 := Lib.hid hO
  have HB0 := Lib.hid hB
  have HI := Lib.hid (fun (w' : World) (h' : Below w.heap.size w w') => hin.below h' hin.top)
  have HL := Lib.hid hl
  have G := Lib.hid (fun (b : Nat) (hb : b < n) w' => gapI_any n ring p m cap a b w' hn ha hb)
  obtain ⟨k0, hk0⟩ : ∃ k, l.length = k := ⟨_, rfl⟩
  rw [hk0] at hll ⊢
  have HK := Lib.hid hk0
  clear hX hO hB hin hl hk0
  go_enter Try.func36, Try.ntmps36
  go_wp2_with fail
  go_loopw [7, 9, 13] (fun v _ i wr => ∃ (j : Nat), j ≤ k0 ∧ i = .int .i64 (j : Int) ∧ Hid (OwnArr wr w.heap.size 49 [.int .i64 n, .bool ring, .slice p m cap, .int .i64 D, .slice q k c]) ∧ Hid (Out (w.heap.size + 1) wr v (ints (restM n ring D a (l.take j)))) ∧ Hid (Below w.heap.size w wr)) (fun _ _ i _ => k0 - (intOf i).toNat)
  case atStart => exact ⟨0, Nat.zero_le _, rfl, HX0, HO0, HB0⟩
  case round =>
    obtain ⟨j, hj, rfl, HX, HO, HB⟩ := hrel
    clear HX0 HO0 HB0
    obtain ⟨c0, c1, c2, c3, c4⟩ := HX.out.five
    by_cases hlt : j < k0
    · have hj1 : (j : Int) < (k0 : Int) := by omega
      have hj0 : (0 : Int) ≤ (j : Int) := by omega
      have hjl : j < l.length := by rw [HK.out]; exact hlt
      obtain ⟨b, off, rfl, -, -, hbw, hc⟩ := (HI.out wr HB.out).int (by rw [ints_length]; omega)
      have h0 := hc j (by rw [ints_length]; exact hjl)
      rw [ints_get hjl] at h0
      have hxn := HL.out _ (nat_mem hjl)
      have hy := fun h => rest_yes (n := n) (ring := ring) (D := D) (a := a) hjl h
      have hno := fun h => rest_no (n := n) (ring := ring) (D := D) (a := a) hjl h
      obtain ⟨x, hx⟩ : ∃ x, l[j]?.getD 0 = x := ⟨_, rfl⟩
      rw [hx] at h0 hxn hy hno
      have G2 := G.out x hxn wr.drew
      obtain ⟨g, hg⟩ : ∃ g, gapM n ring a x = g := ⟨_, rfl⟩
      rw [hg] at G2 hy hno
      replace G2 := Lib.hid G2
      replace hy := Lib.hid hy
      replace hno := Lib.hid hno
      have HXD : Hid (OwnArr wr.drew w.heap.size 49 [.int .i64 n, .bool ring, .slice p m cap, .int .i64 D, .slice q k c]) := HX.out
      clear hc hbw hx hg
      by_cases hgd : (D : Int) ≤ (g : Int)
      · have HT := Lib.hid (hy.out (by omega))
        have hlen := rest_len n ring D a (l.take j)
        rw [List.length_take] at hlen
        clear hy hno
        go_wp2_with fail
        go_region_held3 (fun w' => w'.cell? ⟨w.heap.size, 0, none⟩ = some (.int .i64 n) ∧ w'.cell? ⟨w.heap.size, 1, none⟩ = some (.bool ring) ∧ w'.cell? ⟨w.heap.size, 2, none⟩ = some (.slice p m cap) ∧ w'.cell? ⟨w.heap.size, 3, none⟩ = some (.int .i64 D)) ((first | exact ⟨c0, c1, c2, c3⟩ | exact ⟨d0, d1, d2, d3⟩ | go_keep)) ((go_at_call 63; refine G2.out.mono ?_; rintro e w4 ⟨rfl, hb4⟩; have HX5 := Lib.hid (HXD.out.below hb4 HXD.out.lt); obtain ⟨d0, d1, d2, d3, d4⟩ := HX5.out.five))
        have hb3 : Below wr.heap.size wr w4 := ((Below.refl _ wr).drew).trans hb4
        have HO2 := Lib.hid (HO.out.below hb3)
        have HB2 := Lib.hid (HB.out.trans (hb3.mono HB.out.size))
        have hs2 := HX5.out.lt
        have hblk := Lib.hid (own_block HO2.out)
        clear HO HX HB hb3 hb4 c0 c1 c2 c3 c4 d0 d1 d2 d3 d4 G2 HXD h0
        go_wp2_with (at_builtin; refine wpList_app rfl _ _ rfl (w.heap.size + 1) u7 (ints (restM n ring D a (l.take j))) rfl (World.ownsRow.alloc HO2.out (.cells #[.int .i64 (x : Int)] 3)) _ 1 1 0 (w4.heap.size + 1) [(x : Int)] rfl (lit_one (OwnArr.made w4 _ [_]) _ (Nat.lt_succ_self _) (by simp)) rfl (by rw [ints_length]; omega) (by simp; omega) ?_; intro v3 w3 hO3 hg3 hn3)
        have hG : Below (w.heap.size + 1) w4 w3 := ((Below.refl (w.heap.size + 1) w4).alloc (by omega) _).grown hg3 (by simp; omega) hblk.out
        have HX3 := Lib.hid (HX5.out.below hG (Nat.lt_succ_self _))
        have HB3 := Lib.hid (HB2.out.trans (hG.mono (Nat.le_succ _)))
        rw [← HT.out] at hO3
        have HO3 := Lib.hid hO3
        clear hO3 hg3 hn3 hG HX5 HB2 HO2
        go_wp2_with fail
        go_roundw
        case rel => exact ⟨j + 1, by omega, by go_num, HX3, HO3, HB3⟩
        case measure => simp [intOf]; omega
      · have HT := Lib.hid (hno.out (by omega))
        clear hy hno
        go_wp2_with fail
        go_region_held3 (fun w' => w'.cell? ⟨w.heap.size, 0, none⟩ = some (.int .i64 n) ∧ w'.cell? ⟨w.heap.size, 1, none⟩ = some (.bool ring) ∧ w'.cell? ⟨w.heap.size, 2, none⟩ = some (.slice p m cap) ∧ w'.cell? ⟨w.heap.size, 3, none⟩ = some (.int .i64 D)) ((first | exact ⟨c0, c1, c2, c3⟩ | exact ⟨d0, d1, d2, d3⟩ | go_keep)) ((go_at_call 63; refine G2.out.mono ?_; rintro e w4 ⟨rfl, hb4⟩; have HX5 := Lib.hid (HXD.out.below hb4 HXD.out.lt); obtain ⟨d0, d1, d2, d3, d4⟩ := HX5.out.five))
        have hb3 : Below wr.heap.size wr w4 := ((Below.refl _ wr).drew).trans hb4
        have ho2 := HO.out.below hb3
        rw [← HT.out] at ho2
        have HO2 := Lib.hid ho2
        have HB2 := Lib.hid (HB.out.trans (hb3.mono HB.out.size))
        clear HO HX HB hb3 hb4 c0 c1 c2 c3 c4 d0 d1 d2 d3 d4 G2 HXD h0 ho2
        go_wp2_with fail
        go_roundw
        case rel => exact ⟨j + 1, by omega, by go_num, HX5, HO2, HB2⟩
        case measure => simp [intOf]; omega
    · have hjk : j = k0 := by omega
      subst hjk
      have ho := HO.out
      rw [List.take_of_length_le (Nat.le_of_eq HK.out)] at ho
      replace ho := Lib.hid ho
      clear HO
      go_wp2_with fail
      go_ret
      exact ⟨_, rfl, ho.out, HB.out⟩
end Go.Proofs.Ytoedcklgpmhnnaa
