/- spec.l2With, for every list of taken seats. -/
import Derived.Test.YtogdiahojbonaaaPut
import Derived.Test.YtogdiahojbonaaaMade
namespace Go.Proofs.Ytogdiahojbonaaa
open Go.RowKit

set_option maxRecDepth 4000 in
set_option maxHeartbeats 2000000 in
theorem with_any (s : Int) (ring : Bool) (p : Option Addr) (cap : Nat) (xs : List Int) (k : Int) (w : World) (lo hi' : Nat) (hin : Ri lo hi' w p xs) (hlen : xs.length ≤ 1000) (hx : k ∉ xs) :
    Calls Try.prog 50 #[rowV s ring p xs.length cap, .int .i64 k] w fun e w' => ∃ v, e = .returned (.agg #[.int .i64 s, .bool ring, v]) ∧ Out w.heap.size w' v (putM k xs) ∧ Below w.heap.size w w' := by
  have hE := (Beg.start w s ring p xs.length cap).next ((Below.refl _ _).drew)
  have O := fun (w' : World) (h' : Below w.heap.size w w') => l1Own_any p cap xs w' lo hi' (hin.below h' hin.top) hlen
  have U := fun (w' : World) (g c : Nat) (h1 : w.heap.size ≤ g) (h2 : xs.length ≤ c) (h3 : c ≤ maxLen) (h4 : Out w.heap.size w' (.slice (some ⟨g, 0, none⟩) xs.length c) xs) => l1Put_any g 0 c xs k w' w.heap.size w'.heap.size (by obtain ⟨p', c', e, -, -, h, -⟩ := h4.rd; simp only [Value.slice.injEq, true_and] at e; obtain ⟨rfl, -⟩ := e; exact h) hlen h2 h3 hx
  replace O := Lib.hid O
  replace U := Lib.hid U
  have HE := Lib.hid hE
  obtain ⟨m, hm⟩ : ∃ m, xs.length = m := ⟨_, rfl⟩
  have hpl : (putM k xs).length = m + 1 := by rw [putM_length, hm]
  rw [hm] at HE O U hlen ⊢
  replace hpl := Lib.hid hpl
  clear hE hin hx hm
  obtain ⟨c0, c1, c2, -⟩ := HE.out.row.three
  go_enter Try.func50, Try.ntmps50
  go_wp2_with fail
  go_region_with (first
    | (go_at_call 49; refine (O.out _ HE.out.bel).mono ?_; rintro e w1 ⟨g1, k1, rfl, hg1, hk1, hk1', ho1, hb1⟩; have HE1 := Lib.hid (HE.out.next hb1); have HO1 := Lib.hid (ho1.mono HE.out.bel.size); clear ho1 hb1 c0 c1 c2; obtain ⟨d0, d1, d2, -⟩ := HE1.out.row.three)
    | (go_at_call 60; refine (U.out _ _ _ (Nat.le_trans HE.out.bel.size hg1) hk1 hk1' HO1.out).mono ?_; rintro e w2 ⟨g2, k2, rfl, hg2, hk2, hk2', ho2, hb2⟩; have HE2 := Lib.hid (HE1.out.next hb2); have HO2 := Lib.hid (ho2.mono HE1.out.bel.size); clear ho2 hb2 d0 d1 d2; obtain ⟨d0, d1, d2, -⟩ := HE2.out.row.three)
    | (go_at_call 48; refine (l2Made_any _ _ _ _ _ _ _ _ _).mono ?_; rintro e w3 ⟨rfl, hb3⟩; have HE3 := Lib.hid (HE2.out.next hb3); have HO3 := Lib.hid (HO2.out.below hb3); obtain ⟨z0, z1, z2, y0, y1, y2⟩ := HE3.out.res.three; clear hb3))
  all_goals
    go_wp2_with fail
    refine ret_row Try.results50 rfl (HE3.out.out _ _ _).1 rfl ⟨_, rfl, HO3.out.boxed HE3.out.res _ _ _, (HE3.out.out _ _ _).2⟩
end Go.Proofs.Ytogdiahojbonaaa
