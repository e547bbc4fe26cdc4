/- Chapter 9, spec side: spec.l9First, spec.FirstSpaced. -/
import Derived.Test.YtoedcklgpmhnnaaLmrS9
import Derived.Test.YtoedcklgpmhnnaaCtsS9
namespace Go.Proofs.Ytoedcklgpmhnnaa
open Go.RowKit

/-- the first spaced choice, or none -/
def fspS (n : Nat) (ring : Bool) (S : Nat → Bool) (D k : Nat) : List Nat := if k ≤ mxSp n ring D (opn n ring S D) then fstM n ring D k (opn n ring S D) else []
theorem rsL_nil (n : Nat) (ring : Bool) (S : Nat → Bool) (D k : Nat) : rsL n ring S D k [] = fspS n ring S D k ∧ okL n ring S D k [] = decide (k ≤ mxSp n ring D (opn n ring S D)) := by
  unfold rsL okL fspS resL
  rw [if_pos rfl]
  by_cases h : k ≤ mxSp n ring D (opn n ring S D)
  · rw [if_pos h, if_pos h, decide_eq_true h]; exact ⟨rfl, rfl⟩
  · rw [if_neg h, if_neg h, decide_eq_false h]; exact ⟨rfl, rfl⟩

set_option maxRecDepth 4000 in
set_option maxHeartbeats 2000000 in
theorem l9First_any (n : Nat) (ring : Bool) (p : Option Addr) (cap : Nat) (S : Nat → Bool) (K D : Nat) (w : World) (lo hi : Nat) (hin : Ri lo hi w p (ints (tk n S))) (hn1 : 1 ≤ n) (hn : n ≤ 24) (hK : K ≤ 24) (hD : 1 ≤ D) :
    Calls Try.prog 42 #[rowV n ring p (ints (tk n S)).length cap, .int .i64 (K : Int), .int .i64 (D : Int)] w fun e w' => ∃ v0, e = .returned (.tuple #[v0, .bool (decide (K ≤ mxSp n ring D (opn n ring S D)))]) ∧ Out w.heap.size w' v0 (ints (fspS n ring S D K)) ∧ Below w.heap.size w w' := by
  have hlen := ints_tk_len n S
  have hX := OwnArr.made w 28 [Value.int .i64 n, Value.bool ring, Value.slice p (ints (tk n S)).length cap]
  have hB := box_below w n ring p (ints (tk n S)).length cap 28
  have CN := Lib.hid (fun (w' : World) (h' : Below w.heap.size w w') => l9Counts_any n ring p cap S D w' lo hi (hin.below h' hin.top) hn1 hn hD)
  obtain ⟨z1, z2⟩ := rsL_nil n ring S D K
  have MR : Hid (∀ (w1 : World), Below w.heap.size w w1 → Calls Try.prog 65 #[rowV n ring p (ints (tk n S)).length cap, .slice (some ⟨w1.heap.size, 0, none⟩) 0 0, .int .i64 (K : Int), .int .i64 (D : Int)] (w1.alloc (.cells #[] 3)) fun e w' => ∃ v', e = .returned (.tuple #[v', .bool (decide (K ≤ mxSp n ring D (opn n ring S D)))]) ∧ Out w1.heap.size w' v' (ints (fspS n ring S D K)) ∧ Below (w1.alloc (.cells #[] 3)).heap.size (w1.alloc (.cells #[] 3)) w') := by
    show ∀ _, _
    intro w1 h1
    have h2 : Below w.heap.size w (w1.alloc (.cells #[] 3)) := h1.alloc h1.size _
    have := l9More_any n ring p cap S D K hn1 hn hK K [] w1.heap.size _ (w1.alloc (.cells #[] 3)) lo hi (hin.below h2 hin.top) (by simp) List.Pairwise.nil (fun x hx => by cases hx) (Out.nilLit w1) (by simp)
    rw [z1, z2] at this
    exact this
  have hpo := spk_pos (n := n) (ring := ring) hD K (opn_sorted n ring S D) opn_lt
  have HG : Hid (∀ (B g c : Nat) (w' : World), Out B w' (.slice (some ⟨g, 0, none⟩) 25 c) (ints (spkR n ring S D)) → w'.cell? ⟨g, K, none⟩ = some (.int .i64 ((spkM n ring D (opn n ring S D) K : Nat) : Int))) := fun B g c w' h => spk_cells h K (by omega)
  have hfs : ¬ K ≤ mxSp n ring D (opn n ring S D) → fspS n ring S D K = [] := fun h => by unfold fspS; rw [if_neg h]
  obtain ⟨V, hV⟩ : ∃ V, spkM n ring D (opn n ring S D) K = V := ⟨_, rfl⟩
  obtain ⟨MX, hMX⟩ : ∃ M, mxSp n ring D (opn n ring S D) = M := ⟨_, rfl⟩
  obtain ⟨R, hR⟩ : ∃ R, fspS n ring S D K = R := ⟨_, rfl⟩
  rw [hV] at HG hpo
  rw [hMX] at hpo MR hfs ⊢
  rw [hR] at MR hfs ⊢
  obtain ⟨m0, hm0⟩ : ∃ m, (ints (tk n S)).length = m := ⟨_, rfl⟩
  rw [hm0] at hX hB CN MR ⊢
  have HX := Lib.hid hX
  have HB := Lib.hid hB
  have HPO := Lib.hid hpo
  have HFS := Lib.hid hfs
  obtain ⟨T, hT⟩ : ∃ T, decide (K ≤ MX) = T := ⟨_, rfl⟩
  rw [hT] at MR ⊢
  have HT := Lib.hid hT
  have hk1 : (K : Int) < 25 := by omega
  obtain ⟨c0, c1, c2, -⟩ := HX.out.three
  clear hin hm0 hlen hX hB hV hMX hR hT z1 z2 hpo hfs
  go_enter Try.func42, Try.ntmps42
  go_wp2_with fail
  refine (CN.out _ HB.out).mono ?_
  rintro e w3 ⟨g, c, rfl, hO, hb3⟩
  have hcc := HG.out _ _ _ _ hO
  have HB3 := Lib.hid (HB.out.trans (hb3.mono HB.out.size))
  have HX3 := Lib.hid (HX.out.below hb3 HX.out.lt)
  clear hO hb3 CN HB HX c0 c1 c2 HG
  by_cases hm : K ≤ MX
  · have hv0 : ¬ V = 0 := by have := HPO.out.2 hm; omega
    have hv1 : ((V : Int) == 0) = false := by simpa using hv0
    have hsz := HB3.out.size
    have M2 := Lib.hid (MR.out w3 HB3.out)
    have hba : Below w.heap.size w (w3.alloc (.cells #[] 3)) := HB3.out.alloc hsz _
    have HBA := Lib.hid hba
    obtain ⟨c0, c1, c2, -⟩ := (HX3.out.alloc (.cells #[] 3)).three
    obtain ⟨d0, d1, d2, -⟩ := HX3.out.three
    clear HFS HPO HT hm MR hba
    go_wp2_with fail
    refine M2.out.mono ?_
    rintro e w5 ⟨v, rfl, hO5, hb5⟩
    have HO5 := Lib.hid (hO5.mono hsz)
    have HB5 := Lib.hid (HBA.out.trans (hb5.mono HBA.out.size))
    clear hO5 hb5 M2 c0 c1 c2 d0 d1 d2 HX3
    go_wp2_with fail
    go_ret2
    exact ⟨_, rfl, HO5.out, HB5.out⟩
  · have hv0 : V = 0 := by
      rcases Nat.eq_zero_or_pos V with h | h
      · exact h
      · exact absurd (HPO.out.1 h) hm
    have hr := HFS.out hm
    have ht : T = false := by rw [← HT.out]; exact decide_eq_false hm
    rw [hv0] at hcc
    have HBF := Lib.hid (HB3.out.alloc HB3.out.size (.cells #[] 3))
    have HOF : Hid (Out w.heap.size (w3.alloc (.cells #[] 3)) (.slice (some ⟨w3.heap.size, 0, none⟩) 0 0) (ints [])) := (Out.nilLit w3).mono HB3.out.size
    clear HFS HPO HT hv0 MR hm
    subst hr ht
    go_wp2_with fail
    go_ret2
    exact ⟨_, rfl, HOF.out, HBF.out⟩

set_option maxRecDepth 4000 in
set_option maxHeartbeats 1000000 in
theorem firstSpacedS_bad (s : Int) (ring : Bool) (p : Option Addr) (cap : Nat) (xs : List Int) (k d : Int) (w : World) (lo hi : Nat) (hin : Ri lo hi w p xs) (hlen : xs.length ≤ 1048576) (hr : ((rowB s ring xs && decide (1 ≤ d)) && (decide (0 ≤ k) && decide (k ≤ 24))) = false) :
    Calls Try.prog 18 #[rowV s ring p xs.length cap, .int .i64 k, .int .i64 d] w fun e w' => ∃ v0, e = .returned (.tuple #[v0, .bool false]) ∧ Out w.heap.size w' v0 [] ∧ Below w.heap.size w w' := by
  have hB := box_below w s ring p xs.length cap 28
  have I := l9Ask_any s ring p cap xs d _ lo hi (hin.below hB hin.top) hlen
  have IN := fun w' => l1In_any k 0 24 w'
  obtain ⟨A, hA⟩ : ∃ A, (rowB s ring xs && decide (1 ≤ d)) = A := ⟨_, rfl⟩
  obtain ⟨C, hC⟩ : ∃ C, (decide (0 ≤ k) && decide (k ≤ 24)) = C := ⟨_, rfl⟩
  rw [hA] at I hr
  rw [hC] at IN hr
  replace I := Lib.hid I
  replace IN := Lib.hid IN
  obtain ⟨m0, hm0⟩ : ∃ m, xs.length = m := ⟨_, rfl⟩
  rw [hm0] at hB I ⊢
  have HB := Lib.hid hB
  clear hin hm0 hlen hB hA hC
  cases A with
  | false =>
    clear hr IN
    go_enter Try.func18, Try.ntmps18
    go_wp2_with fail
    refine I.out.mono ?_
    rintro e w2 ⟨rfl, hb2⟩
    have HB2 := Lib.hid (HB.out.trans (hb2.mono HB.out.size))
    have HBZ := Lib.hid (HB2.out.alloc HB2.out.size (.cells #[] 3))
    have HOZ := Lib.hid ((Out.nilLit w2).mono HB2.out.size)
    clear I HB hb2
    go_wp2_with fail
    go_ret2
    exact ⟨_, rfl, HOZ.out, HBZ.out⟩
  | true =>
    have hC2 : C = false := by simpa using hr
    subst hC2
    clear hr
    go_enter Try.func18, Try.ntmps18
    go_wp2_with fail
    refine I.out.mono ?_
    rintro e w2 ⟨rfl, hb2⟩
    have HB2 := Lib.hid (HB.out.trans (hb2.mono HB.out.size))
    have HBZ := Lib.hid (HB2.out.alloc HB2.out.size (.cells #[] 3))
    have HOZ := Lib.hid ((Out.nilLit w2).mono HB2.out.size)
    clear I HB hb2
    go_wp2_with fail
    refine (IN.out _).mono ?_
    rintro e w3 ⟨rfl, rfl⟩
    go_wp2_with fail
    go_ret2
    exact ⟨_, rfl, HOZ.out, HBZ.out⟩

set_option maxRecDepth 4000 in
set_option maxHeartbeats 1000000 in
theorem firstSpacedS_any (n : Nat) (ring : Bool) (p : Option Addr) (cap : Nat) (S : Nat → Bool) (K D : Nat) (w : World) (lo hi : Nat) (hin : Ri lo hi w p (ints (tk n S))) (hr : rowB n ring (ints (tk n S)) = true) (hK : K ≤ 24) (hD : 1 ≤ D) :
    Calls Try.prog 18 #[rowV n ring p (ints (tk n S)).length cap, .int .i64 (K : Int), .int .i64 (D : Int)] w fun e w' => ∃ v0, e = .returned (.tuple #[v0, .bool (decide (K ≤ mxSp n ring D (opn n ring S D)))]) ∧ Out w.heap.size w' v0 (ints (fspS n ring S D K)) ∧ Below w.heap.size w w' := by
  obtain ⟨hn1, hn⟩ := row_n24 hr
  have hlen := ints_tk_len n S
  have hX := OwnArr.made w 28 [Value.int .i64 n, Value.bool ring, Value.slice p (ints (tk n S)).length cap]
  have hB := box_below w n ring p (ints (tk n S)).length cap 28
  have I := l9Ask_any n ring p cap (ints (tk n S)) D _ lo hi (hin.below hB hin.top) (by omega)
  rw [hr, decide_eq_true (by omega : (1 : Int) ≤ (D : Int))] at I
  replace I := Lib.hid I
  have IN := fun w' => l1In_any (K : Int) 0 24 w'
  rw [show (decide (0 ≤ (K : Int)) && decide ((K : Int) ≤ 24)) = true by rw [decide_eq_true (by omega), decide_eq_true (by omega)]; rfl] at IN
  replace IN := Lib.hid IN
  have CN := Lib.hid (fun (w' : World) (h' : Below w.heap.size w w') => l9First_any n ring p cap S K D w' lo hi (hin.below h' hin.top) hn1 hn hK hD)
  obtain ⟨T, hT⟩ : ∃ T, decide (K ≤ mxSp n ring D (opn n ring S D)) = T := ⟨_, rfl⟩
  obtain ⟨R, hR⟩ : ∃ R, fspS n ring S D K = R := ⟨_, rfl⟩
  rw [hT, hR] at CN ⊢
  obtain ⟨m0, hm0⟩ : ∃ m, (ints (tk n S)).length = m := ⟨_, rfl⟩
  rw [hm0] at hX hB I CN ⊢
  have HX := Lib.hid hX
  have HB := Lib.hid hB
  obtain ⟨c0, c1, c2, -⟩ := HX.out.three
  clear hin hm0 hlen hX hB hr hT hR
  go_enter Try.func18, Try.ntmps18
  go_wp2_with fail
  refine I.out.mono ?_
  rintro e w2 ⟨rfl, hb2⟩
  have HB2 := Lib.hid (HB.out.trans (hb2.mono HB.out.size))
  have HX2 := Lib.hid (HX.out.below hb2 HX.out.lt)
  clear I HB hb2 HX c0 c1 c2
  obtain ⟨c0, c1, c2, -⟩ := HX2.out.three
  go_wp2_with fail
  refine (IN.out _).mono ?_
  rintro e w3 ⟨rfl, rfl⟩
  go_wp2_with fail
  refine (CN.out _ HB2.out).mono ?_
  rintro e w3 ⟨v, rfl, hO, hb3⟩
  have HO3 := Lib.hid (hO.mono HB2.out.size)
  have HB3 := Lib.hid (HB2.out.trans (hb3.mono HB2.out.size))
  clear hO hb3 CN HB2 HX2 c0 c1 c2
  go_wp2_with fail
  go_ret2
  exact ⟨_, rfl, HO3.out, HB3.out⟩
end Go.Proofs.Ytoedcklgpmhnnaa
