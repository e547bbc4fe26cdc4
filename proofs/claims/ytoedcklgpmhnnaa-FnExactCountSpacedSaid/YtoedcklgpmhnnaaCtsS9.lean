/- Chapter 9, spec side: spec.CountSpaced, spec.GreatestSpread. -/
import Derived.Test.YtoedcklgpmhnnaaMstS9
import Derived.Test.YtoedcklgpmhnnaaIsRow
namespace Go.Proofs.Ytoedcklgpmhnnaa
open Go.RowKit

set_option maxRecDepth 4000 in
set_option maxHeartbeats 1000000 in
theorem countSpacedS_bad (s : Int) (ring : Bool) (p : Option Addr) (cap : Nat) (xs : List Int) (k d : Int) (w : World) (lo hi : Nat) (hin : Ri lo hi w p xs) (hlen : xs.length ≤ 1048576) (hr : ((rowB s ring xs && decide (1 ≤ d)) && (decide (0 ≤ k) && decide (k ≤ 24))) = false) :
    Calls Try.prog 16 #[rowV s ring p xs.length cap, .int .i64 k, .int .i64 d] w fun e w' => e = .returned (.tuple #[.int .i64 0, .bool false]) ∧ Below w.heap.size w w' := by
  have hB := box_below w s ring p xs.length cap 28
  have I := l9Ask_any s ring p cap xs d _ lo hi (hin.below hB hin.top) hlen
  have IN := fun w' => l1In_any k 0 24 w'
  obtain ⟨A, hA⟩ : ∃ A, (rowB s ring xs && decide (1 ≤ d)) = A := ⟨_, rfl⟩
  obtain ⟨C, hC⟩ : ∃ C, (decide (0 ≤ k) && decide (k ≤ 24)) = C := ⟨_, rfl⟩
  rw [hA] at I hr
  rw [hC] at IN hr
  replace I := Lib.hid I
  replace IN := Lib.hid IN
  obtain ⟨m0, hm0⟩ : ∃ m, xs.length = m := ⟨_, rfl⟩
  rw [hm0] at hB I ⊢
  have HB := Lib.hid hB
  clear hin hm0 hlen hB hA hC
  cases A with
  | false =>
    clear hr IN
    go_enter Try.func16, Try.ntmps16
    go_wp2_with fail
    refine I.out.mono ?_
    rintro e w2 ⟨rfl, hb2⟩
    have HB2 := Lib.hid (HB.out.trans (hb2.mono HB.out.size))
    clear I HB hb2
    go_wp2_with fail
    go_ret2
    exact ⟨rfl, HB2.out⟩
  | true =>
    have hC2 : C = false := by simpa using hr
    subst hC2
    clear hr
    go_enter Try.func16, Try.ntmps16
    go_wp2_with fail
    refine I.out.mono ?_
    rintro e w2 ⟨rfl, hb2⟩
    have HB2 := Lib.hid (HB.out.trans (hb2.mono HB.out.size))
    clear I HB hb2
    go_wp2_with fail
    refine (IN.out _).mono ?_
    rintro e w3 ⟨rfl, rfl⟩
    go_wp2_with fail
    go_ret2
    exact ⟨rfl, HB2.out⟩

set_option maxRecDepth 4000 in
set_option maxHeartbeats 1000000 in
theorem countSpacedS_any (n : Nat) (ring : Bool) (p : Option Addr) (cap : Nat) (S : Nat → Bool) (k D : Nat) (w : World) (lo hi : Nat) (hin : Ri lo hi w p (ints (tk n S))) (hr : rowB n ring (ints (tk n S)) = true) (hk : k ≤ 24) (hD : 1 ≤ D) :
    Calls Try.prog 16 #[rowV n ring p (ints (tk n S)).length cap, .int .i64 (k : Int), .int .i64 (D : Int)] w fun e w' => e = .returned (.tuple #[.int .i64 ((spkM n ring D (opn n ring S D) k : Nat) : Int), .bool true]) ∧ Below w.heap.size w w' := by
  obtain ⟨hn1, hn⟩ := row_n24 hr
  have hlen := ints_tk_len n S
  have hX := OwnArr.made w 28 [Value.int .i64 n, Value.bool ring, Value.slice p (ints (tk n S)).length cap]
  have hB := box_below w n ring p (ints (tk n S)).length cap 28
  have I := l9Ask_any n ring p cap (ints (tk n S)) D _ lo hi (hin.below hB hin.top) (by omega)
  rw [hr, decide_eq_true (by omega : (1 : Int) ≤ (D : Int))] at I
  replace I := Lib.hid I
  have IN := fun w' => l1In_any (k : Int) 0 24 w'
  rw [show (decide (0 ≤ (k : Int)) && decide ((k : Int) ≤ 24)) = true by rw [decide_eq_true (by omega), decide_eq_true (by omega)]; rfl] at IN
  replace IN := Lib.hid IN
  have CN := Lib.hid (fun (w' : World) (h' : Below w.heap.size w w') => l9Counts_any n ring p cap S D w' lo hi (hin.below h' hin.top) hn1 hn hD)
  obtain ⟨m0, hm0⟩ : ∃ m, (ints (tk n S)).length = m := ⟨_, rfl⟩
  rw [hm0] at hX hB I CN ⊢
  have HX := Lib.hid hX
  have HB := Lib.hid hB
  obtain ⟨c0, c1, c2, -⟩ := HX.out.three
  have HG : Hid (∀ (B g c : Nat) (w' : World), Out B w' (.slice (some ⟨g, 0, none⟩) 25 c) (ints (spkR n ring S D)) → w'.cell? ⟨g, k, none⟩ = some (.int .i64 ((spkM n ring D (opn n ring S D) k : Nat) : Int))) := fun B g c w' h => spk_cells h k (by omega)
  obtain ⟨V, hV⟩ : ∃ V, spkM n ring D (opn n ring S D) k = V := ⟨_, rfl⟩
  rw [hV] at HG ⊢
  have hk1 : (k : Int) < 25 := by omega
  clear hin hm0 hlen hX hB hr hV
  go_enter Try.func16, Try.ntmps16
  go_wp2_with fail
  refine I.out.mono ?_
  rintro e w2 ⟨rfl, hb2⟩
  have HB2 := Lib.hid (HB.out.trans (hb2.mono HB.out.size))
  have HX2 := Lib.hid (HX.out.below hb2 HX.out.lt)
  clear I HB hb2 HX c0 c1 c2
  obtain ⟨c0, c1, c2, -⟩ := HX2.out.three
  go_wp2_with fail
  refine (IN.out _).mono ?_
  rintro e w3 ⟨rfl, rfl⟩
  go_wp2_with fail
  refine (CN.out _ HB2.out).mono ?_
  rintro e w3 ⟨g, c, rfl, hO, hb3⟩
  have hcc := HG.out _ _ _ _ hO
  have HB3 := Lib.hid (HB2.out.trans (hb3.mono HB2.out.size))
  clear hO hb3 CN HB2 HX2 c0 c1 c2 HG
  go_wp2_with fail
  go_ret2
  exact ⟨rfl, HB3.out⟩

set_option maxRecDepth 4000 in
set_option maxHeartbeats 1000000 in
theorem greatestS_bad (s : Int) (ring : Bool) (p : Option Addr) (cap : Nat) (xs : List Int) (k : Int) (w : World) (lo hi : Nat) (hin : Ri lo hi w p xs) (hlen : xs.length ≤ 1048576) (hr : (rowB s ring xs && (decide (1 ≤ k) && decide (k ≤ 24))) = false) :
    Calls Try.prog 25 #[rowV s ring p xs.length cap, .int .i64 k] w fun e w' => e = .returned (.tuple #[.int .i64 0, .bool false]) ∧ Below w.heap.size w w' := by
  have hB := box_below w s ring p xs.length cap 28
  have I := l2Row_any s ring p cap xs _ lo hi (hin.below hB hin.top) hlen
  have IN := fun w' => l1In_any k 1 24 w'
  obtain ⟨A, hA⟩ : ∃ A, rowB s ring xs = A := ⟨_, rfl⟩
  obtain ⟨C, hC⟩ : ∃ C, (decide (1 ≤ k) && decide (k ≤ 24)) = C := ⟨_, rfl⟩
  rw [hA] at I hr
  rw [hC] at IN hr
  replace I := Lib.hid I
  replace IN := Lib.hid IN
  obtain ⟨m0, hm0⟩ : ∃ m, xs.length = m := ⟨_, rfl⟩
  rw [hm0] at hB I ⊢
  have HB := Lib.hid hB
  clear hin hm0 hlen hB hA hC
  cases A with
  | false =>
    clear hr IN
    go_enter Try.func25, Try.ntmps25
    go_wp2_with fail
    refine I.out.mono ?_
    rintro e w2 ⟨rfl, hb2⟩
    have HB2 := Lib.hid (HB.out.trans (hb2.mono HB.out.size))
    clear I HB hb2
    go_wp2_with fail
    go_ret2
    exact ⟨rfl, HB2.out⟩
  | true =>
    have hC2 : C = false := by simpa using hr
    subst hC2
    clear hr
    go_enter Try.func25, Try.ntmps25
    go_wp2_with fail
    refine I.out.mono ?_
    rintro e w2 ⟨rfl, hb2⟩
    have HB2 := Lib.hid (HB.out.trans (hb2.mono HB.out.size))
    clear I HB hb2
    go_wp2_with fail
    refine (IN.out _).mono ?_
    rintro e w3 ⟨rfl, rfl⟩
    go_wp2_with fail
    go_ret2
    exact ⟨rfl, HB2.out⟩

/-- the greatest spread of k seats, or 0 -/
def gspM (n : Nat) (ring : Bool) (S : Nat → Bool) (k : Nat) : Nat := topM (fun d => decide (k ≤ mxSp n ring d (opn n ring S d))) n
theorem gsp_is {n : Nat} {ring : Bool} {S : Nat → Bool} {k D : Nat} (h1 : 1 ≤ D) (hD : D ≤ n) (hy : k ≤ mxSp n ring D (opn n ring S D)) (hno : D = n ∨ ¬ k ≤ mxSp n ring (D + 1) (opn n ring S (D + 1))) : gspM n ring S k = D := by
  unfold gspM
  refine top_is hD (fun _ => decide_eq_true hy) (fun j hj hj2 => ?_)
  rw [decide_eq_false_iff_not]
  intro h
  rcases hno with e | e
  · omega
  · exact e (Nat.le_trans h (mxSp_mono (by omega) (by omega)))
theorem gsp_none {n : Nat} {ring : Bool} {S : Nat → Bool} {k : Nat} (h : ¬ k ≤ mxSp n ring 1 (opn n ring S 1)) : gspM n ring S k = 0 := by
  unfold gspM
  refine top_is (Nat.zero_le _) (fun h => by omega) (fun j hj hj2 => ?_)
  rw [decide_eq_false_iff_not]
  intro h2
  exact h (Nat.le_trans h2 (mxSp_mono (Nat.le_refl _) (by omega)))
theorem gsp_pos {n : Nat} {ring : Bool} {S : Nat → Bool} {k : Nat} (hn : 1 ≤ n) (h : k ≤ mxSp n ring 1 (opn n ring S 1)) : 1 ≤ gspM n ring S k := by
  unfold gspM
  have key : ∀ m, 1 ≤ m → 1 ≤ topM (fun d => decide (k ≤ mxSp n ring d (opn n ring S d))) m := by
    intro m
    induction m with
    | zero => intro h; omega
    | succ m ih =>
      intro _
      unfold topM
      by_cases e : decide (k ≤ mxSp n ring (m + 1) (opn n ring S (m + 1))) = true
      · rw [if_pos e]; omega
      · rw [if_neg e]
        rcases Nat.eq_zero_or_pos m with h0 | h0
        · subst h0; exact absurd (decide_eq_true h) e
        · exact ih h0
  exact key n hn

set_option maxRecDepth 4000 in
set_option maxHeartbeats 2000000 in
theorem greatestS_any (n : Nat) (ring : Bool) (p : Option Addr) (cap : Nat) (S : Nat → Bool) (k : Nat) (w : World) (lo hi : Nat) (hin : Ri lo hi w p (ints (tk n S))) (hr : rowB n ring (ints (tk n S)) = true) (hk1 : 1 ≤ k) (hk : k ≤ 24) :
    Calls Try.prog 25 #[rowV n ring p (ints (tk n S)).length cap, .int .i64 (k : Int)] w fun e w' => e = .returned (.tuple #[.int .i64 ((gspM n ring S k : Nat) : Int), .bool (decide (k ≤ mxSp n ring 1 (opn n ring S 1)))]) ∧ Below w.heap.size w w' := by
  obtain ⟨hn1, hn⟩ := row_n24 hr
  have hlen := ints_tk_len n S
  have hX := OwnArr.made w 28 [Value.int .i64 n, Value.bool ring, Value.slice p (ints (tk n S)).length cap]
  have hB := box_below w n ring p (ints (tk n S)).length cap 28
  have I := l2Row_any n ring p cap (ints (tk n S)) _ lo hi (hin.below hB hin.top) (by omega)
  rw [hr] at I
  replace I := Lib.hid I
  have IN := fun w' => l1In_any (k : Int) 1 24 w'
  rw [show (decide (1 ≤ (k : Int)) && decide ((k : Int) ≤ 24)) = true by rw [decide_eq_true (by omega), decide_eq_true (by omega)]; rfl] at IN
  replace IN := Lib.hid IN
  have CN := Lib.hid (fun (D : Nat) (hD : 1 ≤ D) (w' : World) (h' : Below w.heap.size w w') => l9Counts_any n ring p cap S D w' lo hi (hin.below h' hin.top) hn1 hn hD)
  have HPO : Hid (∀ D, 1 ≤ D → (0 < spkM n ring D (opn n ring S D) k ↔ k ≤ mxSp n ring D (opn n ring S D))) := fun D hD => spk_pos hD k (opn_sorted _ _ _ _) opn_lt
  have HIS : Hid (∀ D, 1 ≤ D → D ≤ n → k ≤ mxSp n ring D (opn n ring S D) → (D = n ∨ ¬ k ≤ mxSp n ring (D + 1) (opn n ring S (D + 1))) → gspM n ring S k = D) := fun D h1 h2 h3 h4 => gsp_is h1 h2 h3 h4
  have HNO : Hid (¬ k ≤ mxSp n ring 1 (opn n ring S 1) → gspM n ring S k = 0) := gsp_none
  have HG : Hid (∀ (B g c D : Nat) (w' : World), Out B w' (.slice (some ⟨g, 0, none⟩) 25 c) (ints (spkR n ring S D)) → w'.cell? ⟨g, k, none⟩ = some (.int .i64 ((spkM n ring D (opn n ring S D) k : Nat) : Int))) := fun B g c D w' h => spk_cells h k (by omega)
  obtain ⟨m0, hm0⟩ : ∃ m, (ints (tk n S)).length = m := ⟨_, rfl⟩
  rw [hm0] at hX hB I CN ⊢
  have HX := Lib.hid hX
  have HB := Lib.hid hB
  obtain ⟨c0, c1, c2, -⟩ := HX.out.three
  obtain ⟨MX, hMX⟩ : ∃ M : Nat → Nat, (fun D => mxSp n ring D (opn n ring S D)) = M := ⟨_, rfl⟩
  have hmx : ∀ D, mxSp n ring D (opn n ring S D) = MX D := fun D => by rw [← hMX]
  obtain ⟨SP, hSP⟩ : ∃ M : Nat → Nat, (fun D => spkM n ring D (opn n ring S D) k) = M := ⟨_, rfl⟩
  have hsp : ∀ D, spkM n ring D (opn n ring S D) k = SP D := fun D => by rw [← hSP]
  obtain ⟨GS, hGS⟩ : ∃ G, gspM n ring S k = G := ⟨_, rfl⟩
  obtain ⟨OKB, hOK⟩ : ∃ b, decide (k ≤ mxSp n ring 1 (opn n ring S 1)) = b := ⟨_, rfl⟩
  rw [hGS] at HIS HNO ⊢
  rw [hOK]
  simp only [hmx] at HPO HIS HNO hOK
  simp only [hsp] at HPO HG
  have HOK := Lib.hid hOK
  have hk1 : (k : Int) < 25 := by omega
  have CN1 : Hid (∀ (w' : World), Below w.heap.size w w' → Calls Try.prog 38 #[rowV n ring p m0 cap, .int .i64 1] w' fun ex w'' => ∃ g c, ex = .returned (.slice (some ⟨g, 0, none⟩) 25 c) ∧ Out w'.heap.size w'' (.slice (some ⟨g, 0, none⟩) 25 c) (ints (spkR n ring S 1)) ∧ Below w'.heap.size w' w'') := fun w' h' => CN.out 1 (Nat.le_refl _) w' h'
  clear hin hm0 hlen hX hB hr hMX hmx hSP hsp hGS hOK
  go_enter Try.func25, Try.ntmps25
  go_wp2_with fail
  refine I.out.mono ?_
  rintro e w2 ⟨rfl, hb2⟩
  have HB2 := Lib.hid (HB.out.trans (hb2.mono HB.out.size))
  have HX2 := Lib.hid (HX.out.below hb2 HX.out.lt)
  clear I HB hb2 HX c0 c1 c2
  obtain ⟨c0, c1, c2, -⟩ := HX2.out.three
  go_wp2_with fail
  refine (IN.out _).mono ?_
  rintro e w3 ⟨rfl, rfl⟩
  go_wp2_with fail
  refine (CN1.out _ HB2.out).mono ?_
  rintro e w3 ⟨g, c, rfl, hO, hb3⟩
  have hcc := HG.out _ _ _ _ _ hO
  have HB3 := Lib.hid (HB2.out.trans (hb3.mono HB2.out.size))
  have HX3 := Lib.hid (HX2.out.below hb3 HX2.out.lt)
  have hpo := HPO.out 1 (Nat.le_refl _)
  obtain ⟨x, hx⟩ : ∃ x, SP 1 = x := ⟨_, rfl⟩
  rw [hx] at hcc hpo
  clear hO hb3 HB2 HX2 c0 c1 c2 hx CN1
  obtain ⟨c0, c1, c2, -⟩ := HX3.out.three
  by_cases hm1 : k ≤ MX 1
  · have hx0 : ¬ (x : Int) = 0 := by have := hpo.2 hm1; omega
    have hx00 : ¬ x = 0 := by omega
    have hxe : ((x : Int) == 0) = false := by simpa using hx00
    have hot : OKB = true := by rw [← HOK.out]; exact decide_eq_true hm1
    have HM1 := Lib.hid hm1
    clear hpo HNO hm1 HOK
    subst hot
    go_wp2_with fail
    clear hcc c0 c1 c2 hx0 hx00 hxe
    go_loopw [6] (fun v wr => ∃ (d : Nat), 1 ≤ d ∧ d ≤ n ∧ v = .int .i64 (d : Int) ∧ Hid (k ≤ MX d) ∧ Hid (OwnArr wr w.heap.size 28 [.int .i64 n, .bool ring, .slice p m0 cap]) ∧ Hid (Below w.heap.size w wr)) (fun v _ => n - (intOf v).toNat)
    case atStart => exact ⟨1, Nat.le_refl _, hn1, rfl, HM1, HX3, HB3⟩
    case round =>
      obtain ⟨d, hd1, hd2, rfl, HMD, HX, HB⟩ := hrel
      clear HM1 HX3 HB3
      obtain ⟨c0, c1, c2, -⟩ := HX.out.three
      by_cases hlt : d < n
      · have hki : (d : Int) < (n : Int) := by omega
        have hw1 : IntKind.i64.wrap ((d : Int) + 1) = (d : Int) + 1 := IntWalk.i64_in _ (by omega)
        have C2 := CN.out (d + 1) (by omega) wr HB.out
        rw [show ((d + 1 : Nat) : Int) = (d : Int) + 1 by omega] at C2
        have hpo := HPO.out (d + 1) (by omega)
        replace C2 := Lib.hid C2
        have his := HIS.out d hd1 hd2 HMD.out
        obtain ⟨x2, hx2⟩ : ∃ x, SP (d + 1) = x := ⟨_, rfl⟩
        rw [hx2] at hpo
        have HX2 := Lib.hid hx2
        have HPO2 := Lib.hid hpo
        have HIS2 := Lib.hid his
        clear hpo his hx2
        go_wp2_with fail
        refine C2.out.mono ?_
        rintro e w4 ⟨g4, c4, rfl, hO4, hb4⟩
        have hcc4 := HG.out _ _ _ _ _ hO4
        rw [HX2.out] at hcc4
        have HB4 := Lib.hid (HB.out.trans (hb4.mono HB.out.size))
        have HX4 := Lib.hid (HX.out.below hb4 HX.out.lt)
        clear hO4 hb4 HB HX c0 c1 c2 C2
        by_cases hm2 : k ≤ MX (d + 1)
        · have hx20 : (0 : Int) < (x2 : Int) := by have := HPO2.out.2 hm2; omega
          have HM2 := Lib.hid hm2
          clear hm2
          go_wp2_with fail
          go_roundw
          case rel => exact ⟨d + 1, by omega, by omega, by go_num, HM2, HX4, HB4⟩
          case measure => simp [intOf]; omega
        · have hx20 : x2 = 0 := by
            rcases Nat.eq_zero_or_pos x2 with h | h
            · exact h
            · exact absurd (HPO2.out.1 h) hm2
          have hgs := HIS2.out (.inr hm2)
          rw [hx20] at hcc4
          clear hx20 hm2
          subst hgs
          go_wp2_with fail
          go_ret2
          exact ⟨rfl, HB4.out⟩
      · have hdn : d = n := by omega
        have hki : ¬ (d : Int) < (n : Int) := by omega
        have hgs := HIS.out d hd1 hd2 HMD.out (.inl hdn)
        clear hdn
        subst hgs
        go_wp2_with fail
        go_ret2
        exact ⟨rfl, HB.out⟩
  · have hx0 : x = 0 := by
      rcases Nat.eq_zero_or_pos x with h | h
      · exact h
      · exact absurd (hpo.1 h) hm1
    have hot : OKB = false := by rw [← HOK.out]; exact decide_eq_false hm1
    have hgs := HNO.out hm1
    rw [hx0] at hcc
    clear hpo HNO hx0 HOK
    subst hot
    subst hgs
    go_wp2_with fail
    go_ret2
    exact ⟨rfl, HB3.out⟩
end Go.Proofs.Ytoedcklgpmhnnaa
