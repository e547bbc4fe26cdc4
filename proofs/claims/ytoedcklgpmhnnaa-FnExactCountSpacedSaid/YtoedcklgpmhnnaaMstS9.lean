/- Chapter 9, spec side: spec.MostSpaced, spec.CountSpaced. -/
import Derived.Test.YtoedcklgpmhnnaaCntS9
import Derived.Test.YtoedcklgpmhnnaaSpcS9
namespace Go.Proofs.Ytoedcklgpmhnnaa
open Go.RowKit

/-- what the counts' cells hold -/
theorem spk_cells {B : Nat} {w : World} {g n c d nn : Nat} {ring : Bool} {S : Nat → Bool} (h : Out B w (.slice (some ⟨g, 0, none⟩) nn c) (ints (spkR n ring S d))) : ∀ i, i < 25 → w.cell? ⟨g, i, none⟩ = some (.int .i64 ((spkM n ring d (opn n ring S d) i : Nat) : Int)) := by
  intro i hi
  have := (h.at9 (i := i) (by rw [ints_length, spkR_len]; exact hi)).1
  rw [ints_get (by rw [spkR_len]; exact hi), spkR_get hi] at this
  exact this
theorem row_n24 {n : Nat} {ring : Bool} {S : Nat → Bool} (hr : rowB n ring (ints (tk n S)) = true) : 1 ≤ n ∧ n ≤ 24 := by
  obtain ⟨n', S', e, -, h0, h, -⟩ := rowB_is hr
  have : n = n' := by omega
  omega
theorem mx_24 {n : Nat} {ring : Bool} {S : Nat → Bool} {d : Nat} (hn : n ≤ 24) : mxSp n ring d (opn n ring S d) ≤ 24 :=
  Nat.le_trans (mxSp_le n ring d _) (Nat.le_trans (tk_length_le n _) hn)

set_option maxHeartbeats 1000000 in
theorem mostSpacedS_bad (s : Int) (ring : Bool) (p : Option Addr) (cap : Nat) (xs : List Int) (d : Int) (w : World) (lo hi : Nat) (hin : Ri lo hi w p xs) (hlen : xs.length ≤ 1048576) (hr : (rowB s ring xs && decide (1 ≤ d)) = false) :
    Calls Try.prog 23 #[rowV s ring p xs.length cap, .int .i64 d] w fun e w' => e = .returned (.tuple #[.int .i64 0, .bool false]) ∧ Below w.heap.size w w' := by
  have hB := box_below w s ring p xs.length cap 28
  have I := l9Ask_any s ring p cap xs d _ lo hi (hin.below hB hin.top) hlen
  rw [hr] at I
  replace I := Lib.hid I
  obtain ⟨m0, hm0⟩ : ∃ m, xs.length = m := ⟨_, rfl⟩
  rw [hm0] at hB I ⊢
  have HB := Lib.hid hB
  clear hin hm0 hlen hB hr
  go_enter Try.func23, Try.ntmps23
  go_wp2_with fail
  refine I.out.mono ?_
  rintro e w2 ⟨rfl, hb2⟩
  have HB2 := Lib.hid (HB.out.trans (hb2.mono HB.out.size))
  clear I HB hb2
  go_wp2_with fail
  go_ret2
  exact ⟨rfl, HB2.out⟩

set_option maxRecDepth 4000 in
set_option maxHeartbeats 2000000 in
theorem mostSpacedS_any (n : Nat) (ring : Bool) (p : Option Addr) (cap : Nat) (S : Nat → Bool) (D : Nat) (w : World) (lo hi : Nat) (hin : Ri lo hi w p (ints (tk n S))) (hr : rowB n ring (ints (tk n S)) = true) (hD : 1 ≤ D) :
    Calls Try.prog 23 #[rowV n ring p (ints (tk n S)).length cap, .int .i64 (D : Int)] w fun e w' => e = .returned (.tuple #[.int .i64 ((mxSp n ring D (opn n ring S D) : Nat) : Int), .bool true]) ∧ Below w.heap.size w w' := by
  obtain ⟨hn1, hn⟩ := row_n24 hr
  have hlen := ints_tk_len n S
  have hX := OwnArr.made w 28 [Value.int .i64 n, Value.bool ring, Value.slice p (ints (tk n S)).length cap]
  have hB := box_below w n ring p (ints (tk n S)).length cap 28
  have I := l9Ask_any n ring p cap (ints (tk n S)) D _ lo hi (hin.below hB hin.top) (by omega)
  rw [hr, decide_eq_true (by omega : (1 : Int) ≤ (D : Int))] at I
  replace I := Lib.hid I
  have CN := Lib.hid (fun (w' : World) (h' : Below w.heap.size w w') => l9Counts_any n ring p cap S D w' lo hi (hin.below h' hin.top) hn1 hn hD)
  obtain ⟨M, hM⟩ : ∃ M, mxSp n ring D (opn n ring S D) = M := ⟨_, rfl⟩
  have hM24 : M ≤ 24 := by rw [← hM]; exact mx_24 hn
  have HPO : Hid (∀ k, 0 < spkM n ring D (opn n ring S D) k ↔ k ≤ M) := by
    show ∀ _, _
    intro k
    rw [← hM]
    exact spk_pos hD k (opn_sorted _ _ _ _) opn_lt
  rw [hM]
  obtain ⟨m0, hm0⟩ : ∃ m, (ints (tk n S)).length = m := ⟨_, rfl⟩
  rw [hm0] at hX hB I CN ⊢
  have HX := Lib.hid hX
  have HB := Lib.hid hB
  obtain ⟨c0, c1, c2, -⟩ := HX.out.three
  clear hin hm0 hlen hX hB hr hM
  go_enter Try.func23, Try.ntmps23
  go_wp2_with fail
  refine I.out.mono ?_
  rintro e w2 ⟨rfl, hb2⟩
  have HB2 := Lib.hid (HB.out.trans (hb2.mono HB.out.size))
  have HX2 := Lib.hid (HX.out.below hb2 HX.out.lt)
  clear I HB hb2 HX c0 c1 c2
  obtain ⟨c0, c1, c2, -⟩ := HX2.out.three
  go_wp2_with fail
  refine (CN.out _ HB2.out).mono ?_
  rintro e w3 ⟨g, c, rfl, hO, hb3⟩
  have HCE := Lib.hid (spk_cells hO)
  have HB3 := Lib.hid (HB2.out.trans (hb3.mono HB2.out.size))
  obtain ⟨V, hV⟩ : ∃ V : Nat → Nat, spkM n ring D (opn n ring S D) = V := ⟨_, rfl⟩
  rw [hV] at HCE HPO
  clear hO hb3 CN HB2 HX2 c0 c1 c2 hV
  go_wp2_with fail
  go_loop [7] (fun v => ∃ (k : Nat), k ≤ M ∧ v = .int .i64 (k : Int)) (fun v => M - (intOf v).toNat)
  case atStart => exact ⟨0, Nat.zero_le _, rfl⟩
  case round =>
    obtain ⟨k, hk, rfl⟩ := hrel
    by_cases h24 : k < 24
    · have hki : (k : Int) < 24 := by omega
      have hcc := HCE.out (k + 1) (by omega)
      have hpo := HPO.out (k + 1)
      obtain ⟨x, hx⟩ : ∃ x, V (k + 1) = x := ⟨_, rfl⟩
      rw [hx] at hcc hpo
      have hki2 : (k : Int) + 1 < 25 := by omega
      have hki3 : (0 : Int) ≤ (k : Int) + 1 := by omega
      have hw1 : IntKind.i64.wrap ((k : Int) + 1) = (k : Int) + 1 := IntWalk.i64_in _ (by omega)
      have htn : ((k : Int) + 1).toNat = k + 1 := by omega
      by_cases hlt : k < M
      · have hx0 : (0 : Int) < (x : Int) := by have := hpo.2 (by omega); omega
        clear hx hpo
        go_wp2_with fail
        go_round
        case rel => exact ⟨k + 1, by omega, by go_num⟩
        case measure => simp [intOf]; omega
      · have hkm : k = M := by omega
        have hx0 : x = 0 := by
          rcases Nat.eq_zero_or_pos x with h | h
          · exact h
          · have := hpo.1 h; omega
        rw [hx0] at hcc
        clear hx hpo hx0
        subst hkm
        go_wp2_with fail
        go_ret2
        exact ⟨rfl, HB3.out⟩
    · have hkm : k = M := by omega
      have hki : ¬ (k : Int) < 24 := by omega
      subst hkm
      go_wp2_with fail
      go_ret2
      exact ⟨rfl, HB3.out⟩
end Go.Proofs.Ytoedcklgpmhnnaa
