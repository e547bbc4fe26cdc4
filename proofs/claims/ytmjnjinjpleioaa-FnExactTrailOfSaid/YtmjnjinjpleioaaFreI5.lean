/- Chapter 5, impl side: impl.FreeWhen; both sides. -/
import Derived.Test.YtmjnjinjpleioaaShO5
import Derived.Test.YtmjnjinjpleioaaFre5
import Derived.StillTailTactics
namespace Go.Proofs.Ytmjnjinjpleioaa
open Go.RowKit

/-- a call with a plane of its own -/
structure PlaneW (w : World) (g : Nat) (n k : Int) (wr : World) : Prop where
  box : OwnArr wr g 46 [.int .i64 n, .int .i64 k]
  bel : Below w.heap.size w wr
theorem PlaneW.start (w : World) (n k : Int) : PlaneW w w.heap.size n k (w.alloc (.cells #[.int .i64 n, .int .i64 k] 46)) :=
  ⟨OwnArr.made w _ [_, _], (Below.refl _ _).alloc (Nat.le_refl _) _⟩
theorem PlaneW.next {w : World} {g : Nat} {n k : Int} {wr w' : World} (h : PlaneW w g n k wr) (hb : Below wr.heap.size wr w') : PlaneW w g n k w' :=
  ⟨h.box.below hb h.box.lt, h.bel.trans (hb.mono h.bel.size)⟩
theorem PlaneW.cells {w : World} {g : Nat} {n k : Int} {wr : World} (h : PlaneW w g n k wr) : wr.cell? ⟨g, 0, none⟩ = some (.int .i64 n) ∧ wr.cell? ⟨g, 1, none⟩ = some (.int .i64 k) := box_plane h.box

theorem askI_no {n k : Int} {xs : List Int} {i : Int} (h : askI n k xs i = false) : good5i n k i = false ∨ good5i n k i = true ∧ askB n k xs = false := by
  cases hg : good5i n k i with
  | false => exact .inl rfl
  | true =>
    refine .inr ⟨rfl, ?_⟩
    unfold askI at h
    unfold good5i at hg
    rw [Bool.and_eq_true] at hg
    rw [hg.2, Bool.and_true] at h
    exact h
theorem askI_yes {n k : Int} {xs : List Int} {i : Int} (h : askI n k xs i = true) : good5i n k i = true ∧ askB n k xs = true := by
  unfold askI at h
  rw [Bool.and_eq_true] at h
  refine ⟨?_, h.1⟩
  have h2 := h.1
  unfold askB at h2
  rw [Bool.and_eq_true] at h2
  unfold good5i
  rw [h2.1, h.2]
  rfl

set_option maxRecDepth 4000 in
set_option maxHeartbeats 1600000 in
theorem freeWhenI_bad (n k : Int) (p : Option Addr) (cap : Nat) (xs : List Int) (i : Int) (w : World) (lo hi : Nat) (hin : Ri lo hi w p xs) (hcap : xs.length ≤ cap) (hcm : cap ≤ maxLen) (hlen : xs.length ≤ 1048576) (h : askI n k xs i = false) :
    Calls Try.prog 21 #[.int .i64 n, .int .i64 k, .slice p xs.length cap, .int .i64 i] w fun e w' => ∃ v, e = .returned (.tuple #[v, .bool false]) ∧ Out w.heap.size w' v [] ∧ Below w.heap.size w w' := by
  have hE := PlaneW.start w n k
  have V := fun w' => hasNumber_any n k i w'
  have CB := fun (w' : World) (h' : Below w.heap.size w w') => canBe_any n k p cap xs w' lo hi (hin.below h' hin.top) hcap hcm hlen
  obtain ⟨b0, b1⟩ := hE.cells
  have HE := Lib.hid hE
  rcases askI_no h with hg | ⟨hg, ha⟩
  · rw [hg] at V
    replace V := Lib.hid V
    obtain ⟨m, hm⟩ : ∃ m, xs.length = m := ⟨_, rfl⟩
    rw [hm]
    clear hin h hg hE CB
    go_enter Try.func21, Try.ntmps21
    go_wp2_with fail
    refine (V.out _).mono ?_
    rintro e w1 ⟨rfl, hb1⟩
    have hB1 := (HE.out.next hb1).bel
    have HO := Lib.hid ((Out.nilLit w1).mono hB1.size)
    have HB := Lib.hid (hB1.alloc hB1.size (.cells #[] 3))
    clear hB1 hb1
    go_wp2_with fail
    go_ret2
    exact ⟨_, rfl, HO.out, HB.out⟩
  · rw [hg] at V
    rw [ha] at CB
    replace V := Lib.hid V
    replace CB := Lib.hid CB
    obtain ⟨m, hm⟩ : ∃ m, xs.length = m := ⟨_, rfl⟩
    rw [hm] at CB ⊢
    clear hin h hg ha hE
    go_enter Try.func21, Try.ntmps21
    go_wp2_with fail
    refine (V.out _).mono ?_
    rintro e w1 ⟨rfl, hb1⟩
    have HE1 := Lib.hid (HE.out.next hb1)
    clear b0 b1 hb1 HE
    obtain ⟨b0, b1⟩ := HE1.out.cells
    go_wp2_with fail
    refine (CB.out _ HE1.out.bel).mono ?_
    rintro e w2 ⟨rfl, hb2⟩
    have hB2 := (HE1.out.next hb2).bel
    have HO := Lib.hid ((Out.nilLit w2).mono hB2.size)
    have HB := Lib.hid (hB2.alloc hB2.size (.cells #[] 3))
    clear hB2 hb2
    go_wp2_with fail
    go_ret2
    exact ⟨_, rfl, HO.out, HB.out⟩

set_option maxRecDepth 4000 in
set_option maxHeartbeats 1600000 in
theorem freeWhenI_any (n k : Nat) (p : Option Addr) (cap : Nat) (xs : List Int) (i : Nat) (w : World) (lo hi : Nat) (hin : Ri lo hi w p xs) (hcap : xs.length ≤ cap) (hcm : cap ≤ maxLen) (ha : askI n k xs i = true) :
    Calls Try.prog 21 #[.int .i64 (n : Nat), .int .i64 (k : Nat), .slice p xs.length cap, .int .i64 (i : Nat)] w fun e w' => ∃ v, e = .returned (.tuple #[v, .bool true]) ∧ Out w.heap.size w' v (ints (tk n (choS (xs.take i)))) ∧ Below w.heap.size w w' := by
  obtain ⟨hg, ha2⟩ := askI_yes ha
  obtain ⟨a', b', e1, e2, h1, h2, h3, hl, -⟩ := askB_is ha2
  have e1' : n = a' := by omega
  have e2' : k = b' := by omega
  subst e1' e2'
  have hi' : i < n := by
    unfold askI at ha
    rw [Bool.and_eq_true] at ha
    have := ha.2
    simp at this
    omega
  have hE := PlaneW.start w n k
  have V := fun w' => hasNumber_any (n : Int) (k : Int) (i : Int) w'
  have CB := fun (w' : World) (h' : Below w.heap.size w w') => canBe_any (n : Int) (k : Int) p cap xs w' lo hi (hin.below h' hin.top) hcap hcm (by omega)
  rw [hg] at V
  rw [ha2] at CB
  obtain ⟨b, off, rfl, -, -, -, -⟩ := hin.int (by omega)
  have htl : (xs.take i).length = i := by rw [List.length_take]; omega
  have FB := fun (w' : World) (h' : Below w.heap.size w w') => freeBehind_any n (k : Int) (some ⟨b, off, none⟩) cap (xs.take i) w' lo hi ((hin.below h' hin.top).pfx5 i) (by omega) (by omega)
  rw [htl] at FB
  rw [hl] at CB ⊢
  replace V := Lib.hid V
  replace CB := Lib.hid CB
  replace FB := Lib.hid FB
  obtain ⟨F, hF⟩ : ∃ F, ints (tk n (choS (xs.take i))) = F := ⟨_, rfl⟩
  rw [hF] at FB ⊢
  have hic : (i : Int) ≤ (cap : Int) := by omega
  have hi0 : (0 : Int) ≤ (i : Int) := by omega
  have hcm2 : cap ≤ 9223372036854775807 := by unfold maxLen at hcm; omega
  obtain ⟨b0, b1⟩ := hE.cells
  have HE := Lib.hid hE
  clear hin ha hg ha2 hE htl hF e1 e2
  go_enter Try.func21, Try.ntmps21
  go_wp2_with fail
  refine (V.out _).mono ?_
  rintro e w1 ⟨rfl, hb1⟩
  have HE1 := Lib.hid (HE.out.next hb1)
  clear b0 b1 hb1 HE V
  obtain ⟨b0, b1⟩ := HE1.out.cells
  go_wp2_with fail
  refine (CB.out _ HE1.out.bel).mono ?_
  rintro e w2 ⟨rfl, hb2⟩
  have HE2 := Lib.hid (HE1.out.next hb2)
  clear b0 b1 hb2 HE1 CB
  obtain ⟨b0, b1⟩ := HE2.out.cells
  go_wp2_with fail
  go_still_tail 4, (by kernel_rfl)
  change wpList _ _ _ _ _ w2.drew
  go_wp2_with fail
  refine (FB.out _ HE2.out.bel.drew).mono ?_
  rintro e w3 ⟨v, rfl, hO, hb3⟩
  have HB3 := Lib.hid (HE2.out.bel.trans ((((Below.refl _ w2).drew).trans hb3).mono HE2.out.bel.size))
  have HO3 := Lib.hid (hO.mono HE2.out.bel.size)
  clear hO hb3 HE2 FB b0 b1
  go_wp2_with fail
  go_ret2
  exact ⟨_, rfl, HO3.out, HB3.out⟩

theorem askI_nat {n k : Int} {xs : List Int} {i : Int} (h : askI n k xs i = true) : ∃ a b c : Nat, n = a ∧ k = b ∧ i = c ∧ c < a ∧ a ≤ 12 := by
  obtain ⟨hg, -⟩ := askI_yes h
  unfold good5i at hg
  rw [Bool.and_eq_true] at hg
  obtain ⟨a, b, rfl, rfl, h1, h2, h3⟩ := good5_is hg.1
  have h4 := hg.2
  simp only [Bool.and_eq_true, decide_eq_true_eq] at h4
  exact ⟨a, b, i.toNat, rfl, rfl, by omega, by omega, h2⟩

theorem freeWhen_both (a0 : Int) (a1 : Int) (xs2 : List Int) (a3 : Int) : ∃ (L0 : List Int) (y1 : Bool), L0.length ≤ 1000 ∧ (∀ (q2 : Option Addr) (c2 : Nat) (w : World) (lo2 hi2 : Nat), Ri lo2 hi2 w q2 xs2 → xs2.length ≤ 1048576 → xs2.length ≤ c2 → c2 ≤ maxLen → Calls Try.prog 20 #[.int .i64 a0, .int .i64 a1, .slice q2 xs2.length c2, .int .i64 a3] w fun e w' => ∃ v0, e = .returned (.tuple #[v0, .bool y1]) ∧ Out w.heap.size w' v0 L0 ∧ Below w.heap.size w w') ∧ (∀ (q2 : Option Addr) (c2 : Nat) (w : World) (lo2 hi2 : Nat), Ri lo2 hi2 w q2 xs2 → xs2.length ≤ 1048576 → xs2.length ≤ c2 → c2 ≤ maxLen → Calls Try.prog 21 #[.int .i64 a0, .int .i64 a1, .slice q2 xs2.length c2, .int .i64 a3] w fun e w' => ∃ v0, e = .returned (.tuple #[v0, .bool y1]) ∧ Out w.heap.size w' v0 L0 ∧ Below w.heap.size w w') := by
  cases h : askI a0 a1 xs2 a3 with
  | false => exact ⟨[], false, by simp, fun q c w lo hi h1 h2 h3 h4 => freeWhenS_bad a0 a1 q c xs2 a3 w lo hi h1 h3 h4 h2 h, fun q c w lo hi h1 h2 h3 h4 => freeWhenI_bad a0 a1 q c xs2 a3 w lo hi h1 h3 h4 h2 h⟩
  | true =>
    obtain ⟨a, b, i, rfl, rfl, rfl, h1, h2⟩ := askI_nat h
    exact ⟨_, true, Nat.le_trans (ints_tk_len a _) (by omega), fun q c w lo hi g1 _ g3 g4 => freeWhenS_any a b q c xs2 i w lo hi g1 g3 g4 (askI_yes h).2 h1, fun q c w lo hi g1 _ g3 g4 => freeWhenI_any a b q c xs2 i w lo hi g1 g3 g4 h⟩
end Go.Proofs.Ytmjnjinjpleioaa
