/- Chapter 5, spec side: spec.FreeWhen. -/
import Derived.Test.YtmjnjinjpleioaaMov5
namespace Go.Proofs.Ytmjnjinjpleioaa
open Go.RowKit

/-- a possible seating and a traveler -/
def askI (n k : Int) (xs : List Int) (i : Int) : Bool := askB n k xs && (decide (0 ≤ i) && decide (i ≤ n - 1))

set_option maxRecDepth 4000 in
set_option maxHeartbeats 1600000 in
theorem freeWhenS_bad (n k : Int) (p : Option Addr) (cap : Nat) (xs : List Int) (i : Int) (w : World) (lo hi : Nat) (hin : Ri lo hi w p xs) (hcap : xs.length ≤ cap) (hcm : cap ≤ maxLen) (hlen : xs.length ≤ 1048576) (h : askI n k xs i = false) :
    Calls Try.prog 20 #[.int .i64 n, .int .i64 k, .slice p xs.length cap, .int .i64 i] w fun e w' => ∃ v, e = .returned (.tuple #[v, .bool false]) ∧ Out w.heap.size w' v [] ∧ Below w.heap.size w w' := by
  have A := l5Ask_any n k p cap xs w lo hi hin hcap hcm hlen
  cases ha : askB n k xs with
  | false =>
    rw [ha] at A
    replace A := Lib.hid A
    obtain ⟨m, hm⟩ : ∃ m, xs.length = m := ⟨_, rfl⟩
    rw [hm] at A ⊢
    clear ha hm hin h
    go_enter Try.func20, Try.ntmps20
    go_wp2_with fail
    refine A.out.mono ?_
    rintro e w1 ⟨rfl, hb1⟩
    have HO := Lib.hid ((Out.nilLit w1).mono hb1.size)
    have HB := Lib.hid (hb1.alloc hb1.size (.cells #[] 3))
    clear A hb1
    go_wp2_with fail
    go_ret2
    exact ⟨_, rfl, HO.out, HB.out⟩
  | true =>
    obtain ⟨n, k, rfl, rfl, h1, h2, h3, hl, -⟩ := askB_is ha
    unfold askI at h
    rw [ha] at A h
    rw [Bool.true_and] at h
    have IN := Lib.hid (fun w' => l1In_any i 0 ((n : Int) - 1) w')
    rw [h] at IN
    have w1 : IntKind.i64.wrap ((n : Int) - 1) = (n : Int) - 1 := IntWalk.i64_in _ (by omega)
    replace A := Lib.hid A
    obtain ⟨m, hm⟩ : ∃ m, xs.length = m := ⟨_, rfl⟩
    rw [hm] at A ⊢
    clear ha hm hin h hl
    go_enter Try.func20, Try.ntmps20
    go_wp2_with fail
    refine A.out.mono ?_
    rintro e w2 ⟨rfl, hb1⟩
    have HO := Lib.hid ((Out.nilLit w2).mono hb1.size)
    have HB := Lib.hid (hb1.alloc hb1.size (.cells #[] 3))
    clear A hb1
    go_wp2_with fail
    refine (IN.out _).mono ?_
    rintro e w3 ⟨rfl, rfl⟩
    go_wp2_with fail
    go_ret2
    exact ⟨_, rfl, HO.out, HB.out⟩

set_option maxRecDepth 4000 in
set_option maxHeartbeats 1600000 in
theorem freeWhenS_any (n k : Nat) (p : Option Addr) (cap : Nat) (xs : List Int) (i : Nat) (w : World) (lo hi : Nat) (hin : Ri lo hi w p xs) (hcap : xs.length ≤ cap) (hcm : cap ≤ maxLen) (ha : askB n k xs = true) (hi' : i < n) :
    Calls Try.prog 20 #[.int .i64 (n : Nat), .int .i64 (k : Nat), .slice p xs.length cap, .int .i64 (i : Nat)] w fun e w' => ∃ v, e = .returned (.tuple #[v, .bool true]) ∧ Out w.heap.size w' v (ints (tk n (choS (xs.take i)))) ∧ Below w.heap.size w w' := by
  obtain ⟨i0, hi0, hz0, hz1, hz2⟩ := info_parts infoInt
  obtain ⟨a, b', e1, e2, h1, h2, h3, hl, -⟩ := askB_is ha
  have e1' : n = a := by omega
  have e2' : k = b' := by omega
  subst e1' e2'
  have A := l5Ask_any (n : Int) (k : Int) p cap xs w lo hi hin hcap hcm (by omega)
  rw [ha] at A
  have IN := fun w' => l1In_any (i : Int) 0 ((n : Int) - 1) w'
  have hC : (decide (0 ≤ (i : Int)) && decide ((i : Int) ≤ (n : Int) - 1)) = true := by simp; omega
  rw [hC] at IN
  replace IN := Lib.hid IN
  have w1 : IntKind.i64.wrap ((n : Int) - 1) = (n : Int) - 1 := IntWalk.i64_in _ (by omega)
  obtain ⟨b, off, rfl, -, -, -, -⟩ := hin.int (by omega)
  have htl : (xs.take i).length = i := by rw [List.length_take]; omega
  have HS := fun (x : Int) (w' : World) (h' : Below w.heap.size w w') => l1Has_any (some ⟨b, off, none⟩) cap (xs.take i) x w' lo hi ((hin.below h' hin.top).pfx5 i) (by omega)
  rw [htl] at HS
  replace HS := Lib.hid HS
  have HT : Hid (∀ s : Nat, decide ((s : Int) ∈ xs.take i) = !(choS (xs.take i) s)) := by
    show ∀ _, _
    intro s; unfold choS; rw [Bool.not_not]
  obtain ⟨T, hT⟩ : ∃ T, choS (xs.take i) = T := ⟨_, rfl⟩
  rw [hT] at HT ⊢
  rw [hl] at A ⊢
  replace A := Lib.hid A
  have hic : (i : Int) ≤ (cap : Int) := by omega
  have hi00 : (0 : Int) ≤ (i : Int) := by omega
  have hcm2 : cap ≤ 9223372036854775807 := by unfold maxLen at hcm; omega
  clear ha hin hC htl hT e1 e2
  go_enter Try.func20, Try.ntmps20
  go_wp2_with fail
  refine A.out.mono ?_
  rintro e w2 ⟨rfl, hb1⟩
  have HB1 := Lib.hid hb1
  clear A hb1
  go_wp2_with fail
  refine (IN.out _).mono ?_
  rintro e w3 ⟨rfl, rfl⟩
  have HO0 := Lib.hid ((Out.nilLit w2).mono HB1.out.size)
  have HB0 := Lib.hid (HB1.out.alloc HB1.out.size (.cells #[] 3))
  clear IN HB1
  go_wp2_with fail
  go_loopw [10, 11] (fun v i wr => ∃ (k : Nat), k ≤ n ∧ i = .int .i64 k ∧ Hid (Out w.heap.size wr v (ints (tk k T))) ∧ Hid (Below w.heap.size w wr)) (fun _ i _ => n - (intOf i).toNat)
  case atStart => exact ⟨0, Nat.zero_le _, rfl, HO0, HB0⟩
  case round =>
    obtain ⟨s, hs, rfl, HO, HB⟩ := hrel
    clear HO0 HB0
    by_cases hlt : s < n
    · have hk1 : (s : Int) < (n : Int) := by omega
      have G := HS.out (s : Int) wr HB.out
      have hT := HT.out s
      obtain ⟨B, hTb⟩ : ∃ b, T s = b := ⟨_, rfl⟩
      rw [hTb] at hT
      rw [hT] at G
      replace G := Lib.hid G
      clear hT
      cases B with
      | true =>
        have HT2 := Lib.hid (ints_tk_yes hTb)
        clear hTb
        go_wp2_with fail
        refine G.out.mono ?_
        rintro e w2 ⟨rfl, rfl⟩
        clear G
        have HL := Lib.hid (ints_tk_len s T)
        have hblk := Lib.hid (own_block HO.out)
        have hsz := HB.out.size
        obtain ⟨l, vs, hl, hvs, hown⟩ := HO.out.open'
        have hlk := HL.out
        rw [hl] at hlk
        replace hl := Lib.hid hl
        replace hvs := Lib.hid hvs
        go_wp2_with (at_builtin; refine wpList_append_own _ rfl _ _ 22 rfl w.heap.size 3 i0 (.int .i64 0) 1 8 Try.underlying22 hi0 hz0 hz1 hz2 rfl (by decide) _ _ _ rfl (hown.alloc _) ⟨wr.heap.size, 0, none⟩ 1 1 [.int .i64 (s : Int)] rfl rfl (cell_one_new _ _ _) (fun x hx => by simp at hx; subst hx; rfl) (by unfold maxLen; omega) (by omega) (by simp; omega) ?_; intro v' w3 hown' hgrow3 hnil3)
        have hG : Below w.heap.size wr w3 := ((Below.refl w.heap.size wr).alloc hsz _).grown hgrow3 (by simp; omega) hblk.out
        have HB3 := Lib.hid (HB.out.trans hG)
        have HO3 : Hid (Out w.heap.size w3 v' (ints (tk (s + 1) T))) := by
          show Out _ _ _ _
          rw [HT2.out]; exact Out.close hl.out hvs.out hown'
        clear hown' hgrow3 hnil3 hown hG
        go_wp2
        go_roundw
        case rel => exact ⟨s + 1, by omega, by go_num, HO3, HB3⟩
        case measure => simp [intOf]; omega
      | false =>
        have HT2 := Lib.hid (ints_tk_no hTb)
        clear hTb
        go_wp2_with fail
        refine G.out.mono ?_
        rintro e w2 ⟨rfl, rfl⟩
        have ho3 := HO.out
        rw [← HT2.out] at ho3
        have HO3 := Lib.hid ho3
        clear ho3 G
        go_wp2_with fail
        go_roundw
        case rel => exact ⟨s + 1, by omega, by go_num, HO3, HB⟩
        case measure => simp [intOf]; omega
    · have hkn : s = n := by omega
      subst hkn
      have hk1 : ¬ (s : Int) < (s : Int) := by omega
      go_wp2_with fail
      go_ret2
      exact ⟨_, rfl, HO.out, HB.out⟩
end Go.Proofs.Ytmjnjinjpleioaa
