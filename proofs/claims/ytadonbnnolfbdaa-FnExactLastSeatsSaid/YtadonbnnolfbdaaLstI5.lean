/- Chapter 5, impl side: impl.LastSeats; both sides. -/
import Derived.Test.YtadonbnnolfbdaaChs5
import Derived.Test.YtadonbnnolfbdaaLast5
namespace Go.Proofs.Ytadonbnnolfbdaa
open Go.RowKit

/-- the shares of the last traveler's seats -/
def lsF (n k s : Nat) : Nat := if s < k ∨ s + 1 = n then 479001600 / min n (k + 1) else 0
def lsM (n k : Nat) : List Nat := (List.range n).map (lsF n k)
theorem lsM_len (n k : Nat) : (lsM n k).length = n := by unfold lsM; rw [List.length_map, List.length_range]
theorem lsM_le (n k : Nat) : ∀ c ∈ lsM n k, c ≤ 1099511627776 := by
  intro c hc
  unfold lsM at hc
  rw [List.mem_map] at hc
  obtain ⟨s, -, rfl⟩ := hc
  unfold lsF
  split
  · exact Nat.le_trans (Nat.div_le_self _ _) (by omega)
  · omega
theorem lsM_all : (List.range 13).all (fun n => (List.range (n + 1)).all (fun k => decide (n = 0) || decide (chM (lsM n k) = lastM n k n))) = true := by decide +kernel
theorem lsM_is {n k : Nat} (h1 : 1 ≤ n) (hn : n ≤ 12) (hk : k ≤ n) : chM (lsM n k) = lastM n k n := by
  have h := lsM_all
  rw [List.all_eq_true] at h
  have h1' := h n (List.mem_range.2 (by omega))
  rw [List.all_eq_true] at h1'
  have h2 := h1' k (List.mem_range.2 (by omega))
  rw [Bool.or_eq_true, decide_eq_true_eq, decide_eq_true_eq] at h2
  rcases h2 with h2 | h2
  · omega
  · exact h2
theorem lsM_cells {n k : Nat} (h1 : 1 ≤ n) : (filled (fun _ => .int .i64 ((479001600 / min n (k + 1) : Nat) : Int)) (.int .i64 0) n k).set (n - 1) (.int .i64 ((479001600 / min n (k + 1) : Nat) : Int)) = iv (ints (lsM n k)) := by
  apply List.ext_getElem?
  intro i
  rw [List.getElem?_set]
  by_cases hi : i < n
  · have e1 : (iv (ints (lsM n k)))[i]? = some (.int .i64 ((lsF n k i : Nat) : Int)) := by
      rw [iv_get (by rw [ints_length, lsM_len]; exact hi), ints_get (by rw [lsM_len]; exact hi)]
      unfold lsM
      rw [List.getElem?_map, List.getElem?_range hi]
      rfl
    rw [e1, filled_get _ _ _ _ _ hi, filled_len]
    unfold lsF
    by_cases h2 : n - 1 = i
    · rw [if_pos h2, if_pos (by omega), if_pos (Or.inr (by omega))]
    · rw [if_neg h2]
      by_cases h3 : i < k
      · rw [if_pos h3, if_pos (Or.inl h3)]
      · rw [if_neg h3, if_neg (by omega)]; rfl
  · have e1 : (iv (ints (lsM n k)))[i]? = none := List.getElem?_eq_none (by rw [iv_length, ints_length, lsM_len]; omega)
    rw [e1, if_neg (by omega)]
    exact List.getElem?_eq_none (by rw [filled_len]; omega)

set_option maxRecDepth 4000 in
set_option maxHeartbeats 1600000 in
theorem lastSeatsI_any (n k : Int) (w : World) :
    Calls Try.prog 17 #[.int .i64 n, .int .i64 k] w fun e w' => ∃ v, e = .returned (.tuple #[v, .bool (good5 n k)]) ∧ OutP w.heap.size w' v (if good5 n k then lastM n.toNat k.toNat n.toNat else []) ∧ Below w.heap.size w w' := by
  have V := fun w' => isValid_any n k w'
  cases hg : good5 n k with
  | false =>
    rw [hg] at V
    replace V := Lib.hid V
    simp only [Bool.false_eq_true, if_false]
    clear hg
    go_enter Try.func17, Try.ntmps17
    go_wp2_with fail
    refine (V.out _).mono ?_
    rintro e w1 ⟨rfl, hb1⟩
    have HO0 := Lib.hid ((OutP.nilLit w1).mono hb1.size)
    have HB0 : Hid (Below w.heap.size w (w1.alloc (.cells #[] 22))) := hb1.alloc hb1.size _
    clear hb1
    go_wp2_with fail
    go_ret2
    exact ⟨_, rfl, HO0.out, HB0.out⟩
  | true =>
    obtain ⟨n, k, rfl, rfl, h1, h2, h3⟩ := good5_is hg
    rw [hg] at V
    replace V := Lib.hid V
    simp only [if_true, Int.toNat_natCast]
    have HT := Lib.hid (lsM_is h1 h2 h3)
    have HCE := Lib.hid (lsM_cells (k := k) h1)
    have HLL := Lib.hid (lsM_len n k)
    have CH := Lib.hid (fun (p : Option Addr) (cap : Nat) (w' : World) (lo hi : Nat) (hin : Ri lo hi w' p (ints (lsM n k))) => chancesOf_any p cap (lsM n k) w' lo hi hin (lsM_le n k) (by rw [lsM_len]; omega))
    obtain ⟨al, hal⟩ : ∃ al, min n (k + 1) = al := ⟨_, rfl⟩
    have ha0 : 0 < al := by rw [← hal]; omega
    rw [hal] at HCE
    obtain ⟨d, hd⟩ : ∃ d, 479001600 / al = d := ⟨_, rfl⟩
    have hdl : d ≤ 479001600 := by rw [← hd]; exact Nat.div_le_self _ _
    have hq : (479001600 : Int).tdiv (al : Int) = (d : Int) := by rw [← hd]; exact (Int.ofNat_tdiv _ _).symm
    rw [hd] at HCE
    have w1 : IntKind.i64.wrap (d : Int) = (d : Int) := IntWalk.i64_in _ (by omega)
    have w2 : IntKind.i64.wrap ((k : Int) + 1) = (k : Int) + 1 := IntWalk.i64_in _ (by omega)
    have w3 : IntKind.i64.wrap ((n : Int) - 1) = (n : Int) - 1 := IntWalk.i64_in _ (by omega)
    have hmk0 := @run_make_row' Try.prog 36 3 (.int .i64 0) 8 Try.underlying36 infoInt rfl .i64 .i64 n (by omega) (by omega)
    rw [madeCells_one, ← filled_zero (fun _ => .int .i64 (d : Int)) (.int .i64 0) n] at hmk0
    by_cases hc : k + 1 < n
    · have e : (al : Int) = (k : Int) + 1 := by rw [← hal]; omega
      rw [e] at hq
      have haz : ¬ (k : Int) + 1 = 0 := by omega
      have hlt0 : (k : Int) + 1 < (n : Int) := by omega
      clear e
      clear hg hal hd
      go_enter Try.func17, Try.ntmps17
      go_wp2_with fail
      refine (V.out _).mono ?_
      rintro e w1 ⟨rfl, hb1⟩
      have HB1 := Lib.hid hb1
      clear V hb1
      obtain ⟨w2, hw2⟩ : ∃ w2, w2 = w1.alloc (.cells (filled (fun _ => .int .i64 (d : Int)) (.int .i64 0) n 0).toArray 3) := ⟨_, rfl⟩
      have hmk := hmk0 w1
      rw [← hw2] at hmk
      have HO2 : Hid (OwnArr w2 w1.heap.size 3 (filled (fun _ => .int .i64 (d : Int)) (.int .i64 0) n 0)) := by show OwnArr _ _ _ _; rw [hw2]; exact OwnArr.made _ _ _
      have HB2 : Hid (Below w.heap.size w w2) := by show Below _ _ _; rw [hw2]; exact HB1.out.alloc HB1.out.size _
      have hg : w.heap.size ≤ w1.heap.size := HB1.out.size
      clear hw2 hmk0 HB1
      go_wp2_with fail
      clear hmk
      go_loopw [22, 8] (fun i _ wr => ∃ (j : Nat), j ≤ k ∧ i = .int .i64 j ∧ Hid (OwnArr wr w1.heap.size 3 (filled (fun _ => .int .i64 (d : Int)) (.int .i64 0) n j)) ∧ Hid (Below w.heap.size w wr)) (fun i _ _ => k - (intOf i).toNat)
      case atStart => exact ⟨0, Nat.zero_le _, rfl, HO2, HB2⟩
      case round =>
        obtain ⟨j, hj, rfl, HO, HB⟩ := hrel
        clear HO2 HB2
        by_cases hlt : j < k
        · have hk1 : (j : Int) < (k : Int) := by omega
          have hj0 : (0 : Int) ≤ (j : Int) := by omega
          have hj2 : (j : Int) < (n : Int) := by omega
          have HST := Lib.hid (filled_set (fun _ => .int .i64 (d : Int)) (.int .i64 0) n j)
          have hold := HO.out.cell j
          rw [filled_get _ _ _ _ _ (by omega : j < n)] at hold
          have hfree := HO.out.free j
          have hset := HO.out.set j (.int .i64 (d : Int))
          rw [HST.out] at hset
          have HO4 := Lib.hid hset
          have HB4 := Lib.hid (HB.out.setCell (p := ⟨w1.heap.size, j, none⟩) hg (.int .i64 (d : Int)))
          clear HO HB HST hset
          go_wp2_with fail
          go_roundw
          case rel => exact ⟨j + 1, by omega, by go_num, HO4, HB4⟩
          case measure => simp [intOf]; omega
        · have hjk : j = k := by omega
          subst hjk
          have hk1 : ¬ (j : Int) < (j : Int) := by omega
          have hn0 : (0 : Int) ≤ (n : Int) - 1 := by omega
          have hn1 : (n : Int) - 1 < (n : Int) := by omega
          obtain ⟨n1, hn2⟩ : ∃ n1, n - 1 = n1 := ⟨_, rfl⟩
          have hn3 : (n : Int) - 1 = (n1 : Int) := by omega
          have hold := HO.out.cell n1
          rw [filled_get _ _ _ _ _ (by omega : n1 < n)] at hold
          have hfree := HO.out.free n1
          have hset := HO.out.set n1 (.int .i64 (d : Int))
          have hce := HCE.out
          rw [hn2] at hce
          rw [hce] at hset
          have HO4 := Lib.hid hset
          have HB4 := Lib.hid (HB.out.setCell (p := ⟨w1.heap.size, n1, none⟩) hg (.int .i64 (d : Int)))
          have hR := Rd.of_own hset (Nat.zero_le _) (Nat.lt_succ_self _) (by have := hset.lt; omega) n
          rw [List.take_of_length_le (by rw [iv_length, ints_length, HLL.out]; exact Nat.le_refl _)] at hR
          have CH2 := CH.out _ n _ _ _ hR
          rw [ints_length, HLL.out] at CH2
          replace CH := Lib.hid CH2
          clear HO HB hset hce hR CH2 hn2
          go_wp2_with fail
          refine CH.out.mono ?_
          rintro e w5 ⟨v, rfl, hO5, hb5⟩
          rw [HT.out] at hO5
          have HO5 := Lib.hid (hO5.mono HB4.out.size)
          have HB5 := Lib.hid (HB4.out.trans (hb5.mono HB4.out.size))
          clear CH hO5 hb5
          go_wp2_with fail
          go_ret2
          exact ⟨_, rfl, HO5.out, HB5.out⟩
    · have e : (al : Int) = (n : Int) := by rw [← hal]; omega
      rw [e] at hq
      have haz : ¬ (n : Int) = 0 := by omega
      have haz2 : ¬ n = 0 := by omega
      have hlt0 : ¬ (k : Int) + 1 < (n : Int) := by omega
      clear e
      clear hg hal hd
      go_enter Try.func17, Try.ntmps17
      go_wp2_with fail
      refine (V.out _).mono ?_
      rintro e w1 ⟨rfl, hb1⟩
      have HB1 := Lib.hid hb1
      clear V hb1
      obtain ⟨w2, hw2⟩ : ∃ w2, w2 = w1.alloc (.cells (filled (fun _ => .int .i64 (d : Int)) (.int .i64 0) n 0).toArray 3) := ⟨_, rfl⟩
      have hmk := hmk0 w1
      rw [← hw2] at hmk
      have HO2 : Hid (OwnArr w2 w1.heap.size 3 (filled (fun _ => .int .i64 (d : Int)) (.int .i64 0) n 0)) := by show OwnArr _ _ _ _; rw [hw2]; exact OwnArr.made _ _ _
      have HB2 : Hid (Below w.heap.size w w2) := by show Below _ _ _; rw [hw2]; exact HB1.out.alloc HB1.out.size _
      have hg : w.heap.size ≤ w1.heap.size := HB1.out.size
      clear hw2 hmk0 HB1
      go_wp2_with fail
      clear hmk
      go_loopw [22, 8] (fun i _ wr => ∃ (j : Nat), j ≤ k ∧ i = .int .i64 j ∧ Hid (OwnArr wr w1.heap.size 3 (filled (fun _ => .int .i64 (d : Int)) (.int .i64 0) n j)) ∧ Hid (Below w.heap.size w wr)) (fun i _ _ => k - (intOf i).toNat)
      case atStart => exact ⟨0, Nat.zero_le _, rfl, HO2, HB2⟩
      case round =>
        obtain ⟨j, hj, rfl, HO, HB⟩ := hrel
        clear HO2 HB2
        by_cases hlt : j < k
        · have hk1 : (j : Int) < (k : Int) := by omega
          have hj0 : (0 : Int) ≤ (j : Int) := by omega
          have hj2 : (j : Int) < (n : Int) := by omega
          have HST := Lib.hid (filled_set (fun _ => .int .i64 (d : Int)) (.int .i64 0) n j)
          have hold := HO.out.cell j
          rw [filled_get _ _ _ _ _ (by omega : j < n)] at hold
          have hfree := HO.out.free j
          have hset := HO.out.set j (.int .i64 (d : Int))
          rw [HST.out] at hset
          have HO4 := Lib.hid hset
          have HB4 := Lib.hid (HB.out.setCell (p := ⟨w1.heap.size, j, none⟩) hg (.int .i64 (d : Int)))
          clear HO HB HST hset
          go_wp2_with fail
          go_roundw
          case rel => exact ⟨j + 1, by omega, by go_num, HO4, HB4⟩
          case measure => simp [intOf]; omega
        · have hjk : j = k := by omega
          subst hjk
          have hk1 : ¬ (j : Int) < (j : Int) := by omega
          have hn0 : (0 : Int) ≤ (n : Int) - 1 := by omega
          have hn1 : (n : Int) - 1 < (n : Int) := by omega
          obtain ⟨n1, hn2⟩ : ∃ n1, n - 1 = n1 := ⟨_, rfl⟩
          have hn3 : (n : Int) - 1 = (n1 : Int) := by omega
          have hold := HO.out.cell n1
          rw [filled_get _ _ _ _ _ (by omega : n1 < n)] at hold
          have hfree := HO.out.free n1
          have hset := HO.out.set n1 (.int .i64 (d : Int))
          have hce := HCE.out
          rw [hn2] at hce
          rw [hce] at hset
          have HO4 := Lib.hid hset
          have HB4 := Lib.hid (HB.out.setCell (p := ⟨w1.heap.size, n1, none⟩) hg (.int .i64 (d : Int)))
          have hR := Rd.of_own hset (Nat.zero_le _) (Nat.lt_succ_self _) (by have := hset.lt; omega) n
          rw [List.take_of_length_le (by rw [iv_length, ints_length, HLL.out]; exact Nat.le_refl _)] at hR
          have CH2 := CH.out _ n _ _ _ hR
          rw [ints_length, HLL.out] at CH2
          replace CH := Lib.hid CH2
          clear HO HB hset hce hR CH2 hn2
          go_wp2_with fail
          refine CH.out.mono ?_
          rintro e w5 ⟨v, rfl, hO5, hb5⟩
          rw [HT.out] at hO5
          have HO5 := Lib.hid (hO5.mono HB4.out.size)
          have HB5 := Lib.hid (HB4.out.trans (hb5.mono HB4.out.size))
          clear CH hO5 hb5
          go_wp2_with fail
          go_ret2
          exact ⟨_, rfl, HO5.out, HB5.out⟩

theorem lastSeats_both (a0 a1 : Int) : ∃ (L : List (Int × Int)) (B : Bool), L.length ≤ 1000 ∧ (∀ w : World, Calls Try.prog 16 #[.int .i64 a0, .int .i64 a1] w fun e w' => ∃ v, e = .returned (.tuple #[v, .bool B]) ∧ OutP w.heap.size w' v L ∧ Below w.heap.size w w') ∧ (∀ w : World, Calls Try.prog 17 #[.int .i64 a0, .int .i64 a1] w fun e w' => ∃ v, e = .returned (.tuple #[v, .bool B]) ∧ OutP w.heap.size w' v L ∧ Below w.heap.size w w') := by
  refine ⟨_, _, ?_, fun w => lastSeatsS_any a0 a1 w, fun w => lastSeatsI_any a0 a1 w⟩
  cases h : good5 a0 a1 with
  | false => simp
  | true =>
    obtain ⟨n, k, rfl, rfl, h1, h2, h3⟩ := good5_is h
    simp only [if_true, Int.toNat_natCast]
    rw [lastM_len]; omega
end Go.Proofs.Ytadonbnnolfbdaa
