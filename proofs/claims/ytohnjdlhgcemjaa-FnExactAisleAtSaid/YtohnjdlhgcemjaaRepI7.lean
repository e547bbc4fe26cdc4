/- slices.Repeat of one number, at most 24 times: in memory of its own. The library's own text is walked. -/
import Derived.Test.YtohnjdlhgcemjaaCpK7
namespace Go.Proofs.Ytohnjdlhgcemjaa
open Go.RowKit

set_option maxRecDepth 8000 in
set_option maxHeartbeats 4000000 in
theorem mul64_one (n : Nat) (hn : n ≤ 24) (w : World) :
    Calls Try.prog 57 #[.int .u64 1, .int .u64 (n : Nat)] w fun e w' => e = .returned (.tuple #[.int .u64 0, .int .u64 (n : Nat)]) ∧ w = w' := by
  have hc : n = 0 ∨ n = 1 ∨ n = 2 ∨ n = 3 ∨ n = 4 ∨ n = 5 ∨ n = 6 ∨ n = 7 ∨ n = 8 ∨ n = 9 ∨ n = 10 ∨ n = 11 ∨ n = 12 ∨ n = 13 ∨ n = 14 ∨ n = 15 ∨ n = 16 ∨ n = 17 ∨ n = 18 ∨ n = 19 ∨ n = 20 ∨ n = 21 ∨ n = 22 ∨ n = 23 ∨ n = 24 := by omega
  clear hn
  rcases hc with rfl | rfl | rfl | rfl | rfl | rfl | rfl | rfl | rfl | rfl | rfl | rfl | rfl | rfl | rfl | rfl | rfl | rfl | rfl | rfl | rfl | rfl | rfl | rfl | rfl
  all_goals
    go_enter Try.func57, Try.ntmps57
    go_wp2_with fail
    go_ret2
    exact ⟨rfl, rfl⟩

set_option maxHeartbeats 1000000 in
theorem mul_one_any (n : Nat) (hn : n ≤ 24) (w : World) :
    Calls Try.prog 48 #[.int .u64 1, .int .u64 (n : Nat)] w fun e w' => e = .returned (.tuple #[.int .u64 0, .int .u64 (n : Nat)]) ∧ w = w' := by
  have M := Lib.hid (mul64_one n hn w)
  clear hn
  go_enter Try.func48, Try.ntmps48
  go_wp2_with fail
  refine M.out.mono ?_
  rintro e w1 ⟨rfl, rfl⟩
  go_wp2_with fail
  go_ret2
  exact ⟨rfl, rfl⟩

set_option maxRecDepth 4000 in
set_option maxHeartbeats 4000000 in
theorem repeat_any (n vb : Nat) (x : Int) (w : World) (hv : OwnArr w vb 3 [.int .i64 x]) (hn1 : 1 ≤ n) (hn : n ≤ 24) :
    Calls Try.prog 34 #[.slice (some ⟨vb, 0, none⟩) 1 1, .int .i64 (n : Nat)] w fun e w' => e = .returned (.slice (some ⟨w.heap.size, 0, none⟩) n n) ∧ OwnArr w' w.heap.size 3 (List.replicate n (.int .i64 x)) ∧ Below w.heap.size w w' := by
  obtain ⟨i0, hi, hz0, hz1', hz2⟩ := info_parts infoInt
  have hsz : (Try.prog.info? 3).map (·.size) = some 1 := by rw [hi]; simp [hz1']
  have hc : n = 1 ∨ n = 2 ∨ n = 3 ∨ n = 4 ∨ n = 5 ∨ n = 6 ∨ n = 7 ∨ n = 8 ∨ n = 9 ∨ n = 10 ∨ n = 11 ∨ n = 12 ∨ n = 13 ∨ n = 14 ∨ n = 15 ∨ n = 16 ∨ n = 17 ∨ n = 18 ∨ n = 19 ∨ n = 20 ∨ n = 21 ∨ n = 22 ∨ n = 23 ∨ n = 24 := by omega
  have hwu : IntKind.u64.wrap (n : Int) = (n : Int) := by rcases hc with rfl | rfl | rfl | rfl | rfl | rfl | rfl | rfl | rfl | rfl | rfl | rfl | rfl | rfl | rfl | rfl | rfl | rfl | rfl | rfl | rfl | rfl | rfl | rfl <;> rfl
  have hwi : IntKind.i64.wrap (n : Int) = (n : Int) := IntWalk.i64_in _ (by omega)
  clear hc
  have M := Lib.hid (fun w' => mul_one_any n hn w')
  have mk := make_lc n n (Nat.le_refl _) (by omega) w
  have hO := OwnArr.made w 3 (List.replicate n (Value.int .i64 0))
  have hB : Below w.heap.size w (w.alloc (.cells (List.replicate n (Value.int .i64 0)).toArray 3)) := (Below.refl _ _).alloc (Nat.le_refl _) _
  obtain ⟨w1, hw1⟩ : ∃ w1, w.alloc (.cells (List.replicate n (Value.int .i64 0)).toArray 3) = w1 := ⟨_, rfl⟩
  rw [hw1] at mk hO hB
  have HB1 := Lib.hid hB
  have HA1 : Hid (w1.heap[w.heap.size]? = some (.cells (List.replicate n (Value.int .i64 0)).toArray 3 (0, 0))) := hO
  have HV : Hid (∀ j v, [Value.int .i64 x][j]? = some v → w1.cell? ((⟨vb, 0, none⟩ : Addr).add j) = some v) := by
    show ∀ _, _
    intro j v hj
    rw [Addr.add_lit, Nat.zero_add, (hv.below hB hv.lt).cell]; exact hj
  have k1 : ¬ (n : Int) < 0 := by omega
  have k2 : ¬ (9223372036854775807 : Int) < (n : Int) := by omega
  clear hO hB hw1 hv hi hz0 hz1' hz2
  go_enter Try.func34, Try.ntmps34
  go_wp2_with fail
  refine (M.out _).mono ?_
  rintro e w2 ⟨rfl, rfl⟩
  go_wp2_with (refine wpList_copyK rfl (.tmp 31) (.tmp 32) 22 22 rfl 3 Try.underlying22 hsz ⟨vb, 0, none⟩ n n 1 1 w.heap.size 0 rfl rfl (List.replicate n (Value.int .i64 0)) 3 HA1.out [.int .i64 x] (by show (1 : Nat) = min 1 n; omega) HV.out (by rw [List.length_replicate]; simp only [List.length_singleton]; omega) (by intro v hv; simp at hv; subst hv; rfl) w.heap.size (w.heap.size + 1) w1 (Keep.refl _ _ _) ⟨Nat.le_refl _, Nat.lt_succ_self _⟩ ?_; intro W2 hA2 hK2)
  have HB2 : Hid (Below w.heap.size w W2) := by show Below _ _ _; exact HB1.out.trans (hK2.below HB1.out.size)
  obtain ⟨cur, hcur⟩ : ∃ cur, splice (List.replicate n (Value.int .i64 0)) 0 [.int .i64 x] = cur := ⟨_, rfl⟩
  have HC2 : Hid (cur.length = n ∧ cur.take 1 = List.replicate 1 (.int .i64 x)) := by
    show _ ∧ _
    refine ⟨by rw [← hcur, length_splice _ _ _ (by rw [List.length_replicate]; simp only [List.length_singleton]; omega), List.length_replicate], ?_⟩
    rw [← hcur]
    exact splice_zero rfl (by rw [List.length_replicate]; exact hn1)
  rw [hcur] at hA2
  have HA2 := Lib.hid hA2.out
  clear hA2 hK2 hcur HA1 HV HB1 mk M
  go_wp2_with fail
  go_loopw [8] (fun tv wr => ∃ (t : Nat) (cur : List Value), 1 ≤ t ∧ t ≤ n ∧ tv = .int .i64 (t : Int) ∧ Hid (cur.length = n ∧ cur.take t = List.replicate t (.int .i64 x)) ∧ Hid (wr.heap[w.heap.size]? = some (.cells cur.toArray 3 (0, 0))) ∧ Hid (Below w.heap.size w wr)) (fun tv _ => n - (intOf tv).toNat)
  case atStart => exact ⟨1, cur, Nat.le_refl _, hn1, rfl, HC2, HA2, HB2⟩
  case round =>
    obtain ⟨t, cur, ht1, htn, rfl, HC, HA, HB⟩ := hrel
    clear HC2 HA2 HB2
    by_cases hlt : t < n
    · have j1 : (t : Int) < (n : Int) := by omega
      have j2 : (0 : Int) ≤ (t : Int) := by omega
      have j3 : (t : Int) ≤ (n : Int) := by omega
      have j4 : ¬ n = t := by omega
      obtain ⟨d, hd⟩ : ∃ d, min t (n - t) = d := ⟨_, rfl⟩
      obtain ⟨D, hD⟩ : ∃ D, List.replicate d (Value.int .i64 x) = D := ⟨_, rfl⟩
      have hDl : D.length = d := by rw [← hD, List.length_replicate]
      have hD1 : ∀ v ∈ D, v.oneCell' = true := by rw [← hD]; intro v hv; rw [List.eq_of_mem_replicate hv]; rfl
      have HS : Hid (∀ j v, D[j]? = some v → wr.drew.cell? ((⟨w.heap.size, 0, none⟩ : Addr).add j) = some v) := by
        show ∀ _, _
        intro j v hj
        rw [Addr.add_lit, Nat.zero_add]
        show wr.cell? _ = _
        have hO : OwnArr wr w.heap.size 3 cur := HA.out
        rw [hO.cell]
        rw [← hD, List.getElem?_replicate] at hj
        split at hj
        · have hjt : j < t := by omega
          have e : (cur.take t)[j]? = cur[j]? := by rw [List.getElem?_take, if_pos hjt]
          rw [← e, HC.out.2, List.getElem?_replicate, if_pos hjt]; exact hj
        · cases hj
      have HCN : Hid ((splice cur t D).length = n ∧ (splice cur t D).take (t + d) = List.replicate (t + d) (.int .i64 x)) := by
        show _ ∧ _
        refine ⟨by rw [length_splice _ _ _ (by rw [HC.out.1, hDl]; omega)]; exact HC.out.1, ?_⟩
        apply List.ext_getElem?
        intro j
        rw [List.getElem?_take, List.getElem?_replicate]
        by_cases hj : j < t + d
        · rw [if_pos hj, if_pos hj, splice_get _ _ _ _ (by rw [HC.out.1, hDl]; omega)]
          by_cases hjt : j < t
          · have e : (cur.take t)[j]? = cur[j]? := by rw [List.getElem?_take, if_pos hjt]
            rw [if_pos hjt, ← e, HC.out.2, List.getElem?_replicate, if_pos hjt]
          · rw [if_neg hjt, if_pos (by omega), ← hD, List.getElem?_replicate, if_pos (by omega)]
        · rw [if_neg hj, if_neg hj]
      have HCL := Lib.hid HC.out.1
      have hw2 : IntKind.i64.wrap ((t : Int) + (d : Int)) = (t : Int) + (d : Int) := IntWalk.i64_in _ (by omega)
      have HAD : Hid (wr.drew.heap[w.heap.size]? = some (.cells cur.toArray 3 (0, 0))) := HA.out
      clear hD
      go_wp2_with fail
      go_region_law (refine step_copyK rfl (.tmp 41) (.tmp 44) 22 22 rfl 3 Try.underlying22 hsz ⟨w.heap.size, 0, none⟩ (n - t) (n - t) t n w.heap.size t (by simp [Act.eval, Act.put]) (by simp [Act.eval, Act.put]) cur 3 HAD.out D (by rw [hDl, ← hd]) HS.out (by rw [hDl, HCL.out]; omega) hD1 w.heap.size (w.heap.size + 1) wr ((Keep.refl _ _ wr).trans ⟨rfl, rfl, rfl, Nat.le_refl _, fun _ _ _ => rfl⟩) ⟨Nat.le_refl _, Nat.lt_succ_self _⟩ ?_; intro W3 hA3 hK3)
      have HB3 : Hid (Below w.heap.size w W3) := by show Below _ _ _; exact HB.out.trans (hK3.below HB.out.size)
      have HA3 := Lib.hid hA3.out
      clear hA3 hK3
      all_goals
        simp [Act.put]
        go_wp2_with fail
        go_roundw
        case rel => exact ⟨t + d, splice cur t D, by omega, by omega, by go_num, HCN, HA3, HB3⟩
        case measure => simp [intOf]; omega
    · have htn2 : t = n := by omega
      have j1 : ¬ (t : Int) < (n : Int) := by omega
      have HE : Hid (OwnArr wr w.heap.size 3 (List.replicate n (.int .i64 x))) := by
        show OwnArr _ _ _ _
        have h1 := HC.out
        rw [htn2, List.take_of_length_le (by rw [h1.1]; exact Nat.le_refl _)] at h1
        rw [← h1.2]; exact HA.out
      go_wp2_with fail
      go_ret
      exact ⟨rfl, HE.out, HB.out⟩
end Go.Proofs.Ytohnjdlhgcemjaa
