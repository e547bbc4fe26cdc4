/- spec.l3Polite, for every valid Row. -/
import Derived.Test.YtfpndbekinibhaaPolM
import Derived.Test.YtfpndbekinibhaaFarth
import Derived.Test.YtfpndbekinibhaaFar
import Derived.Maps.AppendAt
namespace Go.Proofs.Ytfpndbekinibhaa
open Go.RowKit

theorem most_two (x y : Nat) (w : World) : Calls Try.prog 66 #[.int .i64 (x : Int), .int .i64 (y : Int)] w fun e w' => e = .returned (.int .i64 (max x y : Nat)) ∧ w = w' := by
  by_cases h : y < x
  · have h1 : (y : Int) < (x : Int) := by omega
    go_enter Try.func66, Try.ntmps66
    go_wp2
    go_ret
    exact ⟨ret_int (by omega), rfl⟩
  · have h1 : ¬ (y : Int) < (x : Int) := by omega
    go_enter Try.func66, Try.ntmps66
    go_wp2
    go_ret
    exact ⟨ret_int (by omega), rfl⟩
theorem allM_get {n : Nat} {ring : Bool} {l : List Nat} {m k : Nat} (h : k < m) : (allM n ring l m)[k]?.getD 0 = ((farM n ring l k : Nat) : Int) := by
  unfold allM
  rw [ints_get (by simpa using h)]
  simp [h]
/-- what the specification collects -/
theorem polS_tk (n : Nat) (ring : Bool) (S : Nat → Bool) (M : Nat) (h : M = mostM (farM n ring (tk n S)) (List.range n) 0) :
    polS n ring S = tk n (fun p => decide (0 < M) && decide (farM n ring (tk n S) p = M)) := by
  unfold polS
  rw [← h]
  by_cases h0 : 0 < M
  · rw [if_pos h0]; simp [h0]
  · rw [if_neg h0]
    unfold tk
    rw [eq_comm, List.filter_eq_nil_iff]
    intro p hp
    simp [h0]
theorem tk_none (k : Nat) (f : Nat → Nat) : ints (tk k (fun p => decide (0 < 0) && decide (f p = 0))) = [] := by
  have : tk k (fun p => decide (0 < 0) && decide (f p = 0)) = [] := by
    unfold tk
    rw [List.filter_eq_nil_iff]
    intro p hp
    simp
  rw [this]; rfl

set_option maxRecDepth 4000 in
set_option maxHeartbeats 2000000 in
theorem politeS_any (n : Nat) (ring : Bool) (p : Option Addr) (cap : Nat) (S : Nat → Bool) (w : World) (lo hi : Nat) (hin : Ri lo hi w p (ints (tk n S))) (h2 : 2 ≤ n) (hn : n ≤ 24) :
    Calls Try.prog 49 #[rowV n ring p (ints (tk n S)).length cap] w fun e w' => ∃ v, e = .returned v ∧ Out w.heap.size w' v (ints (polS n ring S)) ∧ Below w.heap.size w w' := by
  obtain ⟨i0, hi0, hz0, hz1, hz2⟩ := info_parts infoInt
  have AL := Lib.hid (fun (w' : World) (h' : Below w.heap.size w w') => allS_any n ring p cap (tk n S) w' lo hi (hin.below h' hin.top) (fun x hx => (mem_tk.1 hx).1) (by have := tk_length_le n S; omega) hn)
  have HPS := Lib.hid (polS_tk n ring S)
  obtain ⟨R, hR⟩ : ∃ R, polS n ring S = R := ⟨_, rfl⟩
  rw [hR] at HPS ⊢
  rw [ints_length]
  obtain ⟨l, hl⟩ : ∃ l, tk n S = l := ⟨_, rfl⟩
  rw [hl] at AL HPS ⊢
  obtain ⟨f, hf⟩ : ∃ f, farM n ring l = f := ⟨_, rfl⟩
  obtain ⟨m, hm⟩ : ∃ m, l.length = m := ⟨_, rfl⟩
  rw [hm] at AL ⊢
  have HFL : Hid (∀ x, f x ≤ n) := by show ∀ _, _; intro x; rw [← hf]; exact farM_le n ring l x
  have HAG : Hid (∀ k, k < n → (allM n ring l n)[k]?.getD 0 = ((f k : Nat) : Int)) := by
    show ∀ _, _
    intro k hk; rw [allM_get hk, hf]
  rw [hf] at HPS
  have hst := loop_start w n ring p m cap
  have A := Lib.hid (AL.out _ hst.2.2)
  have HX0 := Lib.hid hst.1
  have HO0 := Lib.hid hst.2.1
  have HB0 := Lib.hid hst.2.2
  have hal := allM_len n ring l n
  clear hin hl hm hst hf hR AL
  go_enter Try.func49, Try.ntmps49
  go_wp2_with fail
  refine A.out.mono ?_
  rintro e w1 ⟨v, rfl, hO, hb1⟩
  obtain ⟨q, c, rfl, -, -, hq, -⟩ := hO.rd
  rw [hal]
  obtain ⟨b, off, rfl, hb, -, hbw, hc⟩ := hq.int (by omega)
  have hbs : w.heap.size + 2 + 1 ≤ b := by simp at hb; omega
  have HC1 : Hid (∀ k, k < n → w1.cell? ⟨b, off + k, none⟩ = some (.int .i64 (f k : Nat))) := by
    show ∀ _, _
    intro k hk
    rw [hc k (by omega), HAG.out k hk]
  have HX1 := Lib.hid (HX0.out.below hb1 HX0.out.lt)
  have HO1 := Lib.hid (HO0.out.below hb1)
  have HB1 := Lib.hid (HB0.out.trans (hb1.mono HB0.out.size))
  clear HX0 HO0 HB0 hb1 hq hO hc hb A HAG hal
  go_wp2_with fail
  go_loopw [5, 6] (fun mo i wr => ∃ (M k : Nat), k ≤ n ∧ M ≤ n ∧ i = .int .i64 k ∧ mo = .int .i64 M ∧ Hid (M = mostM f (List.range k) 0) ∧ wr = w1) (fun _ i _ => n - (intOf i).toNat)
  case atStart => exact ⟨0, 0, Nat.zero_le _, Nat.zero_le _, rfl, rfl, rfl, rfl⟩
  case round =>
    obtain ⟨M, k, hk, hM, rfl, rfl, HF, rfl⟩ := hrel
    obtain ⟨c0, c1, c2, -⟩ := HX1.out.three
    by_cases hlt : k < n
    · have hk1 : (k : Int) < (n : Int) := by omega
      have h0 := HC1.out k hlt
      have HF2 : Hid (max M (f k) = mostM f (List.range (k + 1)) 0) := by
        show _ = _
        rw [List.range_succ, mostM_snoc, ← HF.out]
      have hfl := HFL.out k
      obtain ⟨d, hd⟩ : ∃ d, f k = d := ⟨_, rfl⟩
      rw [hd] at h0 HF2 hfl
      have hmd : max M d ≤ n := by omega
      clear hd HF
      go_wp2_with fail
      refine (most_two M d _).mono ?_
      rintro e w2 ⟨rfl, rfl⟩
      go_wp2_with fail
      go_roundw
      case rel => exact ⟨max M d, k + 1, by omega, hmd, by go_num, rfl, HF2, by first | rfl | trivial⟩
      case measure => simp [intOf]; omega
    · have hkn : k = n := by omega
      have HFN : Hid (M = mostM f (List.range n) 0) := by show _ = _; rw [← hkn]; exact HF.out
      have HR := HPS.out M HFN.out
      have hk1 : ¬ (k : Int) < (n : Int) := by omega
      replace HR := Lib.hid HR
      clear HF HFN HPS HFL hkn
      have HV1 : Hid (∀ k, (Value.slice (some ⟨w.heap.size + 1, 0, none⟩) 0 0).ownBlock = some k → k ≠ b) := by
        show ∀ _, _
        intro k hk
        simp [Value.ownBlock] at hk
        omega
      obtain ⟨T, hT⟩ : ∃ T : Nat → Bool, (fun p => decide (0 < M) && decide (f p = M)) = T := ⟨_, rfl⟩
      rw [hT] at HR
      have HT := Lib.hid hT
      clear hT
      go_wp2_with fail
      clear c0 c1 c2 hk1
      go_loopw [3, 7] (fun v i wr => ∃ (k : Nat), k ≤ n ∧ i = .int .i64 k ∧ Hid (OwnArr wr w.heap.size 31 [.int .i64 n, .bool ring, .slice p m cap]) ∧ Hid (Out (w.heap.size + 1) wr v (ints (tk k T))) ∧ Hid (∀ k, v.ownBlock = some k → k ≠ b) ∧ Hid (∀ k, k < n → wr.cell? ⟨b, off + k, none⟩ = some (.int .i64 (f k : Nat))) ∧ b < wr.heap.size ∧ Hid (Below w.heap.size w wr)) (fun _ i _ => n - (intOf i).toNat)
      case atStart => exact ⟨0, Nat.zero_le _, rfl, HX1, HO1, HV1, HC1, hbw, HB1⟩
      case round =>
        obtain ⟨k, hk, rfl, HX, HO, HV, HC, hbr, HB⟩ := hrel
        clear HX1 HO1 HV1 HC1 HB1 hbw
        obtain ⟨c0, c1, c2, -⟩ := HX.out.three
        by_cases hlt : k < n
        · have hk1 : (k : Int) < (n : Int) := by omega
          have h0 := HC.out k hlt
          by_cases hM0 : 0 < M
          · have hM1 : (0 : Int) < (M : Int) := by omega
            by_cases he : f k = M
            · have hTk : T k = true := by rw [← HT.out]; simp [hM0, he]
              have HTT := Lib.hid (ints_tk_yes hTk)
              rw [he] at h0
              have HL := Lib.hid (ints_tk_len k T)
              obtain ⟨l', vs, hl, hvs, hown⟩ := HO.out.open'
              have hlk := HL.out
              rw [hl] at hlk
              have hs1 := HX.out.lt
              have hblk := Lib.hid (own_block HO.out)
              replace hl := Lib.hid hl
              replace hvs := Lib.hid hvs
              clear hTk he HL
              go_wp2_with (at_builtin; refine wpList_append_own_at _ rfl _ _ 25 rfl (w.heap.size + 1) 3 i0 (.int .i64 0) 1 8 Try.underlying25 hi0 hz0 hz1 hz2 rfl (by decide) _ _ _ rfl (hown.alloc _) ⟨wr.heap.size, 0, none⟩ 1 1 [.int .i64 (k : Int)] rfl rfl (cell_one_new _ _ _) (fun x hx => by simp at hx; subst hx; rfl) (by unfold maxLen; omega) (by omega) (by simp; omega) ?_; intro v' w3 hown' hgrow3 hnil3 hat3)
              have hG : Below (w.heap.size + 1) wr w3 := ((Below.refl (w.heap.size + 1) wr).alloc (by omega) _).grown hgrow3 (by simp; omega) hblk.out
              have HX3 := Lib.hid (HX.out.below hG (Nat.lt_succ_self _))
              have HB3 := Lib.hid (HB.out.trans (hG.mono (Nat.le_succ _)))
              have HO3 : Hid (Out (w.heap.size + 1) w3 v' (ints (tk (k + 1) T))) := by
                show Out _ _ _ _
                rw [HTT.out]; exact Out.close hl.out hvs.out hown'
              have HV3 : Hid (∀ k, v'.ownBlock = some k → k ≠ b) := by
                show ∀ _, _
                intro j hj
                rcases hat3 with e | e
                · exact HV.out j (e.symm.trans hj)
                · rw [e] at hj
                  simp at hj
                  omega
              have HC3 : Hid (∀ k, k < n → w3.cell? ⟨b, off + k, none⟩ = some (.int .i64 (f k : Nat))) := by
                show ∀ _, _
                intro j hj
                refine hgrow3.cell ?_ (fun e => HV.out b e.symm rfl)
                rw [World.cell?_alloc_past (w := wr) _ b _ hbr]
                exact HC.out j hj
              have hbr3 : b < w3.heap.size := by have := hG.size; omega
              clear hown' hgrow3 hnil3 hat3 hown hG HX HO HV HC hbr HB hl hvs HTT hblk c0 c1 c2 h0
              go_wp2_with fail
              go_roundw
              case rel => exact ⟨k + 1, by omega, by go_num, HX3, HO3, HV3, HC3, hbr3, HB3⟩
              case measure => simp [intOf]; omega
            · have hTk : T k = false := by rw [← HT.out]; simp [he]
              have ho := HO.out
              rw [← ints_tk_no hTk] at ho
              have HO3 := Lib.hid ho
              obtain ⟨d, hd⟩ : ∃ d, f k = d := ⟨_, rfl⟩
              rw [hd] at h0 he
              have hne : ((d : Int) == (M : Int)) = false := by simp; omega
              clear hTk ho HO hd he
              go_wp2_with fail
              go_roundw
              case rel => exact ⟨k + 1, by omega, by go_num, HX, HO3, HV, HC, hbr, HB⟩
              case measure => simp [intOf]; omega
          · have hM00 : M = 0 := by omega
            have HTF : Hid (∀ j, T j = false) := by
              show ∀ _, _
              intro j
              rw [← HT.out]; simp [hM00]
            have ho := HO.out
            have hz : ∀ j, tk j T = [] := by
              intro j
              unfold tk
              rw [List.filter_eq_nil_iff]
              intro x hx
              rw [HTF.out x]; simp
            have hr := HR.out
            rw [hz n] at hr
            rw [hz k, ← hr] at ho
            replace ho := Lib.hid ho
            have hM1 : ¬ (0 : Int) < (M : Int) := by omega
            clear HTF hz hr HO hM00 HR HT
            go_wp2_with fail
            go_ret
            exact ⟨_, rfl, ho.out.mono (Nat.le_succ _), HB.out⟩
        · have hkn : k = n := by omega
          have hk1 : ¬ (k : Int) < (n : Int) := by omega
          have ho := HO.out
          rw [hkn, ← HR.out] at ho
          replace ho := Lib.hid ho
          clear HO hkn
          go_wp2_with fail
          go_ret
          exact ⟨_, rfl, ho.out.mono (Nat.le_succ _), HB.out⟩
end Go.Proofs.Ytfpndbekinibhaa
