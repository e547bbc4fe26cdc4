/- spec.l2Runs, for every valid Row. -/
import Derived.Test.YtbgmfjhcgfnfoaaHasS
import Derived.Test.YtbgmfjhcgfnfoaaSkip
import Derived.Test.YtbgmfjhcgfnfoaaRunsI
import Derived.Deep.DeepCutAuto
namespace Go.Proofs.Ytbgmfjhcgfnfoaa
open Go.RowKit

set_option maxHeartbeats 800000 in
theorem runsS_bare (n : Nat) (p : Option Addr) (cap : Nat) (S : Nat → Bool) (w : World) (h2 : 2 ≤ n) (hn : n ≤ 24) (he : tk n S = []) :
    Calls Try.prog 38 #[rowV n true p 0 cap] w fun e w' => ∃ v, e = .returned v ∧ OutP w.heap.size w' v (prs (runsM n true S)) ∧ Below w.heap.size w w' := by
  rw [runs_empty (by omega) he]
  have hX := (OwnArr.made w 28 [.int .i64 n, .bool true, .slice p 0 cap]).alloc (.cells #[] 55)
  have hB := (box_below w n true p 0 cap 28).alloc (by simp) (.cells #[] 55)
  obtain ⟨c0, c1, c2, -⟩ := hX.three
  have hO := OutP.oneLit ((w.alloc (.cells #[.int .i64 n, .bool true, .slice p 0 cap] 28)).alloc (.cells #[] 55)) 0 n
  have hs2 : ((w.alloc (.cells #[.int .i64 n, .bool true, .slice p 0 cap] 28)).alloc (.cells #[] 55)).heap.size = w.heap.size + 1 + 1 := by simp
  rw [hs2] at hO
  have HO := Lib.hid (hO.mono (by omega : w.heap.size ≤ w.heap.size + 1 + 1))
  have HB := Lib.hid (hB.alloc hB.size (.cells #[.int .i64 0, .int .i64 n] 55))
  clear hX hB hO hs2
  go_enter Try.func38, Try.ntmps38
  go_wp2_with fail
  go_ret
  exact ⟨_, rfl, HO.out, HB.out⟩

set_option maxRecDepth 4000 in
set_option maxHeartbeats 3000000 in
theorem runsS_ring (n : Nat) (p : Option Addr) (cap : Nat) (S : Nat → Bool) (w : World) (lo hi' : Nat) (hin : Ri lo hi' w p (ints (tk n S))) (h2 : 2 ≤ n) (hn : n ≤ 24) (hne : tk n S ≠ []) :
    Calls Try.prog 38 #[rowV n true p (ints (tk n S)).length cap] w fun e w' => ∃ v, e = .returned v ∧ OutP w.heap.size w' v (prs (runsM n true S)) ∧ Below w.heap.size w w' := by
  obtain ⟨i0, hi, hz0, hz1, hz2⟩ := info_parts infoPair
  rw [runP_all]
  have hlen := ints_tk_len n S
  have IS : ∀ (x : Nat) (_ : x < n) (w' : World) (_ : Below w.heap.size w w'), Calls Try.prog 58 #[rowV n true p (ints (tk n S)).length cap, .int .i64 (x : Nat)] w' fun e w'' => e = .returned (.bool (S x)) ∧ Below w'.heap.size w' w'' := by
    intro x hx w' h'
    have := l2Is_any n true p cap (ints (tk n S)) x w' lo hi' (hin.below h' hin.top) (by omega)
    rw [has_tk hx] at this
    exact this
  have SP : Hid (∀ k, startM n true S k = !(S k || (!S ((k + n - 1) % n) && (true || decide (0 < k))))) := by
    show ∀ _, _
    intro k
    exact start_spec (fun h => hne h.2)
  have hX := (OwnArr.made w 28 [.int .i64 n, .bool true, .slice p (ints (tk n S)).length cap]).alloc (.cells #[] 55)
  have hB := (box_below w n true p (ints (tk n S)).length cap 28).alloc (by simp) (.cells #[] 55)
  have hO0 := OutP.nilLit (w.alloc (.cells #[.int .i64 n, .bool true, .slice p (ints (tk n S)).length cap] 28))
  have hs0 : (w.alloc (.cells #[.int .i64 n, .bool true, .slice p (ints (tk n S)).length cap] 28)).heap.size = w.heap.size + 1 := by simp
  rw [hs0] at hO0
  have hml := ints_length (tk n S)
  have hm0 : ¬ (ints (tk n S)).length = 0 := by rw [hml]; exact fun h => hne (List.length_eq_zero_iff.1 h)
  obtain ⟨m, hm⟩ : ∃ m, (ints (tk n S)).length = m := ⟨_, rfl⟩
  rw [hm] at IS hX hB hO0  hm0 ⊢
  have HX0 := Lib.hid hX
  have HB0 := Lib.hid hB
  have HO0 := Lib.hid hO0
  replace IS := Lib.hid IS
  have hmb : ((m : Int) == 0) = false := by simp; omega
  obtain ⟨G, hG⟩ : ∃ G : Nat → Bool, startM n true S = G := ⟨_, rfl⟩
  rw [hG] at SP ⊢
  have HVL : Hid (∀ x, runM n true S x ≤ n) := by show ∀ _, _; intro x; exact runM_le n true S x
  have HRV : Hid (∀ k, k < n → True → ∀ j, (∀ i, i < j → S ((k + i) % n) = false) → j ≤ n → (S ((k + j) % n) = true → runM n true S k = j) ∧ (S ((k + j) % n) = false → j < n)) := by
    show ∀ _, _
    intro k hk _ j h1 h2
    constructor
    · intro h3
      unfold runM reachM
      rw [if_pos rfl]
      exact firstM_eq h1 h2 (fun _ => h3)
    · intro h3
      rcases Nat.lt_or_ge j n with h | h
      · exact h
      · exfalso
        apply hne
        apply List.eq_nil_iff_forall_not_mem.2
        intro x hx
        obtain ⟨hx1, hx2⟩ := mem_tk.1 hx
        have h4 := h1 ((x + n - k) % n) (Nat.lt_of_lt_of_le (Nat.mod_lt _ (by omega)) h)
        have h5 : (k + (x + n - k) % n) % n = x := by
          rw [Nat.add_mod_mod, show k + (x + n - k) = x + n by omega, Nat.add_mod_right, Nat.mod_eq_of_lt hx1]
        rw [h5, hx2] at h4
        cases h4
  have HSN : Hid (∀ k, G k = true → runP n true S (tk (k + 1) G) = runP n true S (tk k G) ++ [((k : Int), ((runM n true S k : Nat) : Int))]) := by
    show ∀ _, _ → _
    intro k h
    unfold runP
    rw [tk_succ, if_pos h, List.map_append]; rfl
  have HSK : Hid (∀ k, G k = false → runP n true S (tk (k + 1) G) = runP n true S (tk k G)) := by
    show ∀ _, _ → _
    intro k h
    unfold runP
    rw [tk_succ, if_neg (by rw [h]; simp), List.append_nil]
  have HLN : Hid (∀ k, (runP n true S (tk k G)).length ≤ k) := by
    show ∀ _, _
    intro k
    unfold runP
    rw [List.length_map]; exact tk_length_le k G
  obtain ⟨V, hV⟩ : ∃ V : Nat → Nat, runM n true S = V := ⟨_, rfl⟩
  obtain ⟨PP, hPP⟩ : ∃ PP : List Nat → List (Int × Int), runP n true S = PP := ⟨_, rfl⟩
  have hPP0 : PP [] = [] := by rw [← hPP]; rfl
  replace hPP0 := Lib.hid hPP0
  rw [hV] at HVL HRV HSN
  rw [hPP] at HSN HSK HLN ⊢
  clear hin hlen hm hX hB hO0 hs0 hG hml hV hPP
  have hn0 : ¬ n = 0 := by omega
  have hn0' : ¬ (n : Int) = 0 := by omega
  obtain ⟨c0, c1, c2, -⟩ := HX0.out.three
  go_enter Try.func38, Try.ntmps38
  go_wp2_with fail
  clear c0 c1 c2
  go_loopw [3, 4, 5, 6] (fun v i _ _ wr => ∃ (k : Nat), k ≤ n ∧ i = .int .i64 k ∧ Hid (OwnArr wr w.heap.size 28 [.int .i64 n, .bool true, .slice p m cap]) ∧ Hid (OutP (w.heap.size + 1) wr v (PP (tk k G))) ∧ Hid (Below w.heap.size w wr)) (fun _ i _ _ _ => n - (intOf i).toNat)
  case atStart => exact ⟨0, Nat.zero_le _, rfl, HX0, (by show OutP _ _ _ _; rw [show tk 0 G = [] from rfl, hPP0.out]; exact HO0.out), HB0⟩
  case round =>
    obtain ⟨k, hk, rfl, HX, HO, HB⟩ := hrel
    clear HX0 HO0 HB0
    obtain ⟨c0, c1, c2, -⟩ := HX.out.three
    by_cases hlt : k < n
    · have hk1 : (k : Int) < (n : Int) := by omega
      have hbk : (k + n - 1) % n < n := Nat.mod_lt _ (by omega)
      have hsp := SP.out k
      have I1 := IS.out k hlt
      have I2 := IS.out _ hbk
      obtain ⟨y, hy⟩ : ∃ y, (k + n - 1) % n = y := ⟨_, rfl⟩
      have hw1 : IntKind.i64.wrap ((k : Int) - 1) = (k : Int) - 1 := IntWalk.i64_in _ (by omega)
      have hw2 : IntKind.i64.wrap ((k : Int) - 1 + (n : Int)) = (k : Int) - 1 + (n : Int) := IntWalk.i64_in _ (by omega)
      have ht : Int.tmod ((k : Int) - 1 + (n : Int)) (n : Int) = (y : Int) := by
        rw [show ((k : Int) - 1 + (n : Int)) = ((k + n - 1 : Nat) : Int) from by omega, Int.tmod_eq_emod_of_nonneg (by omega)]
        rw [← hy]; omega
      rw [hy] at hbk hsp I2
      have hw3 : IntKind.i64.wrap (y : Int) = (y : Int) := IntWalk.i64_in _ (by omega)
      obtain ⟨t1, ht1⟩ : ∃ t, S k = t := ⟨_, rfl⟩
      obtain ⟨t2, ht2⟩ : ∃ t, S y = t := ⟨_, rfl⟩
      rw [ht1] at hsp I1
      rw [ht2] at hsp I2
      obtain ⟨st, hst⟩ : ∃ s, G k = s := ⟨_, rfl⟩
      rw [hst] at hsp
      have hsn := HSN.out k
      have hsk := HSK.out k
      rw [hst] at hsn hsk
      replace hsn := Lib.hid hsn
      replace hsk := Lib.hid hsk
      have HSP := Lib.hid hsp
      have H1 := Lib.hid I1
      have H2 := Lib.hid I2
      clear hy hst ht2 hsp I1 I2
      have HT1 := Lib.hid ht1
      clear ht1
      go_upto_region 8 with fail
      go_cut [50] (fun v wx => v = .bool (!st) ∧ Hid (OwnArr wx w.heap.size 28 [.int .i64 n, .bool true, .slice p m cap]) ∧ Hid (OutP (w.heap.size + 1) wx u3 (PP (tk k G))) ∧ Hid (Below w.heap.size w wx))
      case first =>
        cases t1 with
        | true =>
          have hst : st = false := by have := HSP.out; simpa using this
          subst hst
          go_wp2_with fail
          refine (H1.out _ HB.out).mono ?_
          rintro e w2 ⟨rfl, hb2⟩
          have HX2 := Lib.hid (HX.out.below hb2 HX.out.lt)
          have HO2 := Lib.hid (HO.out.below hb2)
          have HB2 := Lib.hid (HB.out.trans (hb2.mono HB.out.size))
          clear hb2
          go_wp2_with fail
          go_meet
          exact ⟨rfl, HX2, HO2, HB2⟩
        | false =>
          go_wp2_with fail
          refine (H1.out _ HB.out).mono ?_
          rintro e w2 ⟨rfl, hb2⟩
          have HX2 := Lib.hid (HX.out.below hb2 HX.out.lt)
          have HO2 := Lib.hid (HO.out.below hb2)
          have HB2 := Lib.hid (HB.out.trans (hb2.mono HB.out.size))
          clear hb2 c0 c1 c2
          obtain ⟨c0, c1, c2, -⟩ := HX2.out.three
          go_wp2_with fail
          refine (H2.out _ HB2.out).mono ?_
          rintro e w3 ⟨rfl, hb3⟩
          have HX3 := Lib.hid (HX2.out.below hb3 HX2.out.lt)
          have HO3 := Lib.hid (HO2.out.below hb3)
          have HB3 := Lib.hid (HB2.out.trans (hb3.mono HB2.out.size))
          clear hb3 c0 c1 c2
          obtain ⟨c0, c1, c2, -⟩ := HX3.out.three
          cases t2 with
          | true =>
            have hst : st = true := by have := HSP.out; simpa using this
            subst hst
            go_wp2_with fail
            go_meet
            exact ⟨rfl, HX3, HO3, HB3⟩
          | false =>
            have hst : st = false := by have := HSP.out; simpa using this
            subst hst
            go_wp2_with fail
            go_meet
            exact ⟨rfl, HX3, HO3, HB3⟩
      case rest =>
        obtain ⟨rfl, HX2, HO2, HB2⟩ := hcut
        clear HX HO HB H1 H2 c0 c1 c2
        obtain ⟨c0, c1, c2, -⟩ := HX2.out.three
        cases st with
        | false =>
          have ho := HO2.out
          rw [← hsk.out (by first | trivial | rfl)] at ho
          replace ho := Lib.hid ho
          clear HO2
          go_wp2_with fail
          go_roundw
          case rel => exact ⟨k + 1, by omega, by go_num, HX2, ho, HB2⟩
          case measure => simp [intOf]; omega
        | true =>
          have HSN2 := Lib.hid (hsn.out (by first | trivial | rfl))
          have HRVk := Lib.hid (HRV.out k hlt trivial)
          go_wp2_with fail
          go_loopw [6] (fun mv wr => ∃ (j : Nat), j ≤ n ∧ mv = .int .i64 j ∧ Hid (∀ i, i < j → S ((k + i) % n) = false) ∧ Hid (OwnArr wr w.heap.size 28 [.int .i64 n, .bool true, .slice p m cap]) ∧ Hid (OutP (w.heap.size + 1) wr u3 (PP (tk k G))) ∧ Hid (Below w.heap.size w wr)) (fun mv _ => n - (intOf mv).toNat)
          case atStart => exact ⟨0, Nat.zero_le _, rfl, (by show ∀ _, _; intro i h; omega), HX2, HO2, HB2⟩
          case round =>
            obtain ⟨j, hj, rfl, HF, HX, HO, HB⟩ := hrel
            clear HX2 HO2 HB2 c0 c1 c2
            obtain ⟨c0, c1, c2, -⟩ := HX.out.three
            have hxm : (k + j) % n < n := Nat.mod_lt _ (by omega)
            have I := IS.out _ hxm wr.drew HB.out.drew
            have hrv := HRVk.out j HF.out hj
            have hFk : S ((k + j) % n) = false → ∀ i, i < j + 1 → S ((k + i) % n) = false := by
              intro h i hi
              rcases Nat.lt_or_ge i j with h' | h'
              · exact HF.out i h'
              · have : i = j := by omega
                subst this; exact h
            obtain ⟨x, hx⟩ : ∃ x, (k + j) % n = x := ⟨_, rfl⟩
            have hw1' : IntKind.i64.wrap ((k : Int) + (j : Int)) = (k : Int) + (j : Int) := IntWalk.i64_in _ (by omega)
            have ht' : Int.tmod ((k : Int) + (j : Int)) (n : Int) = (x : Int) := by
              rw [show ((k : Int) + (j : Int)) = ((k + j : Nat) : Int) from by omega, Int.tmod_eq_emod_of_nonneg (by omega)]
              rw [← hx]; omega
            rw [hx] at I hxm hrv hFk
            have hw3' : IntKind.i64.wrap (x : Int) = (x : Int) := IntWalk.i64_in _ (by omega)
            obtain ⟨t, ht2⟩ : ∃ t, S x = t := ⟨_, rfl⟩
            rw [ht2] at I hrv hFk
            replace hrv := Lib.hid hrv
            replace hFk := Lib.hid hFk
            have HI := Lib.hid I
            have HBd := Lib.hid HB.out.drew
            have HXd : Hid (OwnArr wr.drew w.heap.size 28 [.int .i64 n, .bool true, .slice p m cap]) := HX.out
            have HOd : Hid (OutP (w.heap.size + 1) wr.drew u3 (PP (tk k G))) := HO.out
            clear I hx ht2 HX HO HB
            go_upto_region 10 with fail
            go_cut [71] (fun v wx => v = .bool (!t) ∧ Hid (OwnArr wx w.heap.size 28 [.int .i64 n, .bool true, .slice p m cap]) ∧ Hid (OutP (w.heap.size + 1) wx u3 (PP (tk k G))) ∧ Hid (Below w.heap.size w wx))
            case first =>
              cases t with
              | true =>
                refine wp_region_any (by kernel_rfl) ?_
                change wpAny _ _ _ _ _ _ _ (World.drew _)
                refine take_d (i := 1) (d := some 52) (v := .int .i64 (k : Int)) rfl rfl (by kernel_rfl) (by kernel_rfl) (by kernel_rfl) (fun _ _ _ h => h) (by kernel_rfl) (by intro w; go_simp; try (with_reducible rfl)) ?_
                simp only [Act.put, List.setIfInBounds_toArray, List.set_cons_zero, List.set_cons_succ]
                refine take_d (i := 2) (d := some 53) (v := .int .i64 (j : Int)) rfl rfl (by kernel_rfl) (by kernel_rfl) (by kernel_rfl) (fun _ _ _ h => h) (by kernel_rfl) (by intro w; go_simp; try (with_reducible rfl)) ?_
                simp only [Act.put, List.setIfInBounds_toArray, List.set_cons_zero, List.set_cons_succ]
                refine take_d (i := 3) (d := some 54) (v := .int .i64 ((k : Int) + (j : Int))) rfl rfl (by kernel_rfl) (by kernel_rfl) (by kernel_rfl) (fun _ _ _ h => h) (by kernel_rfl) (by intro w; go_simp; try (with_reducible rfl)) ?_
                simp only [Act.put, List.setIfInBounds_toArray, List.set_cons_zero, List.set_cons_succ]
                refine take_d (i := 4) (d := some 55) (v := .pointer (some ⟨w.heap.size, 0, none⟩)) rfl rfl (by kernel_rfl) (by kernel_rfl) (by kernel_rfl) (fun _ _ _ h => h) (by kernel_rfl) (by intro w; go_simp; try (with_reducible rfl)) ?_
                simp only [Act.put, List.setIfInBounds_toArray, List.set_cons_zero, List.set_cons_succ]
                refine wpAny_ready (rs := [0, 5]) (by kernel_rfl) (by simp) ?_
                refine AllReady.cons rfl (fun K hK => ?first) (AllReady.cons rfl (fun K hK => ?second) AllReady.nil)
                case first =>
                  go_simp
                  refine hK _ _ ?_
                  clear hK K
                  try simp only [Act.put, List.setIfInBounds_toArray, List.set_cons_zero, List.set_cons_succ]
                  refine wpAny_ready (rs := [5]) (by kernel_rfl) (by simp) ?_
                  refine AllReady.cons rfl (fun K hK => ?_) AllReady.nil
                  go_simp
                  refine hK _ _ ?_
                  clear hK K
                  try simp only [Act.put, List.setIfInBounds_toArray, List.set_cons_zero, List.set_cons_succ]
                  refine take_d (i := 6) (d := some 57) (v := .int .i64 (x : Int)) rfl rfl (by kernel_rfl) (by kernel_rfl) (by kernel_rfl) (fun _ _ _ h => h) (by kernel_rfl) (by intro w; go_simp; try (with_reducible rfl)) ?_
                  simp only [Act.put, List.setIfInBounds_toArray, List.set_cons_zero, List.set_cons_succ]
                  refine wpAny_ready (rs := [7]) (by kernel_rfl) (by simp) ?_
                  refine AllReady.cons rfl (fun K hK => ?_) AllReady.nil
                  go_simp
                  go_wp2_with (first | (go_at_call 58; refine HI.out.mono ?_; rintro e w5 ⟨rfl, hb5⟩; have HX5 := Lib.hid (HXd.out.below hb5 HXd.out.lt); have HB5 := Lib.hid (HBd.out.trans (hb5.mono HBd.out.size)); have HO5 := Lib.hid (HOd.out.below hb5); clear hb5; obtain ⟨d0, d1, d2, -⟩ := HX5.out.three))
                  refine take_d (i := 8) (d := some 59) (v := .bool false) rfl rfl (by kernel_rfl) (by kernel_rfl) (by kernel_rfl) (fun _ _ _ h => h) (by kernel_rfl) (by intro w; go_simp; try (with_reducible rfl)) ?_
                  simp only [Act.put, List.setIfInBounds_toArray, List.set_cons_zero, List.set_cons_succ]
                  refine take_d (i := 9) (d := some 60) (v := .bool false) rfl rfl (by kernel_rfl) (by kernel_rfl) (by kernel_rfl) (fun _ _ _ h => h) (by kernel_rfl) (by intro w; go_simp; try (with_reducible rfl)) ?_
                  simp only [Act.put, List.setIfInBounds_toArray, List.set_cons_zero, List.set_cons_succ]
                  refine skip_take (i := 10) (d := some 61) rfl rfl (by kernel_rfl) (by kernel_rfl) (by kernel_rfl) (fun _ _ _ h => h) (by kernel_rfl) ?_
                  simp only [Act.put, List.setIfInBounds_toArray, List.set_cons_zero, List.set_cons_succ]
                  refine skip_take (i := 11) (d := some 62) rfl rfl (by kernel_rfl) (by kernel_rfl) (by kernel_rfl) (fun _ _ _ h => h) (by kernel_rfl) ?_
                  simp only [Act.put, List.setIfInBounds_toArray, List.set_cons_zero, List.set_cons_succ]
                  refine skip_take (i := 12) (d := some 63) rfl rfl (by kernel_rfl) (by kernel_rfl) (by kernel_rfl) (fun _ _ _ h => h) (by kernel_rfl) ?_
                  simp only [Act.put, List.setIfInBounds_toArray, List.set_cons_zero, List.set_cons_succ]
                  refine skip_take (i := 13) (d := some 64) rfl rfl (by kernel_rfl) (by kernel_rfl) (by kernel_rfl) (fun _ _ _ h => h) (by kernel_rfl) ?_
                  simp only [Act.put, List.setIfInBounds_toArray, List.set_cons_zero, List.set_cons_succ]
                  refine skip_take (i := 14) (d := some 65) rfl rfl (by kernel_rfl) (by kernel_rfl) (by kernel_rfl) (fun _ _ _ h => h) (by kernel_rfl) ?_
                  simp only [Act.put, List.setIfInBounds_toArray, List.set_cons_zero, List.set_cons_succ]
                  refine skip_take (i := 15) (d := some 66) rfl rfl (by kernel_rfl) (by kernel_rfl) (by kernel_rfl) (fun _ _ _ h => h) (by kernel_rfl) ?_
                  simp only [Act.put, List.setIfInBounds_toArray, List.set_cons_zero, List.set_cons_succ]
                  refine skip_take (i := 16) (d := some 67) rfl rfl (by kernel_rfl) (by kernel_rfl) (by kernel_rfl) (fun _ _ _ h => h) (by kernel_rfl) ?_
                  simp only [Act.put, List.setIfInBounds_toArray, List.set_cons_zero, List.set_cons_succ]
                  refine skip_take (i := 17) (d := some 68) rfl rfl (by kernel_rfl) (by kernel_rfl) (by kernel_rfl) (fun _ _ _ h => h) (by kernel_rfl) ?_
                  simp only [Act.put, List.setIfInBounds_toArray, List.set_cons_zero, List.set_cons_succ]
                  refine skip_take (i := 18) (d := some 69) rfl rfl (by kernel_rfl) (by kernel_rfl) (by kernel_rfl) (fun _ _ _ h => h) (by kernel_rfl) ?_
                  simp only [Act.put, List.setIfInBounds_toArray, List.set_cons_zero, List.set_cons_succ]
                  refine skip_take (i := 19) (d := some 70) rfl rfl (by kernel_rfl) (by kernel_rfl) (by kernel_rfl) (fun _ _ _ h => h) (by kernel_rfl) ?_
                  simp only [Act.put, List.setIfInBounds_toArray, List.set_cons_zero, List.set_cons_succ]
                  refine take_d (i := 20) (d := some 71) (v := .bool false) rfl rfl (by kernel_rfl) (by kernel_rfl) (by kernel_rfl) (fun _ _ _ h => h) (by kernel_rfl) (by intro w; go_simp; try (with_reducible rfl)) ?_
                  simp only [Act.put, List.setIfInBounds_toArray, List.set_cons_zero, List.set_cons_succ]
                  refine wpAny_done (by kernel_rfl) ?_ _
                  go_wp2_with fail
                  go_meet
                  exact ⟨rfl, HX5, HO5, HB5⟩
                case second =>
                  go_simp
                  refine hK _ _ ?_
                  clear hK K
                  try simp only [Act.put, List.setIfInBounds_toArray, List.set_cons_zero, List.set_cons_succ]
                  refine take_d (i := 6) (d := some 57) (v := .int .i64 (x : Int)) rfl rfl (by kernel_rfl) (by kernel_rfl) (by kernel_rfl) (fun _ _ _ h => h) (by kernel_rfl) (by intro w; go_simp; try (with_reducible rfl)) ?_
                  simp only [Act.put, List.setIfInBounds_toArray, List.set_cons_zero, List.set_cons_succ]
                  refine wpAny_ready (rs := [0]) (by kernel_rfl) (by simp) ?_
                  refine AllReady.cons rfl (fun K hK => ?_) AllReady.nil
                  go_simp
                  refine hK _ _ ?_
                  clear hK K
                  try simp only [Act.put, List.setIfInBounds_toArray, List.set_cons_zero, List.set_cons_succ]
                  refine wpAny_ready (rs := [7]) (by kernel_rfl) (by simp) ?_
                  refine AllReady.cons rfl (fun K hK => ?_) AllReady.nil
                  go_simp
                  go_wp2_with (first | (go_at_call 58; refine HI.out.mono ?_; rintro e w5 ⟨rfl, hb5⟩; have HX5 := Lib.hid (HXd.out.below hb5 HXd.out.lt); have HB5 := Lib.hid (HBd.out.trans (hb5.mono HBd.out.size)); have HO5 := Lib.hid (HOd.out.below hb5); clear hb5; obtain ⟨d0, d1, d2, -⟩ := HX5.out.three))
                  refine take_d (i := 8) (d := some 59) (v := .bool false) rfl rfl (by kernel_rfl) (by kernel_rfl) (by kernel_rfl) (fun _ _ _ h => h) (by kernel_rfl) (by intro w; go_simp; try (with_reducible rfl)) ?_
                  simp only [Act.put, List.setIfInBounds_toArray, List.set_cons_zero, List.set_cons_succ]
                  refine take_d (i := 9) (d := some 60) (v := .bool false) rfl rfl (by kernel_rfl) (by kernel_rfl) (by kernel_rfl) (fun _ _ _ h => h) (by kernel_rfl) (by intro w; go_simp; try (with_reducible rfl)) ?_
                  simp only [Act.put, List.setIfInBounds_toArray, List.set_cons_zero, List.set_cons_succ]
                  refine skip_take (i := 10) (d := some 61) rfl rfl (by kernel_rfl) (by kernel_rfl) (by kernel_rfl) (fun _ _ _ h => h) (by kernel_rfl) ?_
                  simp only [Act.put, List.setIfInBounds_toArray, List.set_cons_zero, List.set_cons_succ]
                  refine skip_take (i := 11) (d := some 62) rfl rfl (by kernel_rfl) (by kernel_rfl) (by kernel_rfl) (fun _ _ _ h => h) (by kernel_rfl) ?_
                  simp only [Act.put, List.setIfInBounds_toArray, List.set_cons_zero, List.set_cons_succ]
                  refine skip_take (i := 12) (d := some 63) rfl rfl (by kernel_rfl) (by kernel_rfl) (by kernel_rfl) (fun _ _ _ h => h) (by kernel_rfl) ?_
                  simp only [Act.put, List.setIfInBounds_toArray, List.set_cons_zero, List.set_cons_succ]
                  refine skip_take (i := 13) (d := some 64) rfl rfl (by kernel_rfl) (by kernel_rfl) (by kernel_rfl) (fun _ _ _ h => h) (by kernel_rfl) ?_
                  simp only [Act.put, List.setIfInBounds_toArray, List.set_cons_zero, List.set_cons_succ]
                  refine skip_take (i := 14) (d := some 65) rfl rfl (by kernel_rfl) (by kernel_rfl) (by kernel_rfl) (fun _ _ _ h => h) (by kernel_rfl) ?_
                  simp only [Act.put, List.setIfInBounds_toArray, List.set_cons_zero, List.set_cons_succ]
                  refine skip_take (i := 15) (d := some 66) rfl rfl (by kernel_rfl) (by kernel_rfl) (by kernel_rfl) (fun _ _ _ h => h) (by kernel_rfl) ?_
                  simp only [Act.put, List.setIfInBounds_toArray, List.set_cons_zero, List.set_cons_succ]
                  refine skip_take (i := 16) (d := some 67) rfl rfl (by kernel_rfl) (by kernel_rfl) (by kernel_rfl) (fun _ _ _ h => h) (by kernel_rfl) ?_
                  simp only [Act.put, List.setIfInBounds_toArray, List.set_cons_zero, List.set_cons_succ]
                  refine skip_take (i := 17) (d := some 68) rfl rfl (by kernel_rfl) (by kernel_rfl) (by kernel_rfl) (fun _ _ _ h => h) (by kernel_rfl) ?_
                  simp only [Act.put, List.setIfInBounds_toArray, List.set_cons_zero, List.set_cons_succ]
                  refine skip_take (i := 18) (d := some 69) rfl rfl (by kernel_rfl) (by kernel_rfl) (by kernel_rfl) (fun _ _ _ h => h) (by kernel_rfl) ?_
                  simp only [Act.put, List.setIfInBounds_toArray, List.set_cons_zero, List.set_cons_succ]
                  refine skip_take (i := 19) (d := some 70) rfl rfl (by kernel_rfl) (by kernel_rfl) (by kernel_rfl) (fun _ _ _ h => h) (by kernel_rfl) ?_
                  simp only [Act.put, List.setIfInBounds_toArray, List.set_cons_zero, List.set_cons_succ]
                  refine take_d (i := 20) (d := some 71) (v := .bool false) rfl rfl (by kernel_rfl) (by kernel_rfl) (by kernel_rfl) (fun _ _ _ h => h) (by kernel_rfl) (by intro w; go_simp; try (with_reducible rfl)) ?_
                  simp only [Act.put, List.setIfInBounds_toArray, List.set_cons_zero, List.set_cons_succ]
                  refine wpAny_done (by kernel_rfl) ?_ _
                  go_wp2_with fail
                  go_meet
                  exact ⟨rfl, HX5, HO5, HB5⟩
              | false =>
                refine wp_region_any (by kernel_rfl) ?_
                change wpAny _ _ _ _ _ _ _ (World.drew _)
                refine take_d (i := 1) (d := some 52) (v := .int .i64 (k : Int)) rfl rfl (by kernel_rfl) (by kernel_rfl) (by kernel_rfl) (fun _ _ _ h => h) (by kernel_rfl) (by intro w; go_simp; try (with_reducible rfl)) ?_
                simp only [Act.put, List.setIfInBounds_toArray, List.set_cons_zero, List.set_cons_succ]
                refine take_d (i := 2) (d := some 53) (v := .int .i64 (j : Int)) rfl rfl (by kernel_rfl) (by kernel_rfl) (by kernel_rfl) (fun _ _ _ h => h) (by kernel_rfl) (by intro w; go_simp; try (with_reducible rfl)) ?_
                simp only [Act.put, List.setIfInBounds_toArray, List.set_cons_zero, List.set_cons_succ]
                refine take_d (i := 3) (d := some 54) (v := .int .i64 ((k : Int) + (j : Int))) rfl rfl (by kernel_rfl) (by kernel_rfl) (by kernel_rfl) (fun _ _ _ h => h) (by kernel_rfl) (by intro w; go_simp; try (with_reducible rfl)) ?_
                simp only [Act.put, List.setIfInBounds_toArray, List.set_cons_zero, List.set_cons_succ]
                refine take_d (i := 4) (d := some 55) (v := .pointer (some ⟨w.heap.size, 0, none⟩)) rfl rfl (by kernel_rfl) (by kernel_rfl) (by kernel_rfl) (fun _ _ _ h => h) (by kernel_rfl) (by intro w; go_simp; try (with_reducible rfl)) ?_
                simp only [Act.put, List.setIfInBounds_toArray, List.set_cons_zero, List.set_cons_succ]
                refine wpAny_ready (rs := [0, 5]) (by kernel_rfl) (by simp) ?_
                refine AllReady.cons rfl (fun K hK => ?first) (AllReady.cons rfl (fun K hK => ?second) AllReady.nil)
                case first =>
                  go_simp
                  refine hK _ _ ?_
                  clear hK K
                  try simp only [Act.put, List.setIfInBounds_toArray, List.set_cons_zero, List.set_cons_succ]
                  refine wpAny_ready (rs := [5]) (by kernel_rfl) (by simp) ?_
                  refine AllReady.cons rfl (fun K hK => ?_) AllReady.nil
                  go_simp
                  refine hK _ _ ?_
                  clear hK K
                  try simp only [Act.put, List.setIfInBounds_toArray, List.set_cons_zero, List.set_cons_succ]
                  refine take_d (i := 6) (d := some 57) (v := .int .i64 (x : Int)) rfl rfl (by kernel_rfl) (by kernel_rfl) (by kernel_rfl) (fun _ _ _ h => h) (by kernel_rfl) (by intro w; go_simp; try (with_reducible rfl)) ?_
                  simp only [Act.put, List.setIfInBounds_toArray, List.set_cons_zero, List.set_cons_succ]
                  refine wpAny_ready (rs := [7]) (by kernel_rfl) (by simp) ?_
                  refine AllReady.cons rfl (fun K hK => ?_) AllReady.nil
                  go_simp
                  go_wp2_with (first | (go_at_call 58; refine HI.out.mono ?_; rintro e w5 ⟨rfl, hb5⟩; have HX5 := Lib.hid (HXd.out.below hb5 HXd.out.lt); have HB5 := Lib.hid (HBd.out.trans (hb5.mono HBd.out.size)); have HO5 := Lib.hid (HOd.out.below hb5); clear hb5; obtain ⟨d0, d1, d2, -⟩ := HX5.out.three))
                  refine take_d (i := 8) (d := some 59) (v := .bool true) rfl rfl (by kernel_rfl) (by kernel_rfl) (by kernel_rfl) (fun _ _ _ h => h) (by kernel_rfl) (by intro w; go_simp; try (with_reducible rfl)) ?_
                  simp only [Act.put, List.setIfInBounds_toArray, List.set_cons_zero, List.set_cons_succ]
                  refine take_d (i := 9) (d := some 60) (v := .bool true) rfl rfl (by kernel_rfl) (by kernel_rfl) (by kernel_rfl) (fun _ _ _ h => h) (by kernel_rfl) (by intro w; go_simp; try (with_reducible rfl)) ?_
                  simp only [Act.put, List.setIfInBounds_toArray, List.set_cons_zero, List.set_cons_succ]
                  refine take_d (i := 10) (d := some 61) (v := .pointer (some ⟨w.heap.size, 1, none⟩)) rfl rfl (by kernel_rfl) (by kernel_rfl) (by kernel_rfl) (fun _ _ _ h => h) (by kernel_rfl) (by intro w; go_simp; try (with_reducible rfl)) ?_
                  simp only [Act.put, List.setIfInBounds_toArray, List.set_cons_zero, List.set_cons_succ]
                  refine wpAny_ready (rs := [11]) (by kernel_rfl) (by simp) ?_
                  refine AllReady.cons rfl (fun K hK => ?_) AllReady.nil
                  go_simp
                  refine hK _ _ ?_
                  clear hK K
                  try simp only [Act.put, List.setIfInBounds_toArray, List.set_cons_zero, List.set_cons_succ]
                  refine take_d (i := 12) (d := some 63) (v := .bool true) rfl rfl (by kernel_rfl) (by kernel_rfl) (by kernel_rfl) (fun _ _ _ h => h) (by kernel_rfl) (by intro w; go_simp; try (with_reducible rfl)) ?_
                  simp only [Act.put, List.setIfInBounds_toArray, List.set_cons_zero, List.set_cons_succ]
                  refine skip_take (i := 13) (d := some 64) rfl rfl (by kernel_rfl) (by kernel_rfl) (by kernel_rfl) (fun _ _ _ h => h) (by kernel_rfl) ?_
                  simp only [Act.put, List.setIfInBounds_toArray, List.set_cons_zero, List.set_cons_succ]
                  refine skip_take (i := 14) (d := some 65) rfl rfl (by kernel_rfl) (by kernel_rfl) (by kernel_rfl) (fun _ _ _ h => h) (by kernel_rfl) ?_
                  simp only [Act.put, List.setIfInBounds_toArray, List.set_cons_zero, List.set_cons_succ]
                  refine skip_take (i := 15) (d := some 66) rfl rfl (by kernel_rfl) (by kernel_rfl) (by kernel_rfl) (fun _ _ _ h => h) (by kernel_rfl) ?_
                  simp only [Act.put, List.setIfInBounds_toArray, List.set_cons_zero, List.set_cons_succ]
                  refine skip_take (i := 16) (d := some 67) rfl rfl (by kernel_rfl) (by kernel_rfl) (by kernel_rfl) (fun _ _ _ h => h) (by kernel_rfl) ?_
                  simp only [Act.put, List.setIfInBounds_toArray, List.set_cons_zero, List.set_cons_succ]
                  refine skip_take (i := 17) (d := some 68) rfl rfl (by kernel_rfl) (by kernel_rfl) (by kernel_rfl) (fun _ _ _ h => h) (by kernel_rfl) ?_
                  simp only [Act.put, List.setIfInBounds_toArray, List.set_cons_zero, List.set_cons_succ]
                  refine skip_take (i := 18) (d := some 69) rfl rfl (by kernel_rfl) (by kernel_rfl) (by kernel_rfl) (fun _ _ _ h => h) (by kernel_rfl) ?_
                  simp only [Act.put, List.setIfInBounds_toArray, List.set_cons_zero, List.set_cons_succ]
                  refine take_d (i := 19) (d := some 70) (v := .bool true) rfl rfl (by kernel_rfl) (by kernel_rfl) (by kernel_rfl) (fun _ _ _ h => h) (by kernel_rfl) (by intro w; go_simp; try (with_reducible rfl)) ?_
                  simp only [Act.put, List.setIfInBounds_toArray, List.set_cons_zero, List.set_cons_succ]
                  refine take_d (i := 20) (d := some 71) (v := .bool true) rfl rfl (by kernel_rfl) (by kernel_rfl) (by kernel_rfl) (fun _ _ _ h => h) (by kernel_rfl) (by intro w; go_simp; try (with_reducible rfl)) ?_
                  simp only [Act.put, List.setIfInBounds_toArray, List.set_cons_zero, List.set_cons_succ]
                  refine wpAny_done (by kernel_rfl) ?_ _
                  go_wp2_with fail
                  go_meet
                  exact ⟨rfl, HX5, HO5, HB5⟩
                case second =>
                  go_simp
                  refine hK _ _ ?_
                  clear hK K
                  try simp only [Act.put, List.setIfInBounds_toArray, List.set_cons_zero, List.set_cons_succ]
                  refine take_d (i := 6) (d := some 57) (v := .int .i64 (x : Int)) rfl rfl (by kernel_rfl) (by kernel_rfl) (by kernel_rfl) (fun _ _ _ h => h) (by kernel_rfl) (by intro w; go_simp; try (with_reducible rfl)) ?_
                  simp only [Act.put, List.setIfInBounds_toArray, List.set_cons_zero, List.set_cons_succ]
                  refine wpAny_ready (rs := [0]) (by kernel_rfl) (by simp) ?_
                  refine AllReady.cons rfl (fun K hK => ?_) AllReady.nil
                  go_simp
                  refine hK _ _ ?_
                  clear hK K
                  try simp only [Act.put, List.setIfInBounds_toArray, List.set_cons_zero, List.set_cons_succ]
                  refine wpAny_ready (rs := [7]) (by kernel_rfl) (by simp) ?_
                  refine AllReady.cons rfl (fun K hK => ?_) AllReady.nil
                  go_simp
                  go_wp2_with (first | (go_at_call 58; refine HI.out.mono ?_; rintro e w5 ⟨rfl, hb5⟩; have HX5 := Lib.hid (HXd.out.below hb5 HXd.out.lt); have HB5 := Lib.hid (HBd.out.trans (hb5.mono HBd.out.size)); have HO5 := Lib.hid (HOd.out.below hb5); clear hb5; obtain ⟨d0, d1, d2, -⟩ := HX5.out.three))
                  refine take_d (i := 8) (d := some 59) (v := .bool true) rfl rfl (by kernel_rfl) (by kernel_rfl) (by kernel_rfl) (fun _ _ _ h => h) (by kernel_rfl) (by intro w; go_simp; try (with_reducible rfl)) ?_
                  simp only [Act.put, List.setIfInBounds_toArray, List.set_cons_zero, List.set_cons_succ]
                  refine take_d (i := 9) (d := some 60) (v := .bool true) rfl rfl (by kernel_rfl) (by kernel_rfl) (by kernel_rfl) (fun _ _ _ h => h) (by kernel_rfl) (by intro w; go_simp; try (with_reducible rfl)) ?_
                  simp only [Act.put, List.setIfInBounds_toArray, List.set_cons_zero, List.set_cons_succ]
                  refine take_d (i := 10) (d := some 61) (v := .pointer (some ⟨w.heap.size, 1, none⟩)) rfl rfl (by kernel_rfl) (by kernel_rfl) (by kernel_rfl) (fun _ _ _ h => h) (by kernel_rfl) (by intro w; go_simp; try (with_reducible rfl)) ?_
                  simp only [Act.put, List.setIfInBounds_toArray, List.set_cons_zero, List.set_cons_succ]
                  refine wpAny_ready (rs := [11]) (by kernel_rfl) (by simp) ?_
                  refine AllReady.cons rfl (fun K hK => ?_) AllReady.nil
                  go_simp
                  refine hK _ _ ?_
                  clear hK K
                  try simp only [Act.put, List.setIfInBounds_toArray, List.set_cons_zero, List.set_cons_succ]
                  refine take_d (i := 12) (d := some 63) (v := .bool true) rfl rfl (by kernel_rfl) (by kernel_rfl) (by kernel_rfl) (fun _ _ _ h => h) (by kernel_rfl) (by intro w; go_simp; try (with_reducible rfl)) ?_
                  simp only [Act.put, List.setIfInBounds_toArray, List.set_cons_zero, List.set_cons_succ]
                  refine skip_take (i := 13) (d := some 64) rfl rfl (by kernel_rfl) (by kernel_rfl) (by kernel_rfl) (fun _ _ _ h => h) (by kernel_rfl) ?_
                  simp only [Act.put, List.setIfInBounds_toArray, List.set_cons_zero, List.set_cons_succ]
                  refine skip_take (i := 14) (d := some 65) rfl rfl (by kernel_rfl) (by kernel_rfl) (by kernel_rfl) (fun _ _ _ h => h) (by kernel_rfl) ?_
                  simp only [Act.put, List.setIfInBounds_toArray, List.set_cons_zero, List.set_cons_succ]
                  refine skip_take (i := 15) (d := some 66) rfl rfl (by kernel_rfl) (by kernel_rfl) (by kernel_rfl) (fun _ _ _ h => h) (by kernel_rfl) ?_
                  simp only [Act.put, List.setIfInBounds_toArray, List.set_cons_zero, List.set_cons_succ]
                  refine skip_take (i := 16) (d := some 67) rfl rfl (by kernel_rfl) (by kernel_rfl) (by kernel_rfl) (fun _ _ _ h => h) (by kernel_rfl) ?_
                  simp only [Act.put, List.setIfInBounds_toArray, List.set_cons_zero, List.set_cons_succ]
                  refine skip_take (i := 17) (d := some 68) rfl rfl (by kernel_rfl) (by kernel_rfl) (by kernel_rfl) (fun _ _ _ h => h) (by kernel_rfl) ?_
                  simp only [Act.put, List.setIfInBounds_toArray, List.set_cons_zero, List.set_cons_succ]
                  refine skip_take (i := 18) (d := some 69) rfl rfl (by kernel_rfl) (by kernel_rfl) (by kernel_rfl) (fun _ _ _ h => h) (by kernel_rfl) ?_
                  simp only [Act.put, List.setIfInBounds_toArray, List.set_cons_zero, List.set_cons_succ]
                  refine take_d (i := 19) (d := some 70) (v := .bool true) rfl rfl (by kernel_rfl) (by kernel_rfl) (by kernel_rfl) (fun _ _ _ h => h) (by kernel_rfl) (by intro w; go_simp; try (with_reducible rfl)) ?_
                  simp only [Act.put, List.setIfInBounds_toArray, List.set_cons_zero, List.set_cons_succ]
                  refine take_d (i := 20) (d := some 71) (v := .bool true) rfl rfl (by kernel_rfl) (by kernel_rfl) (by kernel_rfl) (fun _ _ _ h => h) (by kernel_rfl) (by intro w; go_simp; try (with_reducible rfl)) ?_
                  simp only [Act.put, List.setIfInBounds_toArray, List.set_cons_zero, List.set_cons_succ]
                  refine wpAny_done (by kernel_rfl) ?_ _
                  go_wp2_with fail
                  go_meet
                  exact ⟨rfl, HX5, HO5, HB5⟩
            case rest =>
              obtain ⟨rfl, HX5, HO5, HB5⟩ := hcut
              clear HI HBd HXd HOd c0 c1 c2
              obtain ⟨cc, hcc⟩ : ∃ cc, (!t) = cc := ⟨_, rfl⟩
              rw [hcc]
              obtain ⟨c0, c1, c2, -⟩ := HX5.out.three
              cases cc with
              | true =>
                obtain ⟨hjn, htf⟩ : j < n ∧ t = false := by
                  have htf : t = false := by cases t <;> simp_all
                  exact ⟨hrv.out.2 htf, htf⟩
                have HF2 := Lib.hid (hFk.out htf)
                clear hcc htf
                go_wp2_with fail
                go_roundw
                case rel => exact ⟨j + 1, by omega, by go_num, HF2, HX5, HO5, HB5⟩
                case measure => simp [intOf]; omega
              | false =>
                have hv : V k = j := by
                  have htf : t = true := by cases t <;> simp_all
                  exact hrv.out.1 htf
                have HST := HSN2.out
                rw [hv] at HST
                replace HST := Lib.hid HST
                have HLk := Lib.hid (HLN.out k)
                have hne1 := Lib.hid (own_neP HO5.out HX5.out)
                have hblk := Lib.hid (own_block HO5.out)
                obtain ⟨n2, vs, hnl, hvs, hown⟩ := HO5.out.open'
                have hlk := HLk.out
                rw [hnl] at hlk
                have hsz2 := HX5.out.lt
                replace hnl := Lib.hid hnl
                replace hvs := Lib.hid hvs
                clear HLk hv hcc
                go_wp2_with (at_builtin; refine wpList_append_own _ rfl _ _ 35 rfl (w.heap.size + 1) 55 i0 (.agg #[.int .i64 0, .int .i64 0]) 2 16 Try.underlying35 hi hz0 hz1 hz2 rfl (by decide) _ _ _ rfl (hown.alloc _) ⟨wc.heap.size, 0, none⟩ 1 1 [.int .i64 (k : Int), .int .i64 (j : Int)] rfl rfl (cell_two_new _ _ _ _) (two_one _ _) (by unfold maxLen; omega) (by omega) (by simp; omega) ?_; intro v' w3 hown' hgrow3 hnil3)
                have hG : Below (w.heap.size + 1) wc w3 := ((Below.refl (w.heap.size + 1) wc).alloc (by omega) _).grown hgrow3 (by simp; omega) hblk.out
                have HX6 := Lib.hid (HX5.out.below hG (Nat.lt_succ_self _))
                have HB6 := Lib.hid (HB5.out.trans (hG.mono (Nat.le_succ _)))
                have HO6 : Hid (OutP (w.heap.size + 1) w3 v' (PP (tk (k + 1) G))) := by
                  show OutP _ _ _ _
                  rw [HST.out]; exact OutP.close hnl.out hvs.out hown'
                clear hown' hgrow3 hnil3 hown hG hne1 hblk hnl hvs HX5 HO5 HB5 HST hlk
                go_wp2_with fail
                go_roundw
                case rel => exact ⟨k + 1, by omega, by go_num, HX6, HO6, HB6⟩
                case measure => simp [intOf]; omega
    · have hkn : k = n := by omega
      subst hkn
      go_wp2_with fail
      go_ret
      exact ⟨_, rfl, HO.out.mono (Nat.le_succ _), HB.out⟩

set_option maxRecDepth 4000 in
set_option maxHeartbeats 3000000 in
theorem runsS_line (n : Nat) (p : Option Addr) (cap : Nat) (S : Nat → Bool) (w : World) (lo hi' : Nat) (hin : Ri lo hi' w p (ints (tk n S))) (h2 : 2 ≤ n) (hn : n ≤ 24) :
    Calls Try.prog 38 #[rowV n false p (ints (tk n S)).length cap] w fun e w' => ∃ v, e = .returned v ∧ OutP w.heap.size w' v (prs (runsM n false S)) ∧ Below w.heap.size w w' := by
  obtain ⟨i0, hi, hz0, hz1, hz2⟩ := info_parts infoPair
  rw [runP_all]
  have hlen := ints_tk_len n S
  have IS : ∀ (x : Nat) (_ : x < n) (w' : World) (_ : Below w.heap.size w w'), Calls Try.prog 58 #[rowV n false p (ints (tk n S)).length cap, .int .i64 (x : Nat)] w' fun e w'' => e = .returned (.bool (S x)) ∧ Below w'.heap.size w' w'' := by
    intro x hx w' h'
    have := l2Is_any n false p cap (ints (tk n S)) x w' lo hi' (hin.below h' hin.top) (by omega)
    rw [has_tk hx] at this
    exact this
  have SP : Hid (∀ k, startM n false S k = !(S k || (!S ((k + n - 1) % n) && (false || decide (0 < k))))) := by
    show ∀ _, _
    intro k
    exact start_spec (fun h => by cases h.1)
  have hX := (OwnArr.made w 28 [.int .i64 n, .bool false, .slice p (ints (tk n S)).length cap]).alloc (.cells #[] 55)
  have hB := (box_below w n false p (ints (tk n S)).length cap 28).alloc (by simp) (.cells #[] 55)
  have hO0 := OutP.nilLit (w.alloc (.cells #[.int .i64 n, .bool false, .slice p (ints (tk n S)).length cap] 28))
  have hs0 : (w.alloc (.cells #[.int .i64 n, .bool false, .slice p (ints (tk n S)).length cap] 28)).heap.size = w.heap.size + 1 := by simp
  rw [hs0] at hO0
  have hml := ints_length (tk n S)
  obtain ⟨m, hm⟩ : ∃ m, (ints (tk n S)).length = m := ⟨_, rfl⟩
  rw [hm] at IS hX hB hO0 ⊢
  have HX0 := Lib.hid hX
  have HB0 := Lib.hid hB
  have HO0 := Lib.hid hO0
  replace IS := Lib.hid IS
  obtain ⟨G, hG⟩ : ∃ G : Nat → Bool, startM n false S = G := ⟨_, rfl⟩
  rw [hG] at SP ⊢
  have HVL : Hid (∀ x, runM n false S x ≤ n) := by show ∀ _, _; intro x; exact runM_le n false S x
  have HRV : Hid (∀ k, k < n → True → ∀ j, (∀ i, i < j → S ((k + i) % n) = false) → j ≤ n - k → (S ((k + j) % n) = true ∨ k + j = n → runM n false S k = j)) := by
    show ∀ _, _
    intro k hk _ j h1 h2 h3
    unfold runM reachM
    rw [if_neg (by simp)]
    refine firstM_eq h1 h2 (fun h => ?_)
    rcases h3 with h3 | h3
    · exact h3
    · omega
  have HSN : Hid (∀ k, G k = true → runP n false S (tk (k + 1) G) = runP n false S (tk k G) ++ [((k : Int), ((runM n false S k : Nat) : Int))]) := by
    show ∀ _, _ → _
    intro k h
    unfold runP
    rw [tk_succ, if_pos h, List.map_append]; rfl
  have HSK : Hid (∀ k, G k = false → runP n false S (tk (k + 1) G) = runP n false S (tk k G)) := by
    show ∀ _, _ → _
    intro k h
    unfold runP
    rw [tk_succ, if_neg (by rw [h]; simp), List.append_nil]
  have HLN : Hid (∀ k, (runP n false S (tk k G)).length ≤ k) := by
    show ∀ _, _
    intro k
    unfold runP
    rw [List.length_map]; exact tk_length_le k G
  obtain ⟨V, hV⟩ : ∃ V : Nat → Nat, runM n false S = V := ⟨_, rfl⟩
  obtain ⟨PP, hPP⟩ : ∃ PP : List Nat → List (Int × Int), runP n false S = PP := ⟨_, rfl⟩
  have hPP0 : PP [] = [] := by rw [← hPP]; rfl
  replace hPP0 := Lib.hid hPP0
  rw [hV] at HVL HRV HSN
  rw [hPP] at HSN HSK HLN ⊢
  clear hin hlen hm hX hB hO0 hs0 hG hml hV hPP
  have hn0 : ¬ n = 0 := by omega
  have hn0' : ¬ (n : Int) = 0 := by omega
  obtain ⟨c0, c1, c2, -⟩ := HX0.out.three
  go_enter Try.func38, Try.ntmps38
  go_wp2_with fail
  clear c0 c1 c2
  go_loopw [3, 4, 5, 6] (fun v i _ _ wr => ∃ (k : Nat), k ≤ n ∧ i = .int .i64 k ∧ Hid (OwnArr wr w.heap.size 28 [.int .i64 n, .bool false, .slice p m cap]) ∧ Hid (OutP (w.heap.size + 1) wr v (PP (tk k G))) ∧ Hid (Below w.heap.size w wr)) (fun _ i _ _ _ => n - (intOf i).toNat)
  case atStart => exact ⟨0, Nat.zero_le _, rfl, HX0, (by show OutP _ _ _ _; rw [show tk 0 G = [] from rfl, hPP0.out]; exact HO0.out), HB0⟩
  case round =>
    obtain ⟨k, hk, rfl, HX, HO, HB⟩ := hrel
    clear HX0 HO0 HB0
    obtain ⟨c0, c1, c2, -⟩ := HX.out.three
    by_cases hlt : k < n
    · have hk1 : (k : Int) < (n : Int) := by omega
      have hbk : (k + n - 1) % n < n := Nat.mod_lt _ (by omega)
      have hsp := SP.out k
      have I1 := IS.out k hlt
      have I2 := IS.out _ hbk
      obtain ⟨y, hy⟩ : ∃ y, (k + n - 1) % n = y := ⟨_, rfl⟩
      have hw1 : IntKind.i64.wrap ((k : Int) - 1) = (k : Int) - 1 := IntWalk.i64_in _ (by omega)
      have hw2 : IntKind.i64.wrap ((k : Int) - 1 + (n : Int)) = (k : Int) - 1 + (n : Int) := IntWalk.i64_in _ (by omega)
      have ht : Int.tmod ((k : Int) - 1 + (n : Int)) (n : Int) = (y : Int) := by
        rw [show ((k : Int) - 1 + (n : Int)) = ((k + n - 1 : Nat) : Int) from by omega, Int.tmod_eq_emod_of_nonneg (by omega)]
        rw [← hy]; omega
      rw [hy] at hbk hsp I2
      have hw3 : IntKind.i64.wrap (y : Int) = (y : Int) := IntWalk.i64_in _ (by omega)
      obtain ⟨t1, ht1⟩ : ∃ t, S k = t := ⟨_, rfl⟩
      obtain ⟨t2, ht2⟩ : ∃ t, S y = t := ⟨_, rfl⟩
      rw [ht1] at hsp I1
      rw [ht2] at hsp I2
      obtain ⟨st, hst⟩ : ∃ s, G k = s := ⟨_, rfl⟩
      rw [hst] at hsp
      have hsn := HSN.out k
      have hsk := HSK.out k
      rw [hst] at hsn hsk
      replace hsn := Lib.hid hsn
      replace hsk := Lib.hid hsk
      have HSP := Lib.hid hsp
      have H1 := Lib.hid I1
      have H2 := Lib.hid I2
      clear hy hst ht2 hsp I1 I2
      have HT1 := Lib.hid ht1
      clear ht1
      go_upto_region 8 with fail
      go_cut [50] (fun v wx => v = .bool (!st) ∧ Hid (OwnArr wx w.heap.size 28 [.int .i64 n, .bool false, .slice p m cap]) ∧ Hid (OutP (w.heap.size + 1) wx u3 (PP (tk k G))) ∧ Hid (Below w.heap.size w wx))
      case first =>
        cases t1 with
        | true =>
          have hst : st = false := by have := HSP.out; simpa using this
          subst hst
          go_wp2_with fail
          refine (H1.out _ HB.out).mono ?_
          rintro e w2 ⟨rfl, hb2⟩
          have HX2 := Lib.hid (HX.out.below hb2 HX.out.lt)
          have HO2 := Lib.hid (HO.out.below hb2)
          have HB2 := Lib.hid (HB.out.trans (hb2.mono HB.out.size))
          clear hb2
          go_wp2_with fail
          go_meet
          exact ⟨rfl, HX2, HO2, HB2⟩
        | false =>
          go_wp2_with fail
          refine (H1.out _ HB.out).mono ?_
          rintro e w2 ⟨rfl, hb2⟩
          have HX2 := Lib.hid (HX.out.below hb2 HX.out.lt)
          have HO2 := Lib.hid (HO.out.below hb2)
          have HB2 := Lib.hid (HB.out.trans (hb2.mono HB.out.size))
          clear hb2 c0 c1 c2
          obtain ⟨c0, c1, c2, -⟩ := HX2.out.three
          go_wp2_with fail
          refine (H2.out _ HB2.out).mono ?_
          rintro e w3 ⟨rfl, hb3⟩
          have HX3 := Lib.hid (HX2.out.below hb3 HX2.out.lt)
          have HO3 := Lib.hid (HO2.out.below hb3)
          have HB3 := Lib.hid (HB2.out.trans (hb3.mono HB2.out.size))
          clear hb3 c0 c1 c2
          obtain ⟨c0, c1, c2, -⟩ := HX3.out.three
          cases t2 with
          | true =>
            have hst : st = true := by have := HSP.out; simpa using this
            subst hst
            go_wp2_with fail
            go_meet
            exact ⟨rfl, HX3, HO3, HB3⟩
          | false =>
            by_cases hk0 : 0 < k
            · have hst : st = false := by have := HSP.out; simp [hk0] at this; exact this
              have hki : (0 : Int) < (k : Int) := by omega
              subst hst
              go_wp2_with fail
              go_meet
              exact ⟨rfl, HX3, HO3, HB3⟩
            · have hst : st = true := by have := HSP.out; simp [hk0] at this; exact this
              have hki : ¬ (0 : Int) < (k : Int) := by omega
              subst hst
              go_wp2_with fail
              go_meet
              exact ⟨rfl, HX3, HO3, HB3⟩
      case rest =>
        obtain ⟨rfl, HX2, HO2, HB2⟩ := hcut
        clear HX HO HB H1 H2 c0 c1 c2
        obtain ⟨c0, c1, c2, -⟩ := HX2.out.three
        cases st with
        | false =>
          have ho := HO2.out
          rw [← hsk.out (by first | trivial | rfl)] at ho
          replace ho := Lib.hid ho
          clear HO2
          go_wp2_with fail
          go_roundw
          case rel => exact ⟨k + 1, by omega, by go_num, HX2, ho, HB2⟩
          case measure => simp [intOf]; omega
        | true =>
          have HSN2 := Lib.hid (hsn.out (by first | trivial | rfl))
          have HRVk := Lib.hid (HRV.out k hlt trivial)
          go_wp2_with fail
          go_loopw [6] (fun mv wr => ∃ (j : Nat), j ≤ n - k ∧ mv = .int .i64 j ∧ Hid (∀ i, i < j → S ((k + i) % n) = false) ∧ Hid (OwnArr wr w.heap.size 28 [.int .i64 n, .bool false, .slice p m cap]) ∧ Hid (OutP (w.heap.size + 1) wr u3 (PP (tk k G))) ∧ Hid (Below w.heap.size w wr)) (fun mv _ => n - (intOf mv).toNat)
          case atStart => exact ⟨0, Nat.zero_le _, rfl, (by show ∀ _, _; intro i h; omega), HX2, HO2, HB2⟩
          case round =>
            obtain ⟨j, hj, rfl, HF, HX, HO, HB⟩ := hrel
            clear HX2 HO2 HB2 c0 c1 c2
            obtain ⟨c0, c1, c2, -⟩ := HX.out.three
            have hxm : (k + j) % n < n := Nat.mod_lt _ (by omega)
            have I := IS.out _ hxm wr.drew HB.out.drew
            have hrv := HRVk.out j HF.out hj
            have hFk : S ((k + j) % n) = false → ∀ i, i < j + 1 → S ((k + i) % n) = false := by
              intro h i hi
              rcases Nat.lt_or_ge i j with h' | h'
              · exact HF.out i h'
              · have : i = j := by omega
                subst this; exact h
            obtain ⟨x, hx⟩ : ∃ x, (k + j) % n = x := ⟨_, rfl⟩
            have hw1' : IntKind.i64.wrap ((k : Int) + (j : Int)) = (k : Int) + (j : Int) := IntWalk.i64_in _ (by omega)
            have ht' : Int.tmod ((k : Int) + (j : Int)) (n : Int) = (x : Int) := by
              rw [show ((k : Int) + (j : Int)) = ((k + j : Nat) : Int) from by omega, Int.tmod_eq_emod_of_nonneg (by omega)]
              rw [← hx]; omega
            rw [hx] at I hxm hrv hFk
            have hw3' : IntKind.i64.wrap (x : Int) = (x : Int) := IntWalk.i64_in _ (by omega)
            obtain ⟨t, ht2⟩ : ∃ t, S x = t := ⟨_, rfl⟩
            rw [ht2] at I hrv hFk
            replace hrv := Lib.hid hrv
            replace hFk := Lib.hid hFk
            have HI := Lib.hid I
            have HBd := Lib.hid HB.out.drew
            have HXd : Hid (OwnArr wr.drew w.heap.size 28 [.int .i64 n, .bool false, .slice p m cap]) := HX.out
            have HOd : Hid (OutP (w.heap.size + 1) wr.drew u3 (PP (tk k G))) := HO.out
            clear I hx ht2 HX HO HB
            go_upto_region 10 with fail
            go_cut [71] (fun v wx => v = .bool (!t && decide (k + j < n)) ∧ Hid (OwnArr wx w.heap.size 28 [.int .i64 n, .bool false, .slice p m cap]) ∧ Hid (OutP (w.heap.size + 1) wx u3 (PP (tk k G))) ∧ Hid (Below w.heap.size w wx))
            case first =>
              cases t with
              | true =>
                refine wp_region_any (by kernel_rfl) ?_
                change wpAny _ _ _ _ _ _ _ (World.drew _)
                refine take_d (i := 1) (d := some 52) (v := .int .i64 (k : Int)) rfl rfl (by kernel_rfl) (by kernel_rfl) (by kernel_rfl) (fun _ _ _ h => h) (by kernel_rfl) (by intro w; go_simp; try (with_reducible rfl)) ?_
                simp only [Act.put, List.setIfInBounds_toArray, List.set_cons_zero, List.set_cons_succ]
                refine take_d (i := 2) (d := some 53) (v := .int .i64 (j : Int)) rfl rfl (by kernel_rfl) (by kernel_rfl) (by kernel_rfl) (fun _ _ _ h => h) (by kernel_rfl) (by intro w; go_simp; try (with_reducible rfl)) ?_
                simp only [Act.put, List.setIfInBounds_toArray, List.set_cons_zero, List.set_cons_succ]
                refine take_d (i := 3) (d := some 54) (v := .int .i64 ((k : Int) + (j : Int))) rfl rfl (by kernel_rfl) (by kernel_rfl) (by kernel_rfl) (fun _ _ _ h => h) (by kernel_rfl) (by intro w; go_simp; try (with_reducible rfl)) ?_
                simp only [Act.put, List.setIfInBounds_toArray, List.set_cons_zero, List.set_cons_succ]
                refine take_d (i := 4) (d := some 55) (v := .pointer (some ⟨w.heap.size, 0, none⟩)) rfl rfl (by kernel_rfl) (by kernel_rfl) (by kernel_rfl) (fun _ _ _ h => h) (by kernel_rfl) (by intro w; go_simp; try (with_reducible rfl)) ?_
                simp only [Act.put, List.setIfInBounds_toArray, List.set_cons_zero, List.set_cons_succ]
                refine wpAny_ready (rs := [0, 5]) (by kernel_rfl) (by simp) ?_
                refine AllReady.cons rfl (fun K hK => ?first) (AllReady.cons rfl (fun K hK => ?second) AllReady.nil)
                case first =>
                  go_simp
                  refine hK _ _ ?_
                  clear hK K
                  try simp only [Act.put, List.setIfInBounds_toArray, List.set_cons_zero, List.set_cons_succ]
                  refine wpAny_ready (rs := [5]) (by kernel_rfl) (by simp) ?_
                  refine AllReady.cons rfl (fun K hK => ?_) AllReady.nil
                  go_simp
                  refine hK _ _ ?_
                  clear hK K
                  try simp only [Act.put, List.setIfInBounds_toArray, List.set_cons_zero, List.set_cons_succ]
                  refine take_d (i := 6) (d := some 57) (v := .int .i64 (x : Int)) rfl rfl (by kernel_rfl) (by kernel_rfl) (by kernel_rfl) (fun _ _ _ h => h) (by kernel_rfl) (by intro w; go_simp; try (with_reducible rfl)) ?_
                  simp only [Act.put, List.setIfInBounds_toArray, List.set_cons_zero, List.set_cons_succ]
                  refine wpAny_ready (rs := [7]) (by kernel_rfl) (by simp) ?_
                  refine AllReady.cons rfl (fun K hK => ?_) AllReady.nil
                  go_simp
                  go_wp2_with (first | (go_at_call 58; refine HI.out.mono ?_; rintro e w5 ⟨rfl, hb5⟩; have HX5 := Lib.hid (HXd.out.below hb5 HXd.out.lt); have HB5 := Lib.hid (HBd.out.trans (hb5.mono HBd.out.size)); have HO5 := Lib.hid (HOd.out.below hb5); clear hb5; obtain ⟨d0, d1, d2, -⟩ := HX5.out.three))
                  refine take_d (i := 8) (d := some 59) (v := .bool false) rfl rfl (by kernel_rfl) (by kernel_rfl) (by kernel_rfl) (fun _ _ _ h => h) (by kernel_rfl) (by intro w; go_simp; try (with_reducible rfl)) ?_
                  simp only [Act.put, List.setIfInBounds_toArray, List.set_cons_zero, List.set_cons_succ]
                  refine take_d (i := 9) (d := some 60) (v := .bool false) rfl rfl (by kernel_rfl) (by kernel_rfl) (by kernel_rfl) (fun _ _ _ h => h) (by kernel_rfl) (by intro w; go_simp; try (with_reducible rfl)) ?_
                  simp only [Act.put, List.setIfInBounds_toArray, List.set_cons_zero, List.set_cons_succ]
                  refine skip_take (i := 10) (d := some 61) rfl rfl (by kernel_rfl) (by kernel_rfl) (by kernel_rfl) (fun _ _ _ h => h) (by kernel_rfl) ?_
                  simp only [Act.put, List.setIfInBounds_toArray, List.set_cons_zero, List.set_cons_succ]
                  refine skip_take (i := 11) (d := some 62) rfl rfl (by kernel_rfl) (by kernel_rfl) (by kernel_rfl) (fun _ _ _ h => h) (by kernel_rfl) ?_
                  simp only [Act.put, List.setIfInBounds_toArray, List.set_cons_zero, List.set_cons_succ]
                  refine skip_take (i := 12) (d := some 63) rfl rfl (by kernel_rfl) (by kernel_rfl) (by kernel_rfl) (fun _ _ _ h => h) (by kernel_rfl) ?_
                  simp only [Act.put, List.setIfInBounds_toArray, List.set_cons_zero, List.set_cons_succ]
                  refine skip_take (i := 13) (d := some 64) rfl rfl (by kernel_rfl) (by kernel_rfl) (by kernel_rfl) (fun _ _ _ h => h) (by kernel_rfl) ?_
                  simp only [Act.put, List.setIfInBounds_toArray, List.set_cons_zero, List.set_cons_succ]
                  refine skip_take (i := 14) (d := some 65) rfl rfl (by kernel_rfl) (by kernel_rfl) (by kernel_rfl) (fun _ _ _ h => h) (by kernel_rfl) ?_
                  simp only [Act.put, List.setIfInBounds_toArray, List.set_cons_zero, List.set_cons_succ]
                  refine skip_take (i := 15) (d := some 66) rfl rfl (by kernel_rfl) (by kernel_rfl) (by kernel_rfl) (fun _ _ _ h => h) (by kernel_rfl) ?_
                  simp only [Act.put, List.setIfInBounds_toArray, List.set_cons_zero, List.set_cons_succ]
                  refine skip_take (i := 16) (d := some 67) rfl rfl (by kernel_rfl) (by kernel_rfl) (by kernel_rfl) (fun _ _ _ h => h) (by kernel_rfl) ?_
                  simp only [Act.put, List.setIfInBounds_toArray, List.set_cons_zero, List.set_cons_succ]
                  refine skip_take (i := 17) (d := some 68) rfl rfl (by kernel_rfl) (by kernel_rfl) (by kernel_rfl) (fun _ _ _ h => h) (by kernel_rfl) ?_
                  simp only [Act.put, List.setIfInBounds_toArray, List.set_cons_zero, List.set_cons_succ]
                  refine skip_take (i := 18) (d := some 69) rfl rfl (by kernel_rfl) (by kernel_rfl) (by kernel_rfl) (fun _ _ _ h => h) (by kernel_rfl) ?_
                  simp only [Act.put, List.setIfInBounds_toArray, List.set_cons_zero, List.set_cons_succ]
                  refine skip_take (i := 19) (d := some 70) rfl rfl (by kernel_rfl) (by kernel_rfl) (by kernel_rfl) (fun _ _ _ h => h) (by kernel_rfl) ?_
                  simp only [Act.put, List.setIfInBounds_toArray, List.set_cons_zero, List.set_cons_succ]
                  refine take_d (i := 20) (d := some 71) (v := .bool false) rfl rfl (by kernel_rfl) (by kernel_rfl) (by kernel_rfl) (fun _ _ _ h => h) (by kernel_rfl) (by intro w; go_simp; try (with_reducible rfl)) ?_
                  simp only [Act.put, List.setIfInBounds_toArray, List.set_cons_zero, List.set_cons_succ]
                  refine wpAny_done (by kernel_rfl) ?_ _
                  go_wp2_with fail
                  go_meet
                  exact ⟨rfl, HX5, HO5, HB5⟩
                case second =>
                  go_simp
                  refine hK _ _ ?_
                  clear hK K
                  try simp only [Act.put, List.setIfInBounds_toArray, List.set_cons_zero, List.set_cons_succ]
                  refine take_d (i := 6) (d := some 57) (v := .int .i64 (x : Int)) rfl rfl (by kernel_rfl) (by kernel_rfl) (by kernel_rfl) (fun _ _ _ h => h) (by kernel_rfl) (by intro w; go_simp; try (with_reducible rfl)) ?_
                  simp only [Act.put, List.setIfInBounds_toArray, List.set_cons_zero, List.set_cons_succ]
                  refine wpAny_ready (rs := [0]) (by kernel_rfl) (by simp) ?_
                  refine AllReady.cons rfl (fun K hK => ?_) AllReady.nil
                  go_simp
                  refine hK _ _ ?_
                  clear hK K
                  try simp only [Act.put, List.setIfInBounds_toArray, List.set_cons_zero, List.set_cons_succ]
                  refine wpAny_ready (rs := [7]) (by kernel_rfl) (by simp) ?_
                  refine AllReady.cons rfl (fun K hK => ?_) AllReady.nil
                  go_simp
                  go_wp2_with (first | (go_at_call 58; refine HI.out.mono ?_; rintro e w5 ⟨rfl, hb5⟩; have HX5 := Lib.hid (HXd.out.below hb5 HXd.out.lt); have HB5 := Lib.hid (HBd.out.trans (hb5.mono HBd.out.size)); have HO5 := Lib.hid (HOd.out.below hb5); clear hb5; obtain ⟨d0, d1, d2, -⟩ := HX5.out.three))
                  refine take_d (i := 8) (d := some 59) (v := .bool false) rfl rfl (by kernel_rfl) (by kernel_rfl) (by kernel_rfl) (fun _ _ _ h => h) (by kernel_rfl) (by intro w; go_simp; try (with_reducible rfl)) ?_
                  simp only [Act.put, List.setIfInBounds_toArray, List.set_cons_zero, List.set_cons_succ]
                  refine take_d (i := 9) (d := some 60) (v := .bool false) rfl rfl (by kernel_rfl) (by kernel_rfl) (by kernel_rfl) (fun _ _ _ h => h) (by kernel_rfl) (by intro w; go_simp; try (with_reducible rfl)) ?_
                  simp only [Act.put, List.setIfInBounds_toArray, List.set_cons_zero, List.set_cons_succ]
                  refine skip_take (i := 10) (d := some 61) rfl rfl (by kernel_rfl) (by kernel_rfl) (by kernel_rfl) (fun _ _ _ h => h) (by kernel_rfl) ?_
                  simp only [Act.put, List.setIfInBounds_toArray, List.set_cons_zero, List.set_cons_succ]
                  refine skip_take (i := 11) (d := some 62) rfl rfl (by kernel_rfl) (by kernel_rfl) (by kernel_rfl) (fun _ _ _ h => h) (by kernel_rfl) ?_
                  simp only [Act.put, List.setIfInBounds_toArray, List.set_cons_zero, List.set_cons_succ]
                  refine skip_take (i := 12) (d := some 63) rfl rfl (by kernel_rfl) (by kernel_rfl) (by kernel_rfl) (fun _ _ _ h => h) (by kernel_rfl) ?_
                  simp only [Act.put, List.setIfInBounds_toArray, List.set_cons_zero, List.set_cons_succ]
                  refine skip_take (i := 13) (d := some 64) rfl rfl (by kernel_rfl) (by kernel_rfl) (by kernel_rfl) (fun _ _ _ h => h) (by kernel_rfl) ?_
                  simp only [Act.put, List.setIfInBounds_toArray, List.set_cons_zero, List.set_cons_succ]
                  refine skip_take (i := 14) (d := some 65) rfl rfl (by kernel_rfl) (by kernel_rfl) (by kernel_rfl) (fun _ _ _ h => h) (by kernel_rfl) ?_
                  simp only [Act.put, List.setIfInBounds_toArray, List.set_cons_zero, List.set_cons_succ]
                  refine skip_take (i := 15) (d := some 66) rfl rfl (by kernel_rfl) (by kernel_rfl) (by kernel_rfl) (fun _ _ _ h => h) (by kernel_rfl) ?_
                  simp only [Act.put, List.setIfInBounds_toArray, List.set_cons_zero, List.set_cons_succ]
                  refine skip_take (i := 16) (d := some 67) rfl rfl (by kernel_rfl) (by kernel_rfl) (by kernel_rfl) (fun _ _ _ h => h) (by kernel_rfl) ?_
                  simp only [Act.put, List.setIfInBounds_toArray, List.set_cons_zero, List.set_cons_succ]
                  refine skip_take (i := 17) (d := some 68) rfl rfl (by kernel_rfl) (by kernel_rfl) (by kernel_rfl) (fun _ _ _ h => h) (by kernel_rfl) ?_
                  simp only [Act.put, List.setIfInBounds_toArray, List.set_cons_zero, List.set_cons_succ]
                  refine skip_take (i := 18) (d := some 69) rfl rfl (by kernel_rfl) (by kernel_rfl) (by kernel_rfl) (fun _ _ _ h => h) (by kernel_rfl) ?_
                  simp only [Act.put, List.setIfInBounds_toArray, List.set_cons_zero, List.set_cons_succ]
                  refine skip_take (i := 19) (d := some 70) rfl rfl (by kernel_rfl) (by kernel_rfl) (by kernel_rfl) (fun _ _ _ h => h) (by kernel_rfl) ?_
                  simp only [Act.put, List.setIfInBounds_toArray, List.set_cons_zero, List.set_cons_succ]
                  refine take_d (i := 20) (d := some 71) (v := .bool false) rfl rfl (by kernel_rfl) (by kernel_rfl) (by kernel_rfl) (fun _ _ _ h => h) (by kernel_rfl) (by intro w; go_simp; try (with_reducible rfl)) ?_
                  simp only [Act.put, List.setIfInBounds_toArray, List.set_cons_zero, List.set_cons_succ]
                  refine wpAny_done (by kernel_rfl) ?_ _
                  go_wp2_with fail
                  go_meet
                  exact ⟨rfl, HX5, HO5, HB5⟩
              | false =>
                by_cases hkj : k + j < n
                · have hkji : (k : Int) + (j : Int) < (n : Int) := by omega
                  refine wp_region_any (by kernel_rfl) ?_
                  change wpAny _ _ _ _ _ _ _ (World.drew _)
                  refine take_d (i := 1) (d := some 52) (v := .int .i64 (k : Int)) rfl rfl (by kernel_rfl) (by kernel_rfl) (by kernel_rfl) (fun _ _ _ h => h) (by kernel_rfl) (by intro w; go_simp; try (with_reducible rfl)) ?_
                  simp only [Act.put, List.setIfInBounds_toArray, List.set_cons_zero, List.set_cons_succ]
                  refine take_d (i := 2) (d := some 53) (v := .int .i64 (j : Int)) rfl rfl (by kernel_rfl) (by kernel_rfl) (by kernel_rfl) (fun _ _ _ h => h) (by kernel_rfl) (by intro w; go_simp; try (with_reducible rfl)) ?_
                  simp only [Act.put, List.setIfInBounds_toArray, List.set_cons_zero, List.set_cons_succ]
                  refine take_d (i := 3) (d := some 54) (v := .int .i64 ((k : Int) + (j : Int))) rfl rfl (by kernel_rfl) (by kernel_rfl) (by kernel_rfl) (fun _ _ _ h => h) (by kernel_rfl) (by intro w; go_simp; try (with_reducible rfl)) ?_
                  simp only [Act.put, List.setIfInBounds_toArray, List.set_cons_zero, List.set_cons_succ]
                  refine take_d (i := 4) (d := some 55) (v := .pointer (some ⟨w.heap.size, 0, none⟩)) rfl rfl (by kernel_rfl) (by kernel_rfl) (by kernel_rfl) (fun _ _ _ h => h) (by kernel_rfl) (by intro w; go_simp; try (with_reducible rfl)) ?_
                  simp only [Act.put, List.setIfInBounds_toArray, List.set_cons_zero, List.set_cons_succ]
                  refine wpAny_ready (rs := [0, 5]) (by kernel_rfl) (by simp) ?_
                  refine AllReady.cons rfl (fun K hK => ?first) (AllReady.cons rfl (fun K hK => ?second) AllReady.nil)
                  case first =>
                    go_simp
                    refine hK _ _ ?_
                    clear hK K
                    try simp only [Act.put, List.setIfInBounds_toArray, List.set_cons_zero, List.set_cons_succ]
                    refine wpAny_ready (rs := [5]) (by kernel_rfl) (by simp) ?_
                    refine AllReady.cons rfl (fun K hK => ?_) AllReady.nil
                    go_simp
                    refine hK _ _ ?_
                    clear hK K
                    try simp only [Act.put, List.setIfInBounds_toArray, List.set_cons_zero, List.set_cons_succ]
                    refine take_d (i := 6) (d := some 57) (v := .int .i64 (x : Int)) rfl rfl (by kernel_rfl) (by kernel_rfl) (by kernel_rfl) (fun _ _ _ h => h) (by kernel_rfl) (by intro w; go_simp; try (with_reducible rfl)) ?_
                    simp only [Act.put, List.setIfInBounds_toArray, List.set_cons_zero, List.set_cons_succ]
                    refine wpAny_ready (rs := [7]) (by kernel_rfl) (by simp) ?_
                    refine AllReady.cons rfl (fun K hK => ?_) AllReady.nil
                    go_simp
                    go_wp2_with (first | (go_at_call 58; refine HI.out.mono ?_; rintro e w5 ⟨rfl, hb5⟩; have HX5 := Lib.hid (HXd.out.below hb5 HXd.out.lt); have HB5 := Lib.hid (HBd.out.trans (hb5.mono HBd.out.size)); have HO5 := Lib.hid (HOd.out.below hb5); clear hb5; obtain ⟨d0, d1, d2, -⟩ := HX5.out.three))
                    refine take_d (i := 8) (d := some 59) (v := .bool true) rfl rfl (by kernel_rfl) (by kernel_rfl) (by kernel_rfl) (fun _ _ _ h => h) (by kernel_rfl) (by intro w; go_simp; try (with_reducible rfl)) ?_
                    simp only [Act.put, List.setIfInBounds_toArray, List.set_cons_zero, List.set_cons_succ]
                    refine take_d (i := 9) (d := some 60) (v := .bool true) rfl rfl (by kernel_rfl) (by kernel_rfl) (by kernel_rfl) (fun _ _ _ h => h) (by kernel_rfl) (by intro w; go_simp; try (with_reducible rfl)) ?_
                    simp only [Act.put, List.setIfInBounds_toArray, List.set_cons_zero, List.set_cons_succ]
                    refine take_d (i := 10) (d := some 61) (v := .pointer (some ⟨w.heap.size, 1, none⟩)) rfl rfl (by kernel_rfl) (by kernel_rfl) (by kernel_rfl) (fun _ _ _ h => h) (by kernel_rfl) (by intro w; go_simp; try (with_reducible rfl)) ?_
                    simp only [Act.put, List.setIfInBounds_toArray, List.set_cons_zero, List.set_cons_succ]
                    refine wpAny_ready (rs := [11]) (by kernel_rfl) (by simp) ?_
                    refine AllReady.cons rfl (fun K hK => ?_) AllReady.nil
                    go_simp
                    refine hK _ _ ?_
                    clear hK K
                    try simp only [Act.put, List.setIfInBounds_toArray, List.set_cons_zero, List.set_cons_succ]
                    refine take_d (i := 12) (d := some 63) (v := .bool false) rfl rfl (by kernel_rfl) (by kernel_rfl) (by kernel_rfl) (fun _ _ _ h => h) (by kernel_rfl) (by intro w; go_simp; try (with_reducible rfl)) ?_
                    simp only [Act.put, List.setIfInBounds_toArray, List.set_cons_zero, List.set_cons_succ]
                    refine take_d (i := 13) (d := some 64) (v := .int .i64 (k : Int)) rfl rfl (by kernel_rfl) (by kernel_rfl) (by kernel_rfl) (fun _ _ _ h => h) (by kernel_rfl) (by intro w; go_simp; try (with_reducible rfl)) ?_
                    simp only [Act.put, List.setIfInBounds_toArray, List.set_cons_zero, List.set_cons_succ]
                    refine take_d (i := 14) (d := some 65) (v := .int .i64 (j : Int)) rfl rfl (by kernel_rfl) (by kernel_rfl) (by kernel_rfl) (fun _ _ _ h => h) (by kernel_rfl) (by intro w; go_simp; try (with_reducible rfl)) ?_
                    simp only [Act.put, List.setIfInBounds_toArray, List.set_cons_zero, List.set_cons_succ]
                    refine take_d (i := 15) (d := some 66) (v := .int .i64 ((k : Int) + (j : Int))) rfl rfl (by kernel_rfl) (by kernel_rfl) (by kernel_rfl) (fun _ _ _ h => h) (by kernel_rfl) (by intro w; go_simp; try (with_reducible rfl)) ?_
                    simp only [Act.put, List.setIfInBounds_toArray, List.set_cons_zero, List.set_cons_succ]
                    refine take_d (i := 16) (d := some 67) (v := .pointer (some ⟨w.heap.size, 0, none⟩)) rfl rfl (by kernel_rfl) (by kernel_rfl) (by kernel_rfl) (fun _ _ _ h => h) (by kernel_rfl) (by intro w; go_simp; try (with_reducible rfl)) ?_
                    simp only [Act.put, List.setIfInBounds_toArray, List.set_cons_zero, List.set_cons_succ]
                    refine wpAny_ready (rs := [17]) (by kernel_rfl) (by simp) ?_
                    refine AllReady.cons rfl (fun K hK => ?_) AllReady.nil
                    go_simp
                    refine hK _ _ ?_
                    clear hK K
                    try simp only [Act.put, List.setIfInBounds_toArray, List.set_cons_zero, List.set_cons_succ]
                    refine take_d (i := 18) (d := some 69) (v := .bool true) rfl rfl (by kernel_rfl) (by kernel_rfl) (by kernel_rfl) (fun _ _ _ h => h) (by kernel_rfl) (by intro w; go_simp; try (with_reducible rfl)) ?_
                    simp only [Act.put, List.setIfInBounds_toArray, List.set_cons_zero, List.set_cons_succ]
                    refine take_d (i := 19) (d := some 70) (v := .bool true) rfl rfl (by kernel_rfl) (by kernel_rfl) (by kernel_rfl) (fun _ _ _ h => h) (by kernel_rfl) (by intro w; go_simp; try (with_reducible rfl)) ?_
                    simp only [Act.put, List.setIfInBounds_toArray, List.set_cons_zero, List.set_cons_succ]
                    refine take_d (i := 20) (d := some 71) (v := .bool true) rfl rfl (by kernel_rfl) (by kernel_rfl) (by kernel_rfl) (fun _ _ _ h => h) (by kernel_rfl) (by intro w; go_simp; try (with_reducible rfl)) ?_
                    simp only [Act.put, List.setIfInBounds_toArray, List.set_cons_zero, List.set_cons_succ]
                    refine wpAny_done (by kernel_rfl) ?_ _
                    go_wp2_with fail
                    go_meet
                    exact ⟨by simp [hkj], HX5, HO5, HB5⟩
                  case second =>
                    go_simp
                    refine hK _ _ ?_
                    clear hK K
                    try simp only [Act.put, List.setIfInBounds_toArray, List.set_cons_zero, List.set_cons_succ]
                    refine take_d (i := 6) (d := some 57) (v := .int .i64 (x : Int)) rfl rfl (by kernel_rfl) (by kernel_rfl) (by kernel_rfl) (fun _ _ _ h => h) (by kernel_rfl) (by intro w; go_simp; try (with_reducible rfl)) ?_
                    simp only [Act.put, List.setIfInBounds_toArray, List.set_cons_zero, List.set_cons_succ]
                    refine wpAny_ready (rs := [0]) (by kernel_rfl) (by simp) ?_
                    refine AllReady.cons rfl (fun K hK => ?_) AllReady.nil
                    go_simp
                    refine hK _ _ ?_
                    clear hK K
                    try simp only [Act.put, List.setIfInBounds_toArray, List.set_cons_zero, List.set_cons_succ]
                    refine wpAny_ready (rs := [7]) (by kernel_rfl) (by simp) ?_
                    refine AllReady.cons rfl (fun K hK => ?_) AllReady.nil
                    go_simp
                    go_wp2_with (first | (go_at_call 58; refine HI.out.mono ?_; rintro e w5 ⟨rfl, hb5⟩; have HX5 := Lib.hid (HXd.out.below hb5 HXd.out.lt); have HB5 := Lib.hid (HBd.out.trans (hb5.mono HBd.out.size)); have HO5 := Lib.hid (HOd.out.below hb5); clear hb5; obtain ⟨d0, d1, d2, -⟩ := HX5.out.three))
                    refine take_d (i := 8) (d := some 59) (v := .bool true) rfl rfl (by kernel_rfl) (by kernel_rfl) (by kernel_rfl) (fun _ _ _ h => h) (by kernel_rfl) (by intro w; go_simp; try (with_reducible rfl)) ?_
                    simp only [Act.put, List.setIfInBounds_toArray, List.set_cons_zero, List.set_cons_succ]
                    refine take_d (i := 9) (d := some 60) (v := .bool true) rfl rfl (by kernel_rfl) (by kernel_rfl) (by kernel_rfl) (fun _ _ _ h => h) (by kernel_rfl) (by intro w; go_simp; try (with_reducible rfl)) ?_
                    simp only [Act.put, List.setIfInBounds_toArray, List.set_cons_zero, List.set_cons_succ]
                    refine take_d (i := 10) (d := some 61) (v := .pointer (some ⟨w.heap.size, 1, none⟩)) rfl rfl (by kernel_rfl) (by kernel_rfl) (by kernel_rfl) (fun _ _ _ h => h) (by kernel_rfl) (by intro w; go_simp; try (with_reducible rfl)) ?_
                    simp only [Act.put, List.setIfInBounds_toArray, List.set_cons_zero, List.set_cons_succ]
                    refine wpAny_ready (rs := [11]) (by kernel_rfl) (by simp) ?_
                    refine AllReady.cons rfl (fun K hK => ?_) AllReady.nil
                    go_simp
                    refine hK _ _ ?_
                    clear hK K
                    try simp only [Act.put, List.setIfInBounds_toArray, List.set_cons_zero, List.set_cons_succ]
                    refine take_d (i := 12) (d := some 63) (v := .bool false) rfl rfl (by kernel_rfl) (by kernel_rfl) (by kernel_rfl) (fun _ _ _ h => h) (by kernel_rfl) (by intro w; go_simp; try (with_reducible rfl)) ?_
                    simp only [Act.put, List.setIfInBounds_toArray, List.set_cons_zero, List.set_cons_succ]
                    refine take_d (i := 13) (d := some 64) (v := .int .i64 (k : Int)) rfl rfl (by kernel_rfl) (by kernel_rfl) (by kernel_rfl) (fun _ _ _ h => h) (by kernel_rfl) (by intro w; go_simp; try (with_reducible rfl)) ?_
                    simp only [Act.put, List.setIfInBounds_toArray, List.set_cons_zero, List.set_cons_succ]
                    refine take_d (i := 14) (d := some 65) (v := .int .i64 (j : Int)) rfl rfl (by kernel_rfl) (by kernel_rfl) (by kernel_rfl) (fun _ _ _ h => h) (by kernel_rfl) (by intro w; go_simp; try (with_reducible rfl)) ?_
                    simp only [Act.put, List.setIfInBounds_toArray, List.set_cons_zero, List.set_cons_succ]
                    refine take_d (i := 15) (d := some 66) (v := .int .i64 ((k : Int) + (j : Int))) rfl rfl (by kernel_rfl) (by kernel_rfl) (by kernel_rfl) (fun _ _ _ h => h) (by kernel_rfl) (by intro w; go_simp; try (with_reducible rfl)) ?_
                    simp only [Act.put, List.setIfInBounds_toArray, List.set_cons_zero, List.set_cons_succ]
                    refine take_d (i := 16) (d := some 67) (v := .pointer (some ⟨w.heap.size, 0, none⟩)) rfl rfl (by kernel_rfl) (by kernel_rfl) (by kernel_rfl) (fun _ _ _ h => h) (by kernel_rfl) (by intro w; go_simp; try (with_reducible rfl)) ?_
                    simp only [Act.put, List.setIfInBounds_toArray, List.set_cons_zero, List.set_cons_succ]
                    refine wpAny_ready (rs := [17]) (by kernel_rfl) (by simp) ?_
                    refine AllReady.cons rfl (fun K hK => ?_) AllReady.nil
                    go_simp
                    refine hK _ _ ?_
                    clear hK K
                    try simp only [Act.put, List.setIfInBounds_toArray, List.set_cons_zero, List.set_cons_succ]
                    refine take_d (i := 18) (d := some 69) (v := .bool true) rfl rfl (by kernel_rfl) (by kernel_rfl) (by kernel_rfl) (fun _ _ _ h => h) (by kernel_rfl) (by intro w; go_simp; try (with_reducible rfl)) ?_
                    simp only [Act.put, List.setIfInBounds_toArray, List.set_cons_zero, List.set_cons_succ]
                    refine take_d (i := 19) (d := some 70) (v := .bool true) rfl rfl (by kernel_rfl) (by kernel_rfl) (by kernel_rfl) (fun _ _ _ h => h) (by kernel_rfl) (by intro w; go_simp; try (with_reducible rfl)) ?_
                    simp only [Act.put, List.setIfInBounds_toArray, List.set_cons_zero, List.set_cons_succ]
                    refine take_d (i := 20) (d := some 71) (v := .bool true) rfl rfl (by kernel_rfl) (by kernel_rfl) (by kernel_rfl) (fun _ _ _ h => h) (by kernel_rfl) (by intro w; go_simp; try (with_reducible rfl)) ?_
                    simp only [Act.put, List.setIfInBounds_toArray, List.set_cons_zero, List.set_cons_succ]
                    refine wpAny_done (by kernel_rfl) ?_ _
                    go_wp2_with fail
                    go_meet
                    exact ⟨by simp [hkj], HX5, HO5, HB5⟩
                · have hkji : ¬ (k : Int) + (j : Int) < (n : Int) := by omega
                  refine wp_region_any (by kernel_rfl) ?_
                  change wpAny _ _ _ _ _ _ _ (World.drew _)
                  refine take_d (i := 1) (d := some 52) (v := .int .i64 (k : Int)) rfl rfl (by kernel_rfl) (by kernel_rfl) (by kernel_rfl) (fun _ _ _ h => h) (by kernel_rfl) (by intro w; go_simp; try (with_reducible rfl)) ?_
                  simp only [Act.put, List.setIfInBounds_toArray, List.set_cons_zero, List.set_cons_succ]
                  refine take_d (i := 2) (d := some 53) (v := .int .i64 (j : Int)) rfl rfl (by kernel_rfl) (by kernel_rfl) (by kernel_rfl) (fun _ _ _ h => h) (by kernel_rfl) (by intro w; go_simp; try (with_reducible rfl)) ?_
                  simp only [Act.put, List.setIfInBounds_toArray, List.set_cons_zero, List.set_cons_succ]
                  refine take_d (i := 3) (d := some 54) (v := .int .i64 ((k : Int) + (j : Int))) rfl rfl (by kernel_rfl) (by kernel_rfl) (by kernel_rfl) (fun _ _ _ h => h) (by kernel_rfl) (by intro w; go_simp; try (with_reducible rfl)) ?_
                  simp only [Act.put, List.setIfInBounds_toArray, List.set_cons_zero, List.set_cons_succ]
                  refine take_d (i := 4) (d := some 55) (v := .pointer (some ⟨w.heap.size, 0, none⟩)) rfl rfl (by kernel_rfl) (by kernel_rfl) (by kernel_rfl) (fun _ _ _ h => h) (by kernel_rfl) (by intro w; go_simp; try (with_reducible rfl)) ?_
                  simp only [Act.put, List.setIfInBounds_toArray, List.set_cons_zero, List.set_cons_succ]
                  refine wpAny_ready (rs := [0, 5]) (by kernel_rfl) (by simp) ?_
                  refine AllReady.cons rfl (fun K hK => ?first) (AllReady.cons rfl (fun K hK => ?second) AllReady.nil)
                  case first =>
                    go_simp
                    refine hK _ _ ?_
                    clear hK K
                    try simp only [Act.put, List.setIfInBounds_toArray, List.set_cons_zero, List.set_cons_succ]
                    refine wpAny_ready (rs := [5]) (by kernel_rfl) (by simp) ?_
                    refine AllReady.cons rfl (fun K hK => ?_) AllReady.nil
                    go_simp
                    refine hK _ _ ?_
                    clear hK K
                    try simp only [Act.put, List.setIfInBounds_toArray, List.set_cons_zero, List.set_cons_succ]
                    refine take_d (i := 6) (d := some 57) (v := .int .i64 (x : Int)) rfl rfl (by kernel_rfl) (by kernel_rfl) (by kernel_rfl) (fun _ _ _ h => h) (by kernel_rfl) (by intro w; go_simp; try (with_reducible rfl)) ?_
                    simp only [Act.put, List.setIfInBounds_toArray, List.set_cons_zero, List.set_cons_succ]
                    refine wpAny_ready (rs := [7]) (by kernel_rfl) (by simp) ?_
                    refine AllReady.cons rfl (fun K hK => ?_) AllReady.nil
                    go_simp
                    go_wp2_with (first | (go_at_call 58; refine HI.out.mono ?_; rintro e w5 ⟨rfl, hb5⟩; have HX5 := Lib.hid (HXd.out.below hb5 HXd.out.lt); have HB5 := Lib.hid (HBd.out.trans (hb5.mono HBd.out.size)); have HO5 := Lib.hid (HOd.out.below hb5); clear hb5; obtain ⟨d0, d1, d2, -⟩ := HX5.out.three))
                    refine take_d (i := 8) (d := some 59) (v := .bool true) rfl rfl (by kernel_rfl) (by kernel_rfl) (by kernel_rfl) (fun _ _ _ h => h) (by kernel_rfl) (by intro w; go_simp; try (with_reducible rfl)) ?_
                    simp only [Act.put, List.setIfInBounds_toArray, List.set_cons_zero, List.set_cons_succ]
                    refine take_d (i := 9) (d := some 60) (v := .bool true) rfl rfl (by kernel_rfl) (by kernel_rfl) (by kernel_rfl) (fun _ _ _ h => h) (by kernel_rfl) (by intro w; go_simp; try (with_reducible rfl)) ?_
                    simp only [Act.put, List.setIfInBounds_toArray, List.set_cons_zero, List.set_cons_succ]
                    refine take_d (i := 10) (d := some 61) (v := .pointer (some ⟨w.heap.size, 1, none⟩)) rfl rfl (by kernel_rfl) (by kernel_rfl) (by kernel_rfl) (fun _ _ _ h => h) (by kernel_rfl) (by intro w; go_simp; try (with_reducible rfl)) ?_
                    simp only [Act.put, List.setIfInBounds_toArray, List.set_cons_zero, List.set_cons_succ]
                    refine wpAny_ready (rs := [11]) (by kernel_rfl) (by simp) ?_
                    refine AllReady.cons rfl (fun K hK => ?_) AllReady.nil
                    go_simp
                    refine hK _ _ ?_
                    clear hK K
                    try simp only [Act.put, List.setIfInBounds_toArray, List.set_cons_zero, List.set_cons_succ]
                    refine take_d (i := 12) (d := some 63) (v := .bool false) rfl rfl (by kernel_rfl) (by kernel_rfl) (by kernel_rfl) (fun _ _ _ h => h) (by kernel_rfl) (by intro w; go_simp; try (with_reducible rfl)) ?_
                    simp only [Act.put, List.setIfInBounds_toArray, List.set_cons_zero, List.set_cons_succ]
                    refine take_d (i := 13) (d := some 64) (v := .int .i64 (k : Int)) rfl rfl (by kernel_rfl) (by kernel_rfl) (by kernel_rfl) (fun _ _ _ h => h) (by kernel_rfl) (by intro w; go_simp; try (with_reducible rfl)) ?_
                    simp only [Act.put, List.setIfInBounds_toArray, List.set_cons_zero, List.set_cons_succ]
                    refine take_d (i := 14) (d := some 65) (v := .int .i64 (j : Int)) rfl rfl (by kernel_rfl) (by kernel_rfl) (by kernel_rfl) (fun _ _ _ h => h) (by kernel_rfl) (by intro w; go_simp; try (with_reducible rfl)) ?_
                    simp only [Act.put, List.setIfInBounds_toArray, List.set_cons_zero, List.set_cons_succ]
                    refine take_d (i := 15) (d := some 66) (v := .int .i64 ((k : Int) + (j : Int))) rfl rfl (by kernel_rfl) (by kernel_rfl) (by kernel_rfl) (fun _ _ _ h => h) (by kernel_rfl) (by intro w; go_simp; try (with_reducible rfl)) ?_
                    simp only [Act.put, List.setIfInBounds_toArray, List.set_cons_zero, List.set_cons_succ]
                    refine take_d (i := 16) (d := some 67) (v := .pointer (some ⟨w.heap.size, 0, none⟩)) rfl rfl (by kernel_rfl) (by kernel_rfl) (by kernel_rfl) (fun _ _ _ h => h) (by kernel_rfl) (by intro w; go_simp; try (with_reducible rfl)) ?_
                    simp only [Act.put, List.setIfInBounds_toArray, List.set_cons_zero, List.set_cons_succ]
                    refine wpAny_ready (rs := [17]) (by kernel_rfl) (by simp) ?_
                    refine AllReady.cons rfl (fun K hK => ?_) AllReady.nil
                    go_simp
                    refine hK _ _ ?_
                    clear hK K
                    try simp only [Act.put, List.setIfInBounds_toArray, List.set_cons_zero, List.set_cons_succ]
                    refine take_d (i := 18) (d := some 69) (v := .bool false) rfl rfl (by kernel_rfl) (by kernel_rfl) (by kernel_rfl) (fun _ _ _ h => h) (by kernel_rfl) (by intro w; go_simp; try (with_reducible rfl)) ?_
                    simp only [Act.put, List.setIfInBounds_toArray, List.set_cons_zero, List.set_cons_succ]
                    refine take_d (i := 19) (d := some 70) (v := .bool false) rfl rfl (by kernel_rfl) (by kernel_rfl) (by kernel_rfl) (fun _ _ _ h => h) (by kernel_rfl) (by intro w; go_simp; try (with_reducible rfl)) ?_
                    simp only [Act.put, List.setIfInBounds_toArray, List.set_cons_zero, List.set_cons_succ]
                    refine take_d (i := 20) (d := some 71) (v := .bool false) rfl rfl (by kernel_rfl) (by kernel_rfl) (by kernel_rfl) (fun _ _ _ h => h) (by kernel_rfl) (by intro w; go_simp; try (with_reducible rfl)) ?_
                    simp only [Act.put, List.setIfInBounds_toArray, List.set_cons_zero, List.set_cons_succ]
                    refine wpAny_done (by kernel_rfl) ?_ _
                    go_wp2_with fail
                    go_meet
                    exact ⟨by simp [hkj], HX5, HO5, HB5⟩
                  case second =>
                    go_simp
                    refine hK _ _ ?_
                    clear hK K
                    try simp only [Act.put, List.setIfInBounds_toArray, List.set_cons_zero, List.set_cons_succ]
                    refine take_d (i := 6) (d := some 57) (v := .int .i64 (x : Int)) rfl rfl (by kernel_rfl) (by kernel_rfl) (by kernel_rfl) (fun _ _ _ h => h) (by kernel_rfl) (by intro w; go_simp; try (with_reducible rfl)) ?_
                    simp only [Act.put, List.setIfInBounds_toArray, List.set_cons_zero, List.set_cons_succ]
                    refine wpAny_ready (rs := [0]) (by kernel_rfl) (by simp) ?_
                    refine AllReady.cons rfl (fun K hK => ?_) AllReady.nil
                    go_simp
                    refine hK _ _ ?_
                    clear hK K
                    try simp only [Act.put, List.setIfInBounds_toArray, List.set_cons_zero, List.set_cons_succ]
                    refine wpAny_ready (rs := [7]) (by kernel_rfl) (by simp) ?_
                    refine AllReady.cons rfl (fun K hK => ?_) AllReady.nil
                    go_simp
                    go_wp2_with (first | (go_at_call 58; refine HI.out.mono ?_; rintro e w5 ⟨rfl, hb5⟩; have HX5 := Lib.hid (HXd.out.below hb5 HXd.out.lt); have HB5 := Lib.hid (HBd.out.trans (hb5.mono HBd.out.size)); have HO5 := Lib.hid (HOd.out.below hb5); clear hb5; obtain ⟨d0, d1, d2, -⟩ := HX5.out.three))
                    refine take_d (i := 8) (d := some 59) (v := .bool true) rfl rfl (by kernel_rfl) (by kernel_rfl) (by kernel_rfl) (fun _ _ _ h => h) (by kernel_rfl) (by intro w; go_simp; try (with_reducible rfl)) ?_
                    simp only [Act.put, List.setIfInBounds_toArray, List.set_cons_zero, List.set_cons_succ]
                    refine take_d (i := 9) (d := some 60) (v := .bool true) rfl rfl (by kernel_rfl) (by kernel_rfl) (by kernel_rfl) (fun _ _ _ h => h) (by kernel_rfl) (by intro w; go_simp; try (with_reducible rfl)) ?_
                    simp only [Act.put, List.setIfInBounds_toArray, List.set_cons_zero, List.set_cons_succ]
                    refine take_d (i := 10) (d := some 61) (v := .pointer (some ⟨w.heap.size, 1, none⟩)) rfl rfl (by kernel_rfl) (by kernel_rfl) (by kernel_rfl) (fun _ _ _ h => h) (by kernel_rfl) (by intro w; go_simp; try (with_reducible rfl)) ?_
                    simp only [Act.put, List.setIfInBounds_toArray, List.set_cons_zero, List.set_cons_succ]
                    refine wpAny_ready (rs := [11]) (by kernel_rfl) (by simp) ?_
                    refine AllReady.cons rfl (fun K hK => ?_) AllReady.nil
                    go_simp
                    refine hK _ _ ?_
                    clear hK K
                    try simp only [Act.put, List.setIfInBounds_toArray, List.set_cons_zero, List.set_cons_succ]
                    refine take_d (i := 12) (d := some 63) (v := .bool false) rfl rfl (by kernel_rfl) (by kernel_rfl) (by kernel_rfl) (fun _ _ _ h => h) (by kernel_rfl) (by intro w; go_simp; try (with_reducible rfl)) ?_
                    simp only [Act.put, List.setIfInBounds_toArray, List.set_cons_zero, List.set_cons_succ]
                    refine take_d (i := 13) (d := some 64) (v := .int .i64 (k : Int)) rfl rfl (by kernel_rfl) (by kernel_rfl) (by kernel_rfl) (fun _ _ _ h => h) (by kernel_rfl) (by intro w; go_simp; try (with_reducible rfl)) ?_
                    simp only [Act.put, List.setIfInBounds_toArray, List.set_cons_zero, List.set_cons_succ]
                    refine take_d (i := 14) (d := some 65) (v := .int .i64 (j : Int)) rfl rfl (by kernel_rfl) (by kernel_rfl) (by kernel_rfl) (fun _ _ _ h => h) (by kernel_rfl) (by intro w; go_simp; try (with_reducible rfl)) ?_
                    simp only [Act.put, List.setIfInBounds_toArray, List.set_cons_zero, List.set_cons_succ]
                    refine take_d (i := 15) (d := some 66) (v := .int .i64 ((k : Int) + (j : Int))) rfl rfl (by kernel_rfl) (by kernel_rfl) (by kernel_rfl) (fun _ _ _ h => h) (by kernel_rfl) (by intro w; go_simp; try (with_reducible rfl)) ?_
                    simp only [Act.put, List.setIfInBounds_toArray, List.set_cons_zero, List.set_cons_succ]
                    refine take_d (i := 16) (d := some 67) (v := .pointer (some ⟨w.heap.size, 0, none⟩)) rfl rfl (by kernel_rfl) (by kernel_rfl) (by kernel_rfl) (fun _ _ _ h => h) (by kernel_rfl) (by intro w; go_simp; try (with_reducible rfl)) ?_
                    simp only [Act.put, List.setIfInBounds_toArray, List.set_cons_zero, List.set_cons_succ]
                    refine wpAny_ready (rs := [17]) (by kernel_rfl) (by simp) ?_
                    refine AllReady.cons rfl (fun K hK => ?_) AllReady.nil
                    go_simp
                    refine hK _ _ ?_
                    clear hK K
                    try simp only [Act.put, List.setIfInBounds_toArray, List.set_cons_zero, List.set_cons_succ]
                    refine take_d (i := 18) (d := some 69) (v := .bool false) rfl rfl (by kernel_rfl) (by kernel_rfl) (by kernel_rfl) (fun _ _ _ h => h) (by kernel_rfl) (by intro w; go_simp; try (with_reducible rfl)) ?_
                    simp only [Act.put, List.setIfInBounds_toArray, List.set_cons_zero, List.set_cons_succ]
                    refine take_d (i := 19) (d := some 70) (v := .bool false) rfl rfl (by kernel_rfl) (by kernel_rfl) (by kernel_rfl) (fun _ _ _ h => h) (by kernel_rfl) (by intro w; go_simp; try (with_reducible rfl)) ?_
                    simp only [Act.put, List.setIfInBounds_toArray, List.set_cons_zero, List.set_cons_succ]
                    refine take_d (i := 20) (d := some 71) (v := .bool false) rfl rfl (by kernel_rfl) (by kernel_rfl) (by kernel_rfl) (fun _ _ _ h => h) (by kernel_rfl) (by intro w; go_simp; try (with_reducible rfl)) ?_
                    simp only [Act.put, List.setIfInBounds_toArray, List.set_cons_zero, List.set_cons_succ]
                    refine wpAny_done (by kernel_rfl) ?_ _
                    go_wp2_with fail
                    go_meet
                    exact ⟨by simp [hkj], HX5, HO5, HB5⟩
            case rest =>
              obtain ⟨rfl, HX5, HO5, HB5⟩ := hcut
              clear HI HBd HXd HOd c0 c1 c2
              obtain ⟨cc, hcc⟩ : ∃ cc, (!t && decide (k + j < n)) = cc := ⟨_, rfl⟩
              rw [hcc]
              obtain ⟨c0, c1, c2, -⟩ := HX5.out.three
              cases cc with
              | true =>
                obtain ⟨hjn, htf⟩ : j < n - k ∧ t = false := by
                  simp only [Bool.and_eq_true, Bool.not_eq_true', decide_eq_true_eq] at hcc
                  exact ⟨by omega, hcc.1⟩
                have HF2 := Lib.hid (hFk.out htf)
                clear hcc htf
                go_wp2_with fail
                go_roundw
                case rel => exact ⟨j + 1, by omega, by go_num, HF2, HX5, HO5, HB5⟩
                case measure => simp [intOf]; omega
              | false =>
                have hv : V k = j := by
                  refine hrv.out ?_
                  cases t with
                  | true => exact .inl rfl
                  | false =>
                    simp only [Bool.not_false, Bool.true_and, decide_eq_false_iff_not] at hcc
                    exact .inr (by omega)
                have HST := HSN2.out
                rw [hv] at HST
                replace HST := Lib.hid HST
                have HLk := Lib.hid (HLN.out k)
                have hne1 := Lib.hid (own_neP HO5.out HX5.out)
                have hblk := Lib.hid (own_block HO5.out)
                obtain ⟨n2, vs, hnl, hvs, hown⟩ := HO5.out.open'
                have hlk := HLk.out
                rw [hnl] at hlk
                have hsz2 := HX5.out.lt
                replace hnl := Lib.hid hnl
                replace hvs := Lib.hid hvs
                clear HLk hv hcc
                go_wp2_with (at_builtin; refine wpList_append_own _ rfl _ _ 35 rfl (w.heap.size + 1) 55 i0 (.agg #[.int .i64 0, .int .i64 0]) 2 16 Try.underlying35 hi hz0 hz1 hz2 rfl (by decide) _ _ _ rfl (hown.alloc _) ⟨wc.heap.size, 0, none⟩ 1 1 [.int .i64 (k : Int), .int .i64 (j : Int)] rfl rfl (cell_two_new _ _ _ _) (two_one _ _) (by unfold maxLen; omega) (by omega) (by simp; omega) ?_; intro v' w3 hown' hgrow3 hnil3)
                have hG : Below (w.heap.size + 1) wc w3 := ((Below.refl (w.heap.size + 1) wc).alloc (by omega) _).grown hgrow3 (by simp; omega) hblk.out
                have HX6 := Lib.hid (HX5.out.below hG (Nat.lt_succ_self _))
                have HB6 := Lib.hid (HB5.out.trans (hG.mono (Nat.le_succ _)))
                have HO6 : Hid (OutP (w.heap.size + 1) w3 v' (PP (tk (k + 1) G))) := by
                  show OutP _ _ _ _
                  rw [HST.out]; exact OutP.close hnl.out hvs.out hown'
                clear hown' hgrow3 hnil3 hown hG hne1 hblk hnl hvs HX5 HO5 HB5 HST hlk
                go_wp2_with fail
                go_roundw
                case rel => exact ⟨k + 1, by omega, by go_num, HX6, HO6, HB6⟩
                case measure => simp [intOf]; omega
    · have hkn : k = n := by omega
      subst hkn
      go_wp2_with fail
      go_ret
      exact ⟨_, rfl, HO.out.mono (Nat.le_succ _), HB.out⟩

end Go.Proofs.Ytbgmfjhcgfnfoaa
