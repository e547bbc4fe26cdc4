/- Chapter 5, spec side: spec.l5Who, TrailOf. -/
import Derived.Test.YtmjnjinjpleioaaTrlM5
import Derived.Test.YtmjnjinjpleioaaFre5
import Derived.Lib.SmallJoins
namespace Go.Proofs.Ytmjnjinjpleioaa
open Go.RowKit

set_option maxRecDepth 4000 in
set_option maxHeartbeats 1000000 in
theorem l5Who_any (p : Option Addr) (cap : Nat) (xs : List Int) (s : Nat) (w : World) (lo hi : Nat) (hin : Ri lo hi w p xs) (hm : (s : Int) ∈ xs) (hlen : xs.length ≤ 1048576) :
    Calls Try.prog 35 #[.slice p xs.length cap, .int .i64 (s : Nat)] w fun e w' => e = .returned (.int .i64 ((whoM xs s : Nat) : Int)) ∧ w = w' := by
  obtain ⟨h1, h2, h3⟩ := who_is hm
  obtain ⟨b, off, rfl, -, -, hbw, hc⟩ := hin.int (by omega)
  have HC := Lib.hid (fun (i : Nat) (hi' : i < xs.length) => hc i hi')
  obtain ⟨m, hmm⟩ : ∃ m, xs.length = m := ⟨_, rfl⟩
  rw [hmm] at HC h1 hlen ⊢
  obtain ⟨z, hz⟩ : ∃ z, whoM xs s = z := ⟨_, rfl⟩
  rw [hz] at h1 h2 h3 ⊢
  have H2 := Lib.hid h2
  have H3 := Lib.hid h3
  clear hin hm hc hmm hz h2 h3
  go_enter Try.func35, Try.ntmps35
  go_wp2_with fail
  go_loop [5] (fun i => ∃ j : Nat, j ≤ z ∧ i = .int .i64 j) (fun i => z - (intOf i).toNat)
  case atStart => exact ⟨0, Nat.zero_le _, rfl⟩
  case round =>
    obtain ⟨j, hj, rfl⟩ := hrel
    have hj0 : (0 : Int) ≤ (j : Int) := by omega
    have hj1 : (j : Int) < (m : Int) := by omega
    have h0 := HC.out j (by omega)
    obtain ⟨x, hx⟩ : ∃ x, xs[j]?.getD 0 = x := ⟨_, rfl⟩
    rw [hx] at h0
    by_cases hlt : j < z
    · have hne := H3.out j hlt
      rw [hx] at hne
      clear hx
      go_wp2_with fail
      go_round
      case rel => exact ⟨j + 1, by omega, by go_num⟩
      case measure => simp [intOf]; omega
    · have hjz : j = z := by omega
      subst hjz
      have he := H2.out
      rw [hx] at he
      subst he
      clear hx
      go_wp2_with fail
      go_ret
      exact ⟨rfl, rfl⟩
set_option maxRecDepth 4000 in
set_option maxHeartbeats 1600000 in
theorem trailS_bad (n k : Int) (p : Option Addr) (cap : Nat) (xs : List Int) (i : Int) (w : World) (lo hi : Nat) (hin : Ri lo hi w p xs) (hcap : xs.length ≤ cap) (hcm : cap ≤ maxLen) (hlen : xs.length ≤ 1048576) (h : askI n k xs i = false) :
    Calls Try.prog 17 #[.int .i64 n, .int .i64 k, .slice p xs.length cap, .int .i64 i] w fun e w' => ∃ v, e = .returned (.tuple #[v, .bool false]) ∧ Out w.heap.size w' v [] ∧ Below w.heap.size w w' := by
  have A := l5Ask_any n k p cap xs w lo hi hin hcap hcm hlen
  cases ha : askB n k xs with
  | false =>
    rw [ha] at A
    replace A := Lib.hid A
    obtain ⟨m, hm⟩ : ∃ m, xs.length = m := ⟨_, rfl⟩
    rw [hm] at A ⊢
    clear ha hm hin h
    go_enter Try.func17, Try.ntmps17
    go_wp2_with fail
    refine A.out.mono ?_
    rintro e w1 ⟨rfl, hb1⟩
    have HO := Lib.hid ((Out.nilLit w1).mono hb1.size)
    have HB := Lib.hid (hb1.alloc hb1.size (.cells #[] 3))
    clear A hb1
    go_wp2_with fail
    go_ret2
    exact ⟨_, rfl, HO.out, HB.out⟩
  | true =>
    obtain ⟨n, k, rfl, rfl, h1, h2, h3, hl, -⟩ := askB_is ha
    unfold askI at h
    rw [ha] at A h
    rw [Bool.true_and] at h
    have IN := Lib.hid (fun w' => l1In_any i 0 ((n : Int) - 1) w')
    rw [h] at IN
    have w1 : IntKind.i64.wrap ((n : Int) - 1) = (n : Int) - 1 := IntWalk.i64_in _ (by omega)
    replace A := Lib.hid A
    obtain ⟨m, hm⟩ : ∃ m, xs.length = m := ⟨_, rfl⟩
    rw [hm] at A ⊢
    clear ha hm hin h hl
    go_enter Try.func17, Try.ntmps17
    go_wp2_with fail
    refine A.out.mono ?_
    rintro e w2 ⟨rfl, hb1⟩
    have HO := Lib.hid ((Out.nilLit w2).mono hb1.size)
    have HB := Lib.hid (hb1.alloc hb1.size (.cells #[] 3))
    clear A hb1
    go_wp2_with fail
    refine (IN.out _).mono ?_
    rintro e w3 ⟨rfl, rfl⟩
    go_wp2_with fail
    go_ret2
    exact ⟨_, rfl, HO.out, HB.out⟩

/-- how many elements a slice value shows -/
def lenV : Value → Nat
  | .slice _ n _ => n
  | _ => 0

set_option maxRecDepth 4000 in
set_option maxHeartbeats 2000000 in
theorem trailS_any (n k : Nat) (p : Option Addr) (cap : Nat) (xs : List Int) (s : Nat) (w : World) (lo hi : Nat) (hin : Ri lo hi w p xs) (hcap : xs.length ≤ cap) (hcm : cap ≤ maxLen) (ha : askB n k xs = true) (hs : s < n) :
    Calls Try.prog 17 #[.int .i64 (n : Nat), .int .i64 (k : Nat), .slice p xs.length cap, .int .i64 (s : Nat)] w fun e w' => ∃ v, e = .returned (.tuple #[v, .bool true]) ∧ Out w.heap.size w' v (ints (trlM xs k n (whoM xs s))) ∧ Below w.heap.size w w' := by
  obtain ⟨i0, hi9, hz0, hz1, hz2⟩ := info_parts infoInt
  obtain ⟨a, b', e1, e2, h1, h2, h3, hl, hp⟩ := askB_is ha
  have e1' : n = a := by omega
  have e2' : k = b' := by omega
  subst e1' e2'
  have A := l5Ask_any (n : Int) (k : Int) p cap xs w lo hi hin hcap hcm (by omega)
  rw [ha] at A
  have IN := fun w' => l1In_any (s : Int) 0 ((n : Int) - 1) w'
  have hC : (decide (0 ≤ (s : Int)) && decide ((s : Int) ≤ (n : Int) - 1)) = true := by simp; omega
  rw [hC] at IN
  replace IN := Lib.hid IN
  have w1 : IntKind.i64.wrap ((n : Int) - 1) = (n : Int) - 1 := IntWalk.i64_in _ (by omega)
  have WH := Lib.hid (fun (x : Nat) (hx : x < n) (w' : World) (h' : Below w.heap.size w w') => l5Who_any p cap xs x w' lo hi (hin.below h' hin.top) (poss_all hp hl hx) (by omega))
  have HWL := Lib.hid (fun (x : Nat) (hx : x < n) => (who_is (poss_all hp hl hx)).1)
  have HBF := Lib.hid (fun (j : Nat) (hj : j < n) (hk : k ≤ j) (hne : ¬ xs[j]?.getD 0 = (j : Int)) => who_take (poss_before hp hl hj hk hne))
  obtain ⟨b, off, rfl, -, -, hbw, hc⟩ := hin.int (by omega)
  have HC := Lib.hid (fun (i : Nat) (hi' : i < n) (w' : World) (h' : Below w.heap.size w w') => (h'.cell (p := ⟨b, off + i, none⟩) hbw).trans (hc i (by omega)))
  have hfl := HWL.out s hs
  rw [hl] at A hfl
  have WHr := WH.out
  rw [hl] at WHr
  replace WH := Lib.hid WHr
  have HWL2 := HWL.out
  rw [hl] at HWL2
  replace HWL := Lib.hid HWL2
  rw [hl]
  obtain ⟨F, hF⟩ : ∃ F, trlM xs k n (whoM xs s) = F := ⟨_, rfl⟩
  have HF := Lib.hid hF
  rw [hF]
  have W0 := WH.out s hs
  obtain ⟨z, hz⟩ : ∃ z, whoM xs s = z := ⟨_, rfl⟩
  rw [hz] at HF W0 hfl
  replace W0 := Lib.hid W0
  replace A := Lib.hid A
  clear ha hin hC e1 e2 hc hp WHr HWL2 hF hz
  go_enter Try.func17, Try.ntmps17
  go_wp2_with fail
  refine A.out.mono ?_
  rintro e w2 ⟨rfl, hb1⟩
  have HB1 := Lib.hid hb1
  clear A hb1
  go_wp2_with fail
  refine (IN.out _).mono ?_
  rintro e w3 ⟨rfl, rfl⟩
  go_wp2_with fail
  refine (W0.out _ HB1.out).mono ?_
  rintro e w3 ⟨rfl, rfl⟩
  have HO0 : Hid (Out w.heap.size (w2.alloc (.cells #[.int .i64 (z : Int)] 3)) (.slice (some ⟨w2.heap.size, 0, none⟩) 1 1) (ints ([] ++ [z]))) := by
    show Out _ _ _ _
    exact Out.mono (xs := ints ([] ++ [z])) (own_lit [.int .i64 (z : Int)] 1 1 rfl (by unfold maxLen; omega)) HB1.out.size
  have HB0 := Lib.hid (HB1.out.alloc HB1.out.size (.cells #[.int .i64 (z : Int)] 3))
  clear IN HB1 W0
  go_wp2_with fail
  go_loopw [10, 11] (fun v _ wr => ∃ (acc : List Nat) (i f : Nat), i < n ∧ i ≤ f ∧ acc.length + i + 1 ≤ n ∧ (∃ g c, v = .slice (some ⟨g, 0, none⟩) (acc.length + 1) c) ∧ Hid (acc ++ trlM xs k f i = F) ∧ Hid (Out w.heap.size wr v (ints (acc ++ [i]))) ∧ Hid (Below w.heap.size w wr)) (fun v _ _ => 13 - lenV v)
  case atStart => exact ⟨[], z, n, hfl, by omega, by simp; omega, ⟨_, _, rfl⟩, HF, HO0, HB0⟩
  case round =>
    obtain ⟨acc, i, f, hin', hif, hal, ⟨g, c, rfl⟩, HA, HO, HB⟩ := hrel
    clear HO0 HB0 HF
    obtain ⟨m, hm⟩ : ∃ m, acc.length = m := ⟨_, rfl⟩
    rw [hm] at hal HO ⊢
    have hm0 : (0 : Int) ≤ (m : Int) := by omega
    have hm1 : (m : Int) < (m : Int) + 1 := by omega
    have hw0 : IntKind.i64.wrap ((m : Int) + 1 - 1) = (m : Int) := by rw [IntWalk.i64_in _ (by omega)]; omega
    have hl0 : wr.cell? ⟨g, m, none⟩ = some (.int .i64 (i : Int)) := by
      obtain ⟨p', c', e, -, -, hr, -⟩ := HO.out.rd
      simp only [Value.slice.injEq] at e
      obtain ⟨rfl, -⟩ := e
      obtain ⟨b1, o1, e1, -, -, -, hcc⟩ := hr.int (by rw [ints_length, List.length_append]; simp)
      simp only [Option.some.injEq, Addr.mk.injEq, and_true] at e1
      obtain ⟨rfl, rfl⟩ := e1
      have := hcc m (by rw [ints_length, List.length_append, hm]; simp)
      rw [Nat.zero_add, ints_get (by rw [List.length_append, hm]; simp), List.getElem?_append_right (by omega), hm] at this
      simpa using this
    have h0 := HC.out i hin' _ HB.out
    have hbf := HBF.out i hin'
    obtain ⟨x, hx⟩ : ∃ x, xs[i]?.getD 0 = x := ⟨_, rfl⟩
    rw [hx] at h0 hbf
    have hi0 : (0 : Int) ≤ (i : Int) := by omega
    have hi1 : (i : Int) < (n : Int) := by omega
    by_cases hik : i < k
    · have hik1 : (i : Int) < (k : Int) := by omega
      have hST : acc ++ [i] = F := by
        rw [← HA.out]
        cases f with
        | zero => rfl
        | succ f => unfold trlM; rw [if_pos (Or.inl hik)]
      clear hbf
      have hO := HO.out
      rw [hST] at hO
      have HO2 := Lib.hid hO
      clear hO HO hST hx
      go_wp2_with fail
      go_ret2
      exact ⟨_, rfl, HO2.out, HB.out⟩
    · have hik1 : ¬ (i : Int) < (k : Int) := by omega
      by_cases hxi : x = (i : Int)
      · have hST : acc ++ [i] = F := by
          rw [← HA.out]
          cases f with
          | zero => rfl
          | succ f => unfold trlM; rw [if_pos (Or.inr (by rw [hx]; exact hxi))]
        subst hxi
        clear hbf
        have hO := HO.out
        rw [hST] at hO
        have HO2 := Lib.hid hO
        clear hO HO hST hx
        go_wp2_with fail
        go_ret2
        exact ⟨_, rfl, HO2.out, HB.out⟩
      · have hwi := hbf (by omega) hxi
        have WI := Lib.hid (WH.out i hin' _ HB.out)
        have hwn := HWL.out i hin'
        have hF2 : (acc ++ [i]) ++ trlM xs k (f - 1) (whoM xs i) = F := by
          rw [← HA.out]
          cases f with
          | zero => omega
          | succ f =>
            have e : trlM xs k (f + 1) i = i :: trlM xs k f (whoM xs i) := by
              show (if _ then _ else _) = _
              rw [if_neg (by rintro (h | h); exact hik h; exact hxi (by rw [← hx]; exact h))]
            rw [e]; simp
        obtain ⟨z, hz⟩ : ∃ z, whoM xs i = z := ⟨_, rfl⟩
        have WI2 := WI.out
        rw [hz] at WI2 hwi hF2 hwn
        replace WI := Lib.hid WI2
        have HF2 := Lib.hid hF2
        have HL : Hid ((ints (acc ++ [i])).length = m + 1) := by show _ = _; rw [ints_length, List.length_append, hm]; rfl
        have HM := Lib.hid hm
        have hblk := Lib.hid (own_block HO.out)
        have hsz := HB.out.size
        clear WI2 hF2 hz hbf hx hm
        go_wp2_with fail
        refine WI.out.mono ?_
        rintro e w3 ⟨rfl, rfl⟩
        clear WI
        obtain ⟨l, vs, hl, hvs, hown⟩ := HO.out.open'
        have hlk := HL.out
        rw [hl] at hlk
        replace hl := Lib.hid hl
        replace hvs := Lib.hid hvs
        go_wp2_with (at_builtin; refine wpList_append_own _ rfl _ _ 22 rfl w.heap.size 3 i0 (.int .i64 0) 1 8 Try.underlying22 hi9 hz0 hz1 hz2 rfl (by decide) _ _ _ rfl (hown.alloc _) ⟨wr.heap.size, 0, none⟩ 1 1 [.int .i64 (z : Int)] rfl rfl (cell_one_new _ _ _) (fun x hx => by simp at hx; subst hx; rfl) (by unfold maxLen; omega) (by omega) (by simp; omega) ?_; intro v' w4 hown' hgrow4 hnil4; obtain ⟨g', cp', rfl⟩ := Go.Joins.ownsRow_form hown' (by omega))
        have hG : Below w.heap.size wr w4 := ((Below.refl w.heap.size wr).alloc hsz _).grown hgrow4 (by simp; omega) hblk.out
        have HB3 := Lib.hid (HB.out.trans hG)
        have HO3 : Hid (Out w.heap.size w4 (.slice (some ⟨g', 0, none⟩) (l + 1) cp') (ints ((acc ++ [i]) ++ [z]))) := by
          show Out _ _ _ _
          have e : ints ((acc ++ [i]) ++ [z]) = ints (acc ++ [i]) ++ [(z : Int)] := by simp [ints]
          rw [e]; exact Out.close hl.out hvs.out hown'
        have HO4 : Hid (Out w.heap.size w4 (.slice (some ⟨g', 0, none⟩) (m + 1 + 1) cp') (ints ((acc ++ [i]) ++ [z]))) := by rw [← hlk]; exact HO3
        clear hown' hgrow4 hnil4 hown hG HO3
        go_wp2
        go_roundw
        case rel => exact ⟨acc ++ [i], z, f - 1, hwn, by omega, by rw [List.length_append, HM.out]; simp; omega, ⟨g', cp', by rw [List.length_append, HM.out]; rfl⟩, HF2, HO4, HB3⟩
        case measure => simp [lenV]; omega
end Go.Proofs.Ytmjnjinjpleioaa
