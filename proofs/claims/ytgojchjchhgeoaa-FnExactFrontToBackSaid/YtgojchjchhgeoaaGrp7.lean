/- Chapter 7, spec side: spec.GroupOrder. -/
import Derived.Test.YtgojchjchhgeoaaFrt7
import Derived.Test.YtgojchjchhgeoaaMst7
namespace Go.Proofs.Ytgojchjchhgeoaa
open Go.RowKit

def grpB (n g : Int) : Bool := rowsB n && (decide (1 ≤ g) && decide (g ≤ n))
/-- .. is told -/
def grpR (n g : Nat) : List Int := grpM g (n + 1) n
theorem grp_step {g f e : Nat} (he : 0 < e) : grpM g (f + 1) e = frM (fun i => ((e - g + i : Nat) : Int)) (e - (e - g)) ++ grpM g f (e - g) := by
  show (if e = 0 then [] else _) = _
  rw [if_neg (by omega)]

set_option maxRecDepth 4000 in
set_option maxHeartbeats 2000000 in
theorem grpS_bad (n g : Int) (w : World) (h : grpB n g = false) :
    Calls Try.prog 18 #[.int .i64 n, .int .i64 g] w fun e w' => ∃ v, e = .returned (.tuple #[v, .bool false]) ∧ Out w.heap.size w' v [] ∧ Below w.heap.size w w' := by
  have IN := fun w' => rowsIn_any n w'
  have IG := fun w' => l1In_any g 1 n w'
  have HO0 := Lib.hid (Out.nilLit w)
  have HB0 : Hid (Below w.heap.size w (w.alloc (.cells #[] 3))) := (Below.refl _ _).alloc (Nat.le_refl _) _
  unfold grpB at h
  cases hg : rowsB n with
  | false =>
    rw [hg] at IN
    replace IN := Lib.hid IN
    clear hg h IG
    go_enter Try.func18, Try.ntmps18
    go_wp2_with fail
    refine (IN.out _).mono ?_
    rintro e w1 ⟨rfl, rfl⟩
    go_wp2_with fail
    go_ret2
    exact ⟨_, rfl, HO0.out, HB0.out⟩
  | true =>
    rw [hg] at IN
    rw [hg, Bool.true_and] at h
    rw [h] at IG
    replace IN := Lib.hid IN
    replace IG := Lib.hid IG
    clear hg h
    go_enter Try.func18, Try.ntmps18
    go_wp2_with fail
    refine (IN.out _).mono ?_
    rintro e w1 ⟨rfl, rfl⟩
    go_wp2_with fail
    refine (IG.out _).mono ?_
    rintro e w1 ⟨rfl, rfl⟩
    go_wp2_with fail
    go_ret2
    exact ⟨_, rfl, HO0.out, HB0.out⟩

set_option maxRecDepth 4000 in
set_option maxHeartbeats 4000000 in
theorem grpS_any (n g : Nat) (w : World) (hn1 : 1 ≤ n) (hn : n ≤ 10) (hg1 : 1 ≤ g) (hg : g ≤ n) :
    Calls Try.prog 18 #[.int .i64 (n : Nat), .int .i64 (g : Nat)] w fun e w' => ∃ v, e = .returned (.tuple #[v, .bool true]) ∧ Out w.heap.size w' v (grpR n g) ∧ Below w.heap.size w w' := by
  have IN := fun w' => rowsIn_any n w'
  have IG := fun w' => l1In_any g 1 n w'
  have e1 : rowsB (n : Int) = true := by unfold rowsB; simp; omega
  have e2 : (decide (1 ≤ (g : Int)) && decide ((g : Int) ≤ (n : Int))) = true := by simp; omega
  rw [e1] at IN
  rw [e2] at IG
  replace IN := Lib.hid IN
  replace IG := Lib.hid IG
  have HO0 : Hid (Out w.heap.size (w.alloc (.cells #[] 3)) (.slice (some ⟨w.heap.size, 0, none⟩) 0 0) []) := Out.nilLit w
  have HB0 : Hid (Below w.heap.size w (w.alloc (.cells #[] 3))) := (Below.refl _ _).alloc (Nat.le_refl _) _
  obtain ⟨R, hR⟩ : ∃ R, grpR n g = R := ⟨_, rfl⟩
  have HR0 : Hid ([] ++ grpM g (n + 1) n = R) := hR
  rw [hR]
  clear hR e1 e2
  go_enter Try.func18, Try.ntmps18
  go_wp2_with fail
  refine (IN.out _).mono ?_
  rintro e w1 ⟨rfl, rfl⟩
  go_wp2_with fail
  refine (IG.out _).mono ?_
  rintro e w1 ⟨rfl, rfl⟩
  clear IN IG
  go_wp2_with fail
  go_loopw [6, 7] (fun v i wr => ∃ (z : Int) (f : Nat) (D : List Int), -10 ≤ z ∧ z ≤ n ∧ z < f ∧ 0 < f ∧ i = .int .i64 z ∧ D.length + z.toNat ≤ n ∧ Hid (D ++ grpM g f z.toNat = R) ∧ Hid (Out w.heap.size wr v D) ∧ Hid (Below w.heap.size w wr)) (fun _ i _ => (intOf i).toNat)
  case atStart => exact ⟨n, n + 1, [], by omega, Int.le_refl _, by omega, by omega, rfl, by simp, HR0, HO0, HB0⟩
  case round =>
    obtain ⟨z, f, D, hz, hzn, hzf, hf0, rfl, hDe, HR, HO, HB⟩ := hrel
    clear HO0 HB0 HR0
    by_cases h0 : 0 < z
    · obtain ⟨e, rfl⟩ : ∃ e : Nat, z = e := ⟨z.toNat, by omega⟩
      rw [Int.toNat_natCast] at hDe HR
      replace h0 : 0 < e := by omega
      have h1 : (0 : Int) < (e : Int) := by omega
      obtain ⟨f, rfl⟩ : ∃ f', f = f' + 1 := ⟨f - 1, by omega⟩
      obtain ⟨b, hb⟩ : ∃ b, e - g = b := ⟨_, rfl⟩
      have M := fun w' => l1Most_num 0 ((e : Int) - (g : Int)) w'
      rw [show (if ((e : Int) - (g : Int)) < 0 then (0 : Int) else (e : Int) - (g : Int)) = (b : Int) by split <;> omega] at M
      replace M := Lib.hid M
      have HR1 : Hid (D ++ frM (fun i => ((b + i : Nat) : Int)) (e - b) ++ grpM g f b = R) := by
        show _ = _
        have := HR.out
        rw [grp_step h0, hb] at this
        rw [List.append_assoc]; exact this
      have hbe : b < e := by omega
      have HO1 := HO.out
      rw [← List.append_nil D, show ([] : List Int) = frM (fun i => ((b + i : Nat) : Int)) 0 from rfl] at HO1
      replace HO1 := Lib.hid HO1
      have hb0 : (e : Int) - (g : Int) ≤ (b : Int) := by omega
      have HBB : Hid (b = e - g) := hb.symm
      clear hb HO HR
      go_wp2_with fail
      refine (M.out _).mono ?_
      rintro e3 w1 ⟨rfl, rfl⟩
      clear M
      go_wp2_with fail
      go_loopw [6, 8] (fun v i wr => ∃ (j : Nat), b + j ≤ e ∧ i = .int .i64 ((b : Int) + (j : Int)) ∧ Hid (Out w.heap.size wr v (D ++ frM (fun i => ((b + i : Nat) : Int)) j)) ∧ Hid (Below w.heap.size w wr)) (fun _ i _ => e - (intOf i).toNat)
      case atStart => exact ⟨0, by omega, by go_num, HO1, HB⟩
      case round =>
        obtain ⟨j, hj, rfl, HO, HB⟩ := hrel
        clear HO1
        by_cases hlt : b + j < e
        · have hj1 : (b : Int) + (j : Int) < (e : Int) := by omega
          have HT : Hid (D ++ frM (fun i => ((b + i : Nat) : Int)) (j + 1) = D ++ frM (fun i => ((b + i : Nat) : Int)) j ++ [(b : Int) + (j : Int)]) := by
            show _ = _
            rw [frM_succ, List.append_assoc]; rfl
          have hl : (D ++ frM (fun i => ((b + i : Nat) : Int)) j).length ≤ 20 := by rw [List.length_append, frM_len]; omega
          have hblk := Lib.hid (own_block HO.out)
          have hsz := HB.out.size
          go_wp2_with (at_builtin; refine wpList_app rfl _ _ rfl w.heap.size _ (D ++ frM (fun i => ((b + i : Nat) : Int)) j) rfl (World.ownsRow.alloc HO.out (.cells #[.int .i64 ((b : Int) + (j : Int))] 3)) _ 1 1 0 (wr.heap.size + 1) [(b : Int) + (j : Int)] rfl (lit_one (OwnArr.made wr _ [_]) _ (Nat.lt_succ_self _) (by simp)) rfl (by omega) (by simp; omega) ?_; intro v3 w3 hO3 hg3 hn3)
          have hG3 : Below w.heap.size wr w3 := ((Below.refl w.heap.size wr).alloc (by omega) _).grown hg3 (by simp; omega) hblk.out
          have HB3 := Lib.hid (HB.out.trans hG3)
          rw [← HT.out] at hO3
          have HO3 := Lib.hid hO3
          clear hO3 hg3 hn3 hG3 HB HO
          go_wp2_with fail
          go_roundw
          case rel => exact ⟨j + 1, by omega, by go_num, HO3, HB3⟩
          case measure => simp [intOf]; omega
        · have hje : j = e - b := by omega
          subst hje
          have hj1 : ¬ (b : Int) + ((e - b : Nat) : Int) < (e : Int) := by omega
          have hl : (D ++ frM (fun i => ((b + i : Nat) : Int)) (e - b)).length = D.length + (e - b) := by rw [List.length_append, frM_len]
          obtain ⟨D2, hD2⟩ : ∃ D2, D ++ frM (fun i => ((b + i : Nat) : Int)) (e - b) = D2 := ⟨_, rfl⟩
          rw [hD2] at HO HR1 hl
          have hbt : ((e : Int) - (g : Int)).toNat = b := by have := HBB.out; omega
          have HR2 : Hid (D2 ++ grpM g f ((e : Int) - (g : Int)).toNat = R) := by
            show _ = _
            rw [hbt]; exact HR1.out
          have hbl : D2.length + ((e : Int) - (g : Int)).toNat ≤ n := by rw [hbt]; omega
          clear hD2 hbt HR1
          go_wp2_with fail
          go_roundw
          case rel => exact ⟨(e : Int) - (g : Int), f, D2, by omega, by omega, by omega, by omega, by go_num, hbl, HR2, HO, HB⟩
          case measure => simp [intOf]; omega
    · have h1 : ¬ (0 : Int) < z := h0
      have hz0 : z.toNat = 0 := by omega
      obtain ⟨f, rfl⟩ : ∃ f', f = f' + 1 := ⟨f - 1, by omega⟩
      have hr : D = R := by
        have := HR.out
        rw [hz0, show grpM g (f + 1) 0 = [] from rfl, List.append_nil] at this
        exact this
      subst hr
      clear hz0
      go_wp2_with fail
      go_ret2
      exact ⟨_, rfl, HO.out, HB.out⟩
end Go.Proofs.Ytgojchjchhgeoaa
