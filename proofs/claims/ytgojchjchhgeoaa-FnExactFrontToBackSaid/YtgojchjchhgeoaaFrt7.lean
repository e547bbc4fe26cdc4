/- Chapter 7, spec side: spec.BackToFront, l7Front, FrontToBack. -/
import Derived.Test.YtgojchjchhgeoaaFrtM7
import Derived.Test.YtgojchjchhgeoaaIsRow
import Derived.Test.YtgojchjchhgeoaaOut
import Derived.Test.YtgojchjchhgeoaaApp
namespace Go.Proofs.Ytgojchjchhgeoaa
open Go.RowKit

theorem rowsIn_any (n : Int) (w : World) : Calls Try.prog 26 #[.int .i64 n, .int .i64 1, .int .i64 10] w fun e w' => e = .returned (.bool (rowsB n)) ∧ w = w' := l1In_any n 1 10 w

set_option maxRecDepth 4000 in
set_option maxHeartbeats 2000000 in
theorem backS_any (n : Int) (w : World) :
    Calls Try.prog 12 #[.int .i64 n] w fun e w' => ∃ v, e = .returned (.tuple #[v, .bool (rowsB n)]) ∧ Out w.heap.size w' v (if rowsB n then frM (backF n.toNat) n.toNat else []) ∧ Below w.heap.size w w' := by
  have IN := fun w' => rowsIn_any n w'
  have HO0 := Lib.hid (Out.nilLit w)
  have HB0 : Hid (Below w.heap.size w (w.alloc (.cells #[] 3))) := (Below.refl _ _).alloc (Nat.le_refl _) _
  cases hg : rowsB n with
  | false =>
    rw [hg] at IN
    replace IN := Lib.hid IN
    simp only [Bool.false_eq_true, if_false]
    clear hg
    go_enter Try.func12, Try.ntmps12
    go_wp2_with fail
    refine (IN.out _).mono ?_
    rintro e w1 ⟨rfl, rfl⟩
    go_wp2_with fail
    go_ret2
    exact ⟨_, rfl, HO0.out, HB0.out⟩
  | true =>
    rw [hg] at IN
    replace IN := Lib.hid IN
    obtain ⟨n, rfl, h1, h2⟩ := rowsB_is hg
    simp only [if_true, Int.toNat_natCast]
    obtain ⟨R, hR⟩ : ∃ R, frM (backF n) n = R := ⟨_, rfl⟩
    rw [hR]
    replace hR := Lib.hid hR
    clear hg
    go_enter Try.func12, Try.ntmps12
    go_wp2_with fail
    refine (IN.out _).mono ?_
    rintro e w1 ⟨rfl, rfl⟩
    go_wp2_with fail
    go_loopw [4, 5] (fun v i wr => ∃ (j : Nat), j ≤ n ∧ i = .int .i64 ((n : Int) - 1 - (j : Int)) ∧ Hid (Out w.heap.size wr v (frM (backF n) j)) ∧ Hid (Below w.heap.size w wr)) (fun _ i _ => ((intOf i) + 1).toNat)
    case atStart => exact ⟨0, Nat.zero_le _, by go_num, HO0, HB0⟩
    case round =>
      obtain ⟨j, hj, rfl, HO, HB⟩ := hrel
      clear HO0 HB0
      by_cases hlt : j < n
      · have hj1 : (0 : Int) ≤ (n : Int) - 1 - (j : Int) := by omega
        have HT : Hid (frM (backF n) (j + 1) = frM (backF n) j ++ [(n : Int) - 1 - (j : Int)]) := frM_succ _ _
        have hl := frM_len (backF n) j
        have hblk := Lib.hid (own_block HO.out)
        have hsz := HB.out.size
        go_wp2_with (at_builtin; refine wpList_app rfl _ _ rfl w.heap.size _ (frM (backF n) j) rfl (World.ownsRow.alloc HO.out (.cells #[.int .i64 ((n : Int) - 1 - (j : Int))] 3)) _ 1 1 0 (wr.heap.size + 1) [(n : Int) - 1 - (j : Int)] rfl (lit_one (OwnArr.made wr _ [_]) _ (Nat.lt_succ_self _) (by simp)) rfl (by omega) (by simp; omega) ?_; intro v3 w3 hO3 hg3 hn3)
        have hG3 : Below w.heap.size wr w3 := ((Below.refl w.heap.size wr).alloc (by omega) _).grown hg3 (by simp; omega) hblk.out
        have HB3 := Lib.hid (HB.out.trans hG3)
        rw [← HT.out] at hO3
        have HO3 := Lib.hid hO3
        clear hO3 hg3 hn3 hG3 HB HO
        go_wp2_with fail
        go_roundw
        case rel => exact ⟨j + 1, by omega, by go_num, HO3, HB3⟩
        case measure => simp [intOf]; omega
      · have hjn : j = n := by omega
        subst hjn
        have hr := hR.out
        subst hr
        have hj1 : ¬ (0 : Int) ≤ (j : Int) - 1 - (j : Int) := by omega
        go_wp2_with fail
        go_ret2
        exact ⟨_, rfl, HO.out, HB.out⟩

set_option maxRecDepth 4000 in
set_option maxHeartbeats 2000000 in
theorem l7Front_any (n : Nat) (hn : n ≤ 1000) (w : World) :
    Calls Try.prog 30 #[.int .i64 (n : Nat)] w fun e w' => ∃ v, e = .returned v ∧ Out w.heap.size w' v (frM frontF n) ∧ Below w.heap.size w w' := by
  have HO0 := Lib.hid (Out.nilLit w)
  have HB0 : Hid (Below w.heap.size w (w.alloc (.cells #[] 3))) := (Below.refl _ _).alloc (Nat.le_refl _) _
  obtain ⟨R, hR⟩ : ∃ R, frM frontF n = R := ⟨_, rfl⟩
  rw [hR]
  replace hR := Lib.hid hR
  go_enter Try.func30, Try.ntmps30
  go_wp2_with fail
  go_loopw [3, 4] (fun v i wr => ∃ (j : Nat), j ≤ n ∧ i = .int .i64 (j : Int) ∧ Hid (Out w.heap.size wr v (frM frontF j)) ∧ Hid (Below w.heap.size w wr)) (fun _ i _ => n - (intOf i).toNat)
  case atStart => exact ⟨0, Nat.zero_le _, rfl, HO0, HB0⟩
  case round =>
    obtain ⟨j, hj, rfl, HO, HB⟩ := hrel
    clear HO0 HB0
    by_cases hlt : j < n
    · have hj1 : (j : Int) < (n : Int) := by omega
      have HT : Hid (frM frontF (j + 1) = frM frontF j ++ [(j : Int)]) := frM_succ _ _
      have hl := frM_len frontF j
      have hblk := Lib.hid (own_block HO.out)
      have hsz := HB.out.size
      go_wp2_with (at_builtin; refine wpList_app rfl _ _ rfl w.heap.size _ (frM frontF j) rfl (World.ownsRow.alloc HO.out (.cells #[.int .i64 (j : Int)] 3)) _ 1 1 0 (wr.heap.size + 1) [(j : Int)] rfl (lit_one (OwnArr.made wr _ [_]) _ (Nat.lt_succ_self _) (by simp)) rfl (by omega) (by simp; omega) ?_; intro v3 w3 hO3 hg3 hn3)
      have hG3 : Below w.heap.size wr w3 := ((Below.refl w.heap.size wr).alloc (by omega) _).grown hg3 (by simp; omega) hblk.out
      have HB3 := Lib.hid (HB.out.trans hG3)
      rw [← HT.out] at hO3
      have HO3 := Lib.hid hO3
      clear hO3 hg3 hn3 hG3 HB HO
      go_wp2_with fail
      go_roundw
      case rel => exact ⟨j + 1, by omega, by go_num, HO3, HB3⟩
      case measure => simp [intOf]; omega
    · have hjn : j = n := by omega
      subst hjn
      have hr := hR.out
      subst hr
      have hj1 : ¬ (j : Int) < (j : Int) := by omega
      go_wp2_with fail
      go_ret
      exact ⟨_, rfl, HO.out, HB.out⟩

set_option maxRecDepth 4000 in
set_option maxHeartbeats 1000000 in
theorem frontS_any (n : Int) (w : World) :
    Calls Try.prog 16 #[.int .i64 n] w fun e w' => ∃ v, e = .returned (.tuple #[v, .bool (rowsB n)]) ∧ Out w.heap.size w' v (if rowsB n then frM frontF n.toNat else []) ∧ Below w.heap.size w w' := by
  have IN := fun w' => rowsIn_any n w'
  have HO0 := Lib.hid (Out.nilLit w)
  have HB0 : Hid (Below w.heap.size w (w.alloc (.cells #[] 3))) := (Below.refl _ _).alloc (Nat.le_refl _) _
  cases hg : rowsB n with
  | false =>
    rw [hg] at IN
    replace IN := Lib.hid IN
    simp only [Bool.false_eq_true, if_false]
    clear hg
    go_enter Try.func16, Try.ntmps16
    go_wp2_with fail
    refine (IN.out _).mono ?_
    rintro e w1 ⟨rfl, rfl⟩
    go_wp2_with fail
    go_ret2
    exact ⟨_, rfl, HO0.out, HB0.out⟩
  | true =>
    rw [hg] at IN
    replace IN := Lib.hid IN
    obtain ⟨n, rfl, h1, h2⟩ := rowsB_is hg
    simp only [if_true, Int.toNat_natCast]
    have F := Lib.hid (fun w' => l7Front_any n (by omega) w')
    clear hg HO0 HB0
    go_enter Try.func16, Try.ntmps16
    go_wp2_with fail
    refine (IN.out _).mono ?_
    rintro e w1 ⟨rfl, rfl⟩
    go_wp2_with fail
    refine (F.out _).mono ?_
    rintro e w2 ⟨v, rfl, hO, hb⟩
    go_wp2_with fail
    go_ret2
    exact ⟨_, rfl, hO, hb⟩
end Go.Proofs.Ytgojchjchhgeoaa
