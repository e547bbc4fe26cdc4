/- impl.BlocksOf, for every Row. -/
import Derived.Test.YtbgmfjhcgfnfoaaFill
import Derived.Test.YtbgmfjhcgfnfoaaLonI
import Derived.Test.YtbgmfjhcgfnfoaaRowOf
import Derived.Test.YtbgmfjhcgfnfoaaRunsI
namespace Go.Proofs.Ytbgmfjhcgfnfoaa
open Go.RowKit

set_option maxHeartbeats 800000 in
theorem blocksI_no (s : Int) (ring : Bool) (p : Option Addr) (cap : Nat) (xs : List Int) (w : World) (lo hi : Nat) (hin : Ri lo hi w p xs) (hlen : xs.length ≤ 1048576) (h : fillB s ring xs = false) :
    Calls Try.prog 24 #[rowV s ring p xs.length cap] w fun e w' => ∃ v, e = .returned (.tuple #[v, .bool false]) ∧ OutP w.heap.size w' v [] ∧ Below w.heap.size w w' := by
  have hb := box_below w s ring p xs.length cap 28
  have I := Lib.hid (canFill_any s ring p cap xs _ lo hi (hin.bel hb) hlen)
  rw [h] at I
  have HB := Lib.hid hb
  clear hb hin h
  go_enter Try.func24, Try.ntmps24
  go_wp2_with fail
  refine I.out.mono ?_
  rintro e w1 ⟨rfl, hb1⟩
  have HB1 := HB.out.trans (hb1.mono HB.out.size)
  clear I HB hb1
  go_wp2_with fail
  go_ret2
  exact ⟨_, rfl, (OutP.nilLit w1).mono HB1.size, HB1.alloc HB1.size _⟩

set_option maxRecDepth 4000 in
set_option maxHeartbeats 2000000 in
theorem blocksI_ok (n : Nat) (ring : Bool) (p : Option Addr) (cap : Nat) (S : Nat → Bool) (w : World) (lo hi : Nat) (hin : Ri lo hi w p (ints (tk n S))) (h2 : 2 ≤ n) (hn : n ≤ 12) (h3 : ring = true → 3 ≤ n) :
    Calls Try.prog 24 #[rowV n ring p (ints (tk n S)).length cap] w fun e w' => ∃ v, e = .returned (.tuple #[v, .bool true]) ∧ OutP w.heap.size w' v (prs (runsM n ring fun k => !lonM n ring S k)) ∧ Below w.heap.size w w' := by
  have hlen := ints_tk_len n S
  have hn24 : n ≤ 24 := by omega
  have hb := box_below w n ring p (ints (tk n S)).length cap 28
  have I := Lib.hid (canFill_any n ring p cap (ints (tk n S)) _ lo hi (hin.bel hb) (by omega))
  rw [fillB_of h2 hn h3] at I
  have IL := fun (k : Nat) (hk : k < n) (w' : World) (h' : Below w.heap.size w w') => isLonely_any n ring p cap S k w' lo hi (hin.below h' hin.top) h2 hn24 h3 hk
  have RO := Lib.hid (fun (M : Nat → Bool) (q : Option Addr) (w' : World) (l h' : Nat) (h : Rd l h' w' q (bv (bl n M))) => rowOf_any n ring q n M w' l h' h (by omega) true (rowB_of h2 hn24 h3))
  have RU := Lib.hid (fun (M : Nat → Bool) (q : Option Addr) (c : Nat) (w' : World) (l h' : Nat) (h : Ri l h' w' q (ints (tk n M))) => runsI_ok n ring q c M w' l h' h h2 hn24 h3)
  obtain ⟨M, hM⟩ : ∃ M : Nat → Bool, (fun k => !lonM n ring S k) = M := ⟨_, rfl⟩
  have HM : Hid (∀ k, M k = !lonM n ring S k) := by show ∀ _, _; intro k; rw [← hM]
  rw [hM]
  have HX := Lib.hid (OwnArr.made w 28 [.int .i64 n, .bool ring, .slice p (ints (tk n S)).length cap])
  obtain ⟨m, hm⟩ : ∃ m, (ints (tk n S)).length = m := ⟨_, rfl⟩
  rw [hm] at I IL HX hb ⊢
  replace IL := Lib.hid IL
  have HB := Lib.hid hb
  have hmk0 := @run_make_row' Try.prog 57 4 (.bool false) 1 Try.underlying57 infoBool rfl .i64 .i64 n (by omega) (by omega)
  rw [madeCells_one, ← filled_zero (fun i => .bool (M i)) (.bool false) n] at hmk0
  have HFL := Lib.hid (filled_bl n M)
  clear hb hin h3 hlen hM hm
  go_enter Try.func24, Try.ntmps24
  go_wp2_with fail
  refine I.out.mono ?_
  rintro e w1 ⟨rfl, hb1⟩
  have HX1 := Lib.hid (HX.out.below hb1 HX.out.lt)
  have HB1 := Lib.hid (HB.out.trans (hb1.mono HB.out.size))
  obtain ⟨c0, c1, c2, -⟩ := HX1.out.three
  clear I HB hb1 HX
  obtain ⟨w2, hw2⟩ : ∃ w2, w2 = w1.alloc (.cells (filled (fun i => .bool (M i)) (.bool false) n 0).toArray 4) := ⟨_, rfl⟩
  have hmk := hmk0 w1
  rw [← hw2] at hmk
  have HO2 : Hid (OwnArr w2 w1.heap.size 4 (filled (fun i => .bool (M i)) (.bool false) n 0)) := by show OwnArr _ _ _ _; rw [hw2]; exact OwnArr.made _ _ _
  have HB2 : Hid (Below w.heap.size w w2) := by show Below _ _ _; rw [hw2]; exact HB1.out.alloc HB1.out.size _
  have HX2 : Hid (OwnArr w2 w.heap.size 28 [.int .i64 n, .bool ring, .slice p m cap]) := by show OwnArr _ _ _ _; rw [hw2]; exact HX1.out.alloc _
  have hg : w.heap.size < w1.heap.size := HX1.out.lt
  clear hw2 hmk0 HX1 HB1
  go_wp2_with fail
  clear hmk c0 c1 c2
  go_loopw [5, 17] (fun _ i wr => ∃ (k : Nat), k ≤ n ∧ i = .int .i64 k ∧ Hid (OwnArr wr w.heap.size 28 [.int .i64 n, .bool ring, .slice p m cap]) ∧ Hid (OwnArr wr w1.heap.size 4 (filled (fun i => .bool (M i)) (.bool false) n k)) ∧ Hid (Below w.heap.size w wr)) (fun _ i _ => n - (intOf i).toNat)
  case atStart => exact ⟨0, Nat.zero_le _, rfl, HX2, HO2, HB2⟩
  case round =>
    obtain ⟨k, hk, rfl, HX, HO, HB⟩ := hrel
    clear HX2 HO2 HB2
    obtain ⟨c0, c1, c2, -⟩ := HX.out.three
    by_cases hlt : k < n
    · have hk1 : (k : Int) < (n : Int) := by omega
      have hMk := HM.out k
      have L := IL.out k hlt wr HB.out
      have HST := Lib.hid (filled_set (fun i => .bool (M i)) (.bool false) n k)
      obtain ⟨V, hV⟩ : ∃ V, lonM n ring S k = V := ⟨_, rfl⟩
      rw [hV] at L hMk
      replace L := Lib.hid L
      clear hV
      go_wp2_with fail
      refine L.out.mono ?_
      rintro e w3 ⟨rfl, hb3⟩
      have hO3 := HO.out.below hb3 HO.out.lt
      have hB3 := HB.out.trans (hb3.mono HB.out.size)
      have hX3 := HX.out.below hb3 HX.out.lt
      have hold := hO3.cell k
      rw [filled_get _ _ _ _ _ hlt] at hold
      have hfree := hO3.free k
      have hset := hO3.set k (.bool (!V))
      rw [← hMk] at hset
      have hset' := hset
      rw [HST.out] at hset'
      rw [hMk] at hset'
      have HO4 := Lib.hid hset'
      have HB4 := Lib.hid (hB3.setCell (p := ⟨w1.heap.size, k, none⟩) (Nat.le_of_lt hg) (.bool (!V)))
      have HX4 := Lib.hid (hX3.below ((Below.refl (w.heap.size + 1) w3).setCell (p := ⟨w1.heap.size, k, none⟩) hg (.bool (!V))) (Nat.lt_succ_self _))
      clear HO HB hb3 L HST hO3 hB3 hset hset' hX3 c0 c1 c2 hMk
      go_wp2_with fail
      go_roundw
      case rel => exact ⟨k + 1, by omega, by go_num, HX4, HO4, HB4⟩
      case measure => simp [intOf]; omega
    · have hkn : k = n := by omega
      subst hkn
      have hO := HO.out
      rw [HFL.out] at hO
      have HR := Rd.of_own hO (Nat.zero_le _) (Nat.lt_succ_self _) (by have := hO.lt; omega) k
      rw [List.take_of_length_le (by rw [bv_length, bl_length]; exact Nat.le_refl _)] at HR
      have RO2 := Lib.hid (RO.out M _ _ _ _ HR)
      clear HO hO HR RO IL HM HFL
      go_wp2_with fail
      refine RO2.out.mono ?_
      rintro e w5 ⟨v, rfl, hO5, hb5⟩
      have hO6 := hO5 trivial
      obtain ⟨q, qc, rfl, -, -, hR6, -⟩ := hO6.rd
      have HB5 := Lib.hid (HB.out.trans (hb5.mono HB.out.size))
      have HB6 := Lib.hid (HB5.out.alloc HB5.out.size (.cells #[.int .i64 k, .bool ring, .slice q (ints (tk k M)).length qc] 28))
      have HX6 := Lib.hid (OwnArr.made w5 28 [.int .i64 k, .bool ring, .slice q (ints (tk k M)).length qc])
      have RU2 := Lib.hid (RU.out M q qc _ _ _ (hR6.bel ((Below.refl _ _).alloc (Nat.le_refl _) (.cells #[.int .i64 k, .bool ring, .slice q (ints (tk k M)).length qc] 28))))
      obtain ⟨mm, hmm⟩ : ∃ mm, (ints (tk k M)).length = mm := ⟨_, rfl⟩
      rw [hmm] at HB6 HX6 RU2 ⊢
      clear hO5 hb5 HB c0 c1 c2 RO2 RU hR6 hO6 hmm HX
      obtain ⟨c0, c1, c2, -⟩ := HX6.out.three
      go_wp2_with fail
      refine RU2.out.mono ?_
      rintro e w7 ⟨v, rfl, hO7, hb7⟩
      have HO7 := Lib.hid (hO7.mono HB6.out.size)
      have HB7 := Lib.hid (HB6.out.trans (hb7.mono HB6.out.size))
      clear hO7 hb7 RU2 HB6 HX6 c0 c1 c2
      go_wp2_with fail
      go_ret2
      exact ⟨v, rfl, HO7.out, HB7.out⟩
end Go.Proofs.Ytbgmfjhcgfnfoaa
