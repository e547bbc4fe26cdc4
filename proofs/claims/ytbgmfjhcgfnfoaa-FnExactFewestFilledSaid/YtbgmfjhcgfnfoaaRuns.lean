/- spec.RunsOf and impl.RunsOf, for every Row. -/
import Derived.Test.YtbgmfjhcgfnfoaaRunsS
import Derived.Test.YtbgmfjhcgfnfoaaRunsI
namespace Go.Proofs.Ytbgmfjhcgfnfoaa
open Go.RowKit

theorem runsS_any (n : Nat) (ring : Bool) (p : Option Addr) (cap : Nat) (S : Nat → Bool) (w : World) (lo hi : Nat) (hin : Ri lo hi w p (ints (tk n S))) (h2 : 2 ≤ n) (hn : n ≤ 24) :
    Calls Try.prog 38 #[rowV n ring p (ints (tk n S)).length cap] w fun e w' => ∃ v, e = .returned v ∧ OutP w.heap.size w' v (prs (runsM n ring S)) ∧ Below w.heap.size w w' := by
  cases ring with
  | false => exact runsS_line n p cap S w lo hi hin h2 hn
  | true =>
    by_cases he : tk n S = []
    · have := runsS_bare n p cap S w h2 hn he
      rw [show (ints (tk n S)).length = 0 from by rw [he]; rfl]
      exact this
    · exact runsS_ring n p cap S w lo hi hin h2 hn he

set_option maxHeartbeats 800000 in
theorem runsOS_no (s : Int) (ring : Bool) (p : Option Addr) (cap : Nat) (xs : List Int) (w : World) (lo hi : Nat) (hin : Ri lo hi w p xs) (hlen : xs.length ≤ 1048576) (h : rowB s ring xs = false) :
    Calls Try.prog 18 #[rowV s ring p xs.length cap] w fun e w' => ∃ v, e = .returned (.tuple #[v, .bool false]) ∧ OutP w.heap.size w' v [] ∧ Below w.heap.size w w' := by
  have hb := box_below w s ring p xs.length cap 28
  have I := Lib.hid (l2Row_any s ring p cap xs _ lo hi (hin.bel hb) hlen)
  rw [h] at I
  have HB := Lib.hid hb
  clear hb hin h
  go_enter Try.func18, Try.ntmps18
  go_wp2_with fail
  refine I.out.mono ?_
  rintro e w1 ⟨rfl, hb1⟩
  have HB1 := HB.out.trans (hb1.mono HB.out.size)
  clear I HB hb1
  go_wp2_with fail
  go_ret2
  exact ⟨_, rfl, (OutP.nilLit w1).mono HB1.size, HB1.alloc HB1.size _⟩

set_option maxHeartbeats 800000 in
theorem runsOS_ok (n : Nat) (ring : Bool) (p : Option Addr) (cap : Nat) (S : Nat → Bool) (w : World) (lo hi : Nat) (hin : Ri lo hi w p (ints (tk n S))) (h2 : 2 ≤ n) (hn : n ≤ 24) (h3 : ring = true → 3 ≤ n) :
    Calls Try.prog 18 #[rowV n ring p (ints (tk n S)).length cap] w fun e w' => ∃ v, e = .returned (.tuple #[v, .bool true]) ∧ OutP w.heap.size w' v (prs (runsM n ring S)) ∧ Below w.heap.size w w' := by
  have hlen := ints_tk_len n S
  have hb := box_below w n ring p (ints (tk n S)).length cap 28
  have I := Lib.hid (l2Row_any n ring p cap (ints (tk n S)) _ lo hi (hin.bel hb) (by omega))
  rw [rowB_of h2 hn h3] at I
  have L := Lib.hid (fun (w' : World) (h' : Below w.heap.size w w') => runsS_any n ring p cap S w' lo hi (hin.below h' hin.top) h2 hn)
  have HX := Lib.hid (OwnArr.made w 28 [.int .i64 n, .bool ring, .slice p (ints (tk n S)).length cap])
  have HB := Lib.hid hb
  obtain ⟨m, hm⟩ : ∃ m, (ints (tk n S)).length = m := ⟨_, rfl⟩
  rw [hm] at I L HX HB ⊢
  clear hb hin hlen h3 hm
  go_enter Try.func18, Try.ntmps18
  go_wp2_with fail
  refine I.out.mono ?_
  rintro e w1 ⟨rfl, hb1⟩
  have HX1 := Lib.hid (HX.out.below hb1 HX.out.lt)
  have HB1 := Lib.hid (HB.out.trans (hb1.mono HB.out.size))
  clear I HB hb1 HX
  obtain ⟨c0, c1, c2, -⟩ := HX1.out.three
  go_wp2_with fail
  refine (L.out _ HB1.out).mono ?_
  rintro e w2 ⟨v, rfl, hO, hb2⟩
  have HO := Lib.hid (hO.mono HB1.out.size)
  have HB2 := Lib.hid (HB1.out.trans (hb2.mono HB1.out.size))
  clear hO hb2 L HX1 HB1 c0 c1 c2
  go_wp2_with fail
  go_ret2
  exact ⟨v, rfl, HO.out, HB2.out⟩

theorem runsOf_both (s : Int) (ring : Bool) (xs : List Int) : ∃ (L : List (Int × Int)) (B : Bool), L.length ≤ 24 ∧
    (∀ (p : Option Addr) (cap : Nat) (w : World) (lo hi : Nat), Ri lo hi w p xs → xs.length ≤ 1048576 → Calls Try.prog 18 #[rowV s ring p xs.length cap] w fun e w' => ∃ v, e = .returned (.tuple #[v, .bool B]) ∧ OutP w.heap.size w' v L ∧ Below w.heap.size w w') ∧
    (∀ (p : Option Addr) (cap : Nat) (w : World) (lo hi : Nat), Ri lo hi w p xs → xs.length ≤ 1048576 → Calls Try.prog 19 #[rowV s ring p xs.length cap] w fun e w' => ∃ v, e = .returned (.tuple #[v, .bool B]) ∧ OutP w.heap.size w' v L ∧ Below w.heap.size w w') := by
  cases h : rowB s ring xs with
  | true =>
    obtain ⟨n, S, rfl, rfl, h2, hn, h3⟩ := rowB_is h
    refine ⟨prs (runsM n ring S), true, ?_, fun p cap w lo hi hin _ => runsOS_ok n ring p cap S w lo hi hin h2 hn h3, fun p cap w lo hi hin _ => runsI_ok n ring p cap S w lo hi hin h2 hn h3⟩
    unfold prs runsM
    rw [List.length_map, List.length_map]
    have := tk_length_le n (startM n ring S)
    omega
  | false =>
    exact ⟨[], false, by simp, fun p cap w lo hi hin hl => runsOS_no s ring p cap xs w lo hi hin hl h, fun p cap w lo hi hin hl => runsI_no s ring p cap xs w lo hi hin hl h⟩
end Go.Proofs.Ytbgmfjhcgfnfoaa
