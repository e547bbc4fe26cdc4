/- spec.PoliteSpread and impl.PoliteSpread, for every Row and all numbers of newcomers. -/
import Derived.Test.YtlfodeodfjjaeaaAftI
import Derived.Test.YtlfodeodfjjaeaaLeastF
namespace Go.Proofs.Ytlfodeodfjjaeaa
open Go.RowKit

theorem aft_len (n : Nat) (ring : Bool) : ∀ (k : Nat) (S : Nat → Bool), k + (tk n S).length ≤ n → (tk n (aftM n ring 0 k S)).length = (tk n S).length + k := by
  intro k
  induction k with
  | zero => intro S _; rfl
  | succ k ih =>
    intro S h
    have hml : ¬ (tk n S).length = n := by omega
    have hp : ¬ (polM n ring S 0).length = 0 := by rw [pol_same]; have := polS_free (ring := ring) hml; omega
    obtain ⟨h1, h2⟩ := headM_lt hp
    have h3 := tk_setS h1 h2
    rw [(ordM_step hp k).2, ih _ (by omega)]
    omega
theorem rowB_none : rowB 0 false [] = false := by
  cases h : rowB 0 false [] with
  | false => rfl
  | true => obtain ⟨n, S, e, -, h2, -, -⟩ := rowB_is h; omega

set_option maxHeartbeats 1000000 in
/-- whatever AfterPolite gives, LeastGap is asked -/
theorem spreadI_any (s : Int) (ring : Bool) (p : Option Addr) (m cap : Nat) (k : Int) (s' : Int) (ring' : Bool) (L : List Int) (B B' : Bool) (R : Int) (w : World)
    (hA : ∀ w', Below w.heap.size w w' → Calls Try.prog 46 #[rowV s ring p m cap, .int .i64 k] w' (MadeRow w' s' ring' L B'))
    (hG : ∀ (q : Option Addr) (c : Nat) (w' : World) (lo hi : Nat), Ri lo hi w' q L → L.length ≤ c → Calls Try.prog 47 #[rowV s' ring' q L.length c] w' fun e w'' => e = .returned (.tuple #[.int .i64 R, .bool B]) ∧ Below w'.heap.size w' w'') :
    Calls Try.prog 26 #[rowV s ring p m cap, .int .i64 k] w fun e w' => e = .returned (.tuple #[.int .i64 R, .bool B]) ∧ Below w.heap.size w w' := by
  have hb := box_below w s ring p m cap 26
  have A := Lib.hid (hA _ hb)
  have HB := Lib.hid hb
  have HG := Lib.hid hG
  clear hb hA hG
  go_enter Try.func26, Try.ntmps26
  go_wp2_with fail
  refine A.out.mono ?_
  rintro e w1 ⟨v, rfl, hO, hb1⟩
  obtain ⟨q, c, rfl, hlc, -, hR, -⟩ := hO.rd
  have HB1 := HB.out.trans (hb1.mono HB.out.size)
  have G := Lib.hid (HG.out q c (w1.alloc (.cells #[.int .i64 s', .bool ring', .slice q L.length c] 26)) _ _ (hR.bel ((Below.refl _ _).alloc (Nat.le_refl _) _)) hlc)
  have HB2 := Lib.hid (HB1.alloc HB1.size (.cells #[.int .i64 s', .bool ring', .slice q L.length c] 26))
  obtain ⟨l, hl⟩ : ∃ l, L.length = l := ⟨_, rfl⟩
  rw [hl] at G HB2 ⊢
  clear hO hb1 HB1 hR hlc A HG HB hl
  go_wp2_with fail
  refine G.out.mono ?_
  rintro e w2 ⟨rfl, hb2⟩
  go_wp2_with fail
  go_ret2
  exact ⟨rfl, HB2.out.trans (hb2.mono HB2.out.size)⟩

set_option maxHeartbeats 1000000 in
theorem spreadS_bad (s : Int) (ring : Bool) (p : Option Addr) (cap : Nat) (xs : List Int) (k : Int) (w : World) (lo hi : Nat) (hin : Ri lo hi w p xs) (hlen : xs.length ≤ 1048576) (h : askB s ring xs k = false) :
    Calls Try.prog 25 #[rowV s ring p xs.length cap, .int .i64 k] w fun e w' => e = .returned (.tuple #[.int .i64 0, .bool false]) ∧ Below w.heap.size w w' := by
  have hb := box_below w s ring p xs.length cap 26
  have AK := Lib.hid (ask_any s ring p cap xs k _ lo hi (hin.below hb hin.top) hlen)
  rw [h] at AK
  have HB := Lib.hid hb
  clear hb hin h
  go_enter Try.func25, Try.ntmps25
  go_wp2_with fail
  refine AK.out.mono ?_
  rintro e w1 ⟨rfl, hb1⟩
  have HB1 := Lib.hid (HB.out.trans (hb1.mono HB.out.size))
  clear HB hb1 AK
  go_wp2_with fail
  go_ret2
  exact ⟨rfl, HB1.out⟩

set_option maxHeartbeats 1000000 in
theorem spreadS_few (n : Nat) (ring : Bool) (p : Option Addr) (cap : Nat) (S : Nat → Bool) (k : Nat) (w : World) (lo hi : Nat) (hin : Ri lo hi w p (ints (tk n S))) (hn : n ≤ 24) (hask : askB n ring (ints (tk n S)) k = true) (hk : k + (tk n S).length < 2) :
    Calls Try.prog 25 #[rowV n ring p (ints (tk n S)).length cap, .int .i64 k] w fun e w' => e = .returned (.tuple #[.int .i64 0, .bool false]) ∧ Below w.heap.size w w' := by
  have hlen := ints_tk_len n S
  have hb := box_below w n ring p (ints (tk n S)).length cap 26
  have AK := Lib.hid (ask_any n ring p cap (ints (tk n S)) k _ lo hi (hin.below hb hin.top) (by omega))
  rw [hask] at AK
  have HX := Lib.hid (OwnArr.made w 26 [.int .i64 n, .bool ring, .slice p (ints (tk n S)).length cap])
  have HB := Lib.hid hb
  rw [← ints_length] at hk
  obtain ⟨m, hm⟩ : ∃ m, (ints (tk n S)).length = m := ⟨_, rfl⟩
  rw [hm] at AK HX HB hk ⊢
  have hw : IntKind.i64.wrap ((m : Int) + (k : Int)) = (m : Int) + (k : Int) := IntWalk.i64_in _ (by omega)
  have hI : (m : Int) + (k : Int) < 2 := by omega
  clear hb hin hask hlen hm hk
  go_enter Try.func25, Try.ntmps25
  go_wp2_with fail
  refine AK.out.mono ?_
  rintro e w1 ⟨rfl, hb1⟩
  have HX1 := Lib.hid (HX.out.below hb1 HX.out.lt)
  have HB1 := Lib.hid (HB.out.trans (hb1.mono HB.out.size))
  obtain ⟨c0, c1, c2, -⟩ := HX1.out.three
  clear HX HB hb1 AK
  go_wp2_with fail
  go_ret2
  exact ⟨rfl, HB1.out⟩

set_option maxHeartbeats 1000000 in
theorem spreadS_any (n : Nat) (ring : Bool) (p : Option Addr) (cap : Nat) (S : Nat → Bool) (k : Nat) (w : World) (lo hi : Nat) (hin : Ri lo hi w p (ints (tk n S))) (h2 : 2 ≤ n) (hn : n ≤ 24) (hask : askB n ring (ints (tk n S)) k = true) (hkn : k + (tk n S).length ≤ n) (hk : ¬ k + (tk n S).length < 2) :
    Calls Try.prog 25 #[rowV n ring p (ints (tk n S)).length cap, .int .i64 k] w fun e w' => e = .returned (.tuple #[.int .i64 (leastAll (gapM n ring) n (tk n (aftM n ring 0 k S)) (tk n (aftM n ring 0 k S)).length : Nat), .bool true]) ∧ Below w.heap.size w w' := by
  have hlen := ints_tk_len n S
  have hb := box_below w n ring p (ints (tk n S)).length cap 26
  have AK := Lib.hid (ask_any n ring p cap (ints (tk n S)) k _ lo hi (hin.below hb hin.top) (by omega))
  rw [hask] at AK
  have AF := Lib.hid (fun (w' : World) (h' : Below w.heap.size w w') => after_any n ring p cap S k w' lo hi (hin.below h' hin.top) h2 hn hkn)
  have LL := Lib.hid (fun (q : Option Addr) (c : Nat) (w' : World) (l h : Nat) (hq : Ri l h w' q (ints (tk n (aftM n ring 0 k S)))) => l3Least_any n ring q c (tk n (aftM n ring 0 k S)) w' l h hq (fun x hx => (mem_tk.1 hx).1) (by have := tk_length_le n (aftM n ring 0 k S); omega) hn)
  have HX := Lib.hid (OwnArr.made w 26 [.int .i64 n, .bool ring, .slice p (ints (tk n S)).length cap])
  have HB := Lib.hid hb
  rw [← ints_length] at hk
  obtain ⟨m, hm⟩ : ∃ m, (ints (tk n S)).length = m := ⟨_, rfl⟩
  rw [hm] at AK HX HB AF hk hlen ⊢
  have hw : IntKind.i64.wrap ((m : Int) + (k : Int)) = (m : Int) + (k : Int) := IntWalk.i64_in _ (by omega)
  have hI : ¬ (m : Int) + (k : Int) < 2 := by omega
  obtain ⟨T, hT⟩ : ∃ T, tk n (aftM n ring 0 k S) = T := ⟨_, rfl⟩
  rw [hT] at AF LL ⊢
  have HTL := Lib.hid (ints_length T)
  clear hb hin hask hlen hm hk hkn hT
  go_enter Try.func25, Try.ntmps25
  go_wp2_with fail
  refine AK.out.mono ?_
  rintro e w1 ⟨rfl, hb1⟩
  have HX1 := Lib.hid (HX.out.below hb1 HX.out.lt)
  have HB1 := Lib.hid (HB.out.trans (hb1.mono HB.out.size))
  obtain ⟨c0, c1, c2, -⟩ := HX1.out.three
  clear HX HB hb1 AK
  go_wp2_with fail
  refine (AF.out _ HB1.out).mono ?_
  rintro e w2 ⟨u, rfl, hO, hb2⟩
  obtain ⟨q, c, rfl, -, -, hR, -⟩ := hO.rd
  rw [HTL.out]
  have HB2 := Lib.hid (HB1.out.trans (hb2.mono HB1.out.size))
  have L2 := Lib.hid (LL.out q c w2 _ _ hR)
  clear hO hR hb2 HB1 AF LL HX1 c0 c1 c2
  go_wp2_with fail
  refine L2.out.mono ?_
  rintro e w3 ⟨rfl, hb3⟩
  go_wp2_with fail
  go_ret2
  exact ⟨rfl, HB2.out.trans (hb3.mono HB2.out.size)⟩

theorem politeSpread_both (s : Int) (ring : Bool) (xs : List Int) (a : Int) : ∃ (R : Int) (B : Bool),
    (∀ (p : Option Addr) (cap : Nat) (w : World) (lo hi : Nat), Ri lo hi w p xs → xs.length ≤ 1048576 → Calls Try.prog 25 #[rowV s ring p xs.length cap, .int .i64 a] w fun e w' => e = .returned (.tuple #[.int .i64 R, .bool B]) ∧ Below w.heap.size w w') ∧
    (∀ (p : Option Addr) (cap : Nat) (w : World) (lo hi : Nat), Ri lo hi w p xs → xs.length ≤ 1048576 → Calls Try.prog 26 #[rowV s ring p xs.length cap, .int .i64 a] w fun e w' => e = .returned (.tuple #[.int .i64 R, .bool B]) ∧ Below w.heap.size w w') := by
  cases h : askB s ring xs a with
  | true =>
    have h' := h
    unfold askB at h'
    simp only [Bool.and_eq_true, decide_eq_true_eq] at h'
    obtain ⟨n, S, rfl, rfl, h2, hn, h3⟩ := rowB_is h'.1
    obtain ⟨k, rfl⟩ : ∃ k : Nat, a = (k : Int) := ⟨a.toNat, by omega⟩
    have hk : k + (tk n S).length ≤ n := by have := h'.2.2; rw [ints_length] at this; omega
    have hal := aft_len n ring k S hk
    by_cases hf : k + (tk n S).length < 2
    · refine ⟨0, false, fun p cap w lo hi hin _ => spreadS_few n ring p cap S k w lo hi hin hn h hf, fun p cap w lo hi hin _ => ?_⟩
      refine spreadI_any n ring p _ cap k n ring (ints (tk n (aftM n ring 0 k S))) false true 0 w (fun w' h' => aftI_any n ring p cap S k w' lo hi (hin.below h' hin.top) h2 hn h3 hk) (fun q c w' l hh hq _ => ?_)
      refine leastI_bad n ring q c _ w' l hh hq (by have := ints_tk_len n (aftM n ring 0 k S); omega) ?_
      have : ¬ 2 ≤ (ints (tk n (aftM n ring 0 k S))).length := by rw [ints_length]; omega
      simp [this]
    · refine ⟨_, true, fun p cap w lo hi hin _ => spreadS_any n ring p cap S k w lo hi hin h2 hn h hk hf, fun p cap w lo hi hin _ => ?_⟩
      refine spreadI_any n ring p _ cap k n ring (ints (tk n (aftM n ring 0 k S))) true true _ w (fun w' h' => aftI_any n ring p cap S k w' lo hi (hin.below h' hin.top) h2 hn h3 hk) (fun q c w' l hh hq hc => ?_)
      exact leastI_any n ring q c _ w' l hh hq h2 hn h3 (by rw [ints_length]; omega) hc
  | false =>
    refine ⟨0, false, fun p cap w lo hi hin hl => spreadS_bad s ring p cap xs a w lo hi hin hl h, fun p cap w lo hi hin hl => ?_⟩
    refine spreadI_any s ring p _ cap a 0 false [] false false 0 w (fun w' h' => aftI_bad s ring p cap xs a w' lo hi (hin.below h' hin.top) hl h) (fun q c w' l hh hq _ => ?_)
    exact leastI_bad 0 false q c [] w' l hh hq (by simp) (by rw [rowB_none]; rfl)
end Go.Proofs.Ytlfodeodfjjaeaa
