/- spec.NextPolite and impl.NextPolite, for every Row. -/
import Derived.Test.YtgjfclkkobjfoaaPolOf
namespace Go.Proofs.Ytgjfclkkobjfoaa
open Go.RowKit

theorem full_iff (n : Nat) (S : Nat → Bool) : (tk n S).length = n ↔ (tk n fun q => !S q) = [] := by
  unfold tk
  rw [List.filter_eq_nil_iff]
  have h := List.length_filter_eq_length_iff (p := S) (l := List.range n)
  rw [List.length_range] at h
  rw [h]
  simp
theorem polS_full {n : Nat} {ring : Bool} {S : Nat → Bool} (h : (tk n S).length = n) : polS n ring S = [] := by
  rw [← pol_same]
  unfold polM
  rw [(full_iff n S).1 h]; rfl
theorem polS_free {n : Nat} {ring : Bool} {S : Nat → Bool} (h : ¬ (tk n S).length = n) : 0 < (polS n ring S).length := by
  rw [← pol_same]
  unfold polM
  obtain ⟨F, hF⟩ : ∃ F, (tk n fun q => !S q) = F := ⟨_, rfl⟩
  have hne : ¬ F = [] := fun e => h ((full_iff n S).2 (by rw [hF]; exact e))
  have hpos : ∀ p ∈ F, 1 ≤ farM n ring (tk n S) p := fun p hp => by
    rw [← hF] at hp
    obtain ⟨h1, h2⟩ := mem_tk.1 hp
    exact far_free h1 (by simpa using h2)
  rw [hF]
  obtain ⟨x, hx⟩ := List.exists_mem_of_ne_nil F hne
  have h1 := (mostM_ge (farM n ring (tk n S)) F 0).2 x hx
  have h2 := hpos x hx
  rcases mostM_is (farM n ring (tk n S)) F 0 with e | ⟨p, hp, e⟩
  · omega
  · rw [e]
    exact List.length_pos_of_mem (a := p) (by unfold atM; simp [hp])
theorem polS_lt {n : Nat} {ring : Bool} {S : Nat → Bool} {x : Nat} (h : x ∈ polS n ring S) : x < n ∧ S x = false := by
  rw [← pol_same] at h
  unfold polM atM at h
  have := (List.mem_filter.1 h).1
  obtain ⟨h1, h2⟩ := mem_tk.1 this
  exact ⟨h1, by simpa using h2⟩

theorem polOfI_ok (n : Nat) (ring : Bool) (p : Option Addr) (cap : Nat) (S : Nat → Bool) (w : World) (lo hi : Nat) (hin : Ri lo hi w p (ints (tk n S))) (h2 : 2 ≤ n) (hn : n ≤ 24) (h3 : ring = true → 3 ≤ n) :
    Calls Try.prog 19 #[rowV n ring p (ints (tk n S)).length cap] w fun e w' => ∃ v, e = .returned (.tuple #[v, .bool true]) ∧ Out w.heap.size w' v (ints (polS n ring S)) ∧ Below w.heap.size w w' := by
  refine polOfI_any n ring p _ cap _ true w (fun w' h' => ?_) (fun w' h' => ?_)
  · have := politeI_any n ring p cap S 0 w' lo hi (hin.below h' hin.top) h2 hn h3 (by omega)
    rw [pol_same] at this
    exact this
  · have := isRow_any n ring p cap (ints (tk n S)) w' lo hi (hin.below h' hin.top) (by have := ints_tk_len n S; omega)
    rw [rowB_of h2 hn h3] at this
    exact this
theorem polOfI_no (s : Int) (ring : Bool) (p : Option Addr) (cap : Nat) (xs : List Int) (w : World) (lo hi : Nat) (hin : Ri lo hi w p xs) (hlen : xs.length ≤ 1048576) (hr : rowB s ring xs = false) :
    Calls Try.prog 19 #[rowV s ring p xs.length cap] w fun e w' => ∃ v, e = .returned (.tuple #[v, .bool false]) ∧ Out w.heap.size w' v [] ∧ Below w.heap.size w w' := by
  refine polOfI_any s ring p _ cap _ false w (fun w' h' => ?_) (fun w' h' => ?_)
  · exact politeI_bad s ring p cap xs 0 w' lo hi (hin.below h' hin.top) hlen hr (by omega)
  · have := isRow_any s ring p cap xs w' lo hi (hin.below h' hin.top) hlen
    rw [hr] at this
    exact this

set_option maxHeartbeats 800000 in
/-- nothing is found -/
theorem nextI_none (rv : Value) (B : Bool) (w : World)
    (h : ∀ w', Below w.heap.size w w' → Calls Try.prog 19 #[rv] w' fun e w'' => ∃ v, e = .returned (.tuple #[v, .bool B]) ∧ Out w'.heap.size w'' v [] ∧ Below w'.heap.size w' w'')
    (s : Int) (ring : Bool) (p : Option Addr) (m cap : Nat) (hv : rv = rowV s ring p m cap) :
    Calls Try.prog 21 #[rv] w fun e w' => e = .returned (.tuple #[.int .i64 0, .bool false]) ∧ Below w.heap.size w w' := by
  subst hv
  have hb := box_below w s ring p m cap 28
  have R := Lib.hid (h _ hb)
  have HB := Lib.hid hb
  clear hb h
  go_enter Try.func21, Try.ntmps21
  go_wp2_with fail
  refine R.out.mono ?_
  rintro e w1 ⟨v, rfl, hO, hb1⟩
  obtain ⟨q, c, rfl, -, -, hq, -⟩ := hO.rd
  have HB1 := Lib.hid (HB.out.trans (hb1.mono HB.out.size))
  clear hO hq hb1 HB R
  go_wp2_with fail
  go_ret2
  exact ⟨rfl, HB1.out⟩

set_option maxHeartbeats 800000 in
/-- the first one is taken -/
theorem nextI_some (n : Nat) (ring : Bool) (p : Option Addr) (m cap : Nat) (L : List Nat) (w : World) (hL : 0 < L.length) (hL2 : L.length ≤ 24)
    (h : ∀ w', Below w.heap.size w w' → Calls Try.prog 19 #[rowV n ring p m cap] w' fun e w'' => ∃ v, e = .returned (.tuple #[v, .bool true]) ∧ Out w'.heap.size w'' v (ints L) ∧ Below w'.heap.size w' w'') :
    Calls Try.prog 21 #[rowV n ring p m cap] w fun e w' => e = .returned (.tuple #[.int .i64 ((L[0]?.getD 0 : Nat) : Int), .bool true]) ∧ Below w.heap.size w w' := by
  have hb := box_below w n ring p m cap 28
  have R := Lib.hid (h _ hb)
  have HB := Lib.hid hb
  clear hb h
  have h00 := Lib.hid (ints_get hL)
  obtain ⟨x, hx⟩ : ∃ x, L[0]?.getD 0 = x := ⟨_, rfl⟩
  rw [hx] at h00 ⊢
  have hll := ints_length L
  obtain ⟨k, hk⟩ : ∃ k, L.length = k := ⟨_, rfl⟩
  rw [hk] at hL hL2 hll
  have hne : ((k : Int) == 0) = false := by simp; omega
  clear hx hk
  go_enter Try.func21, Try.ntmps21
  go_wp2_with fail
  refine R.out.mono ?_
  rintro e w1 ⟨v, rfl, hO, hb1⟩
  obtain ⟨q, c, rfl, -, -, hq, -⟩ := hO.rd
  rw [hll]
  obtain ⟨b, off, rfl, -, -, -, hc⟩ := hq.int (by omega)
  have h0 := hc 0 (by omega)
  rw [h00.out, Nat.add_zero] at h0
  have HB1 := Lib.hid (HB.out.trans (hb1.mono HB.out.size))
  have hk0 : (0 : Int) < (k : Int) := by omega
  clear hO hq hb1 HB R hc hll h00
  go_wp2_with fail
  go_ret2
  exact ⟨rfl, HB1.out⟩

set_option maxHeartbeats 800000 in
theorem nextS_bad (s : Int) (ring : Bool) (p : Option Addr) (cap : Nat) (xs : List Int) (w : World) (lo hi : Nat) (hin : Ri lo hi w p xs) (hlen : xs.length ≤ 1048576) (hr : rowB s ring xs = false) :
    Calls Try.prog 20 #[rowV s ring p xs.length cap] w fun e w' => e = .returned (.tuple #[.int .i64 0, .bool false]) ∧ Below w.heap.size w w' := by
  have hb := box_below w s ring p xs.length cap 28
  have I := Lib.hid (l2Row_any s ring p cap xs _ lo hi (hin.bel hb) hlen)
  rw [hr] at I
  have HB := Lib.hid hb
  clear hb hin hr
  go_enter Try.func20, Try.ntmps20
  go_wp2_with fail
  refine I.out.mono ?_
  rintro e w1 ⟨rfl, hb1⟩
  have HB1 := Lib.hid (HB.out.trans (hb1.mono HB.out.size))
  clear I HB hb1
  go_wp2_with fail
  go_ret2
  exact ⟨rfl, HB1.out⟩

set_option maxHeartbeats 800000 in
theorem nextS_full (n : Nat) (ring : Bool) (p : Option Addr) (cap : Nat) (S : Nat → Bool) (w : World) (lo hi : Nat) (hin : Ri lo hi w p (ints (tk n S))) (h2 : 2 ≤ n) (hn : n ≤ 24) (h3 : ring = true → 3 ≤ n) (hf : (tk n S).length = n) :
    Calls Try.prog 20 #[rowV n ring p (ints (tk n S)).length cap] w fun e w' => e = .returned (.tuple #[.int .i64 0, .bool false]) ∧ Below w.heap.size w w' := by
  have hlen := ints_tk_len n S
  have hb := box_below w n ring p (ints (tk n S)).length cap 28
  have I := Lib.hid (l2Row_any n ring p cap (ints (tk n S)) _ lo hi (hin.bel hb) (by omega))
  rw [rowB_of h2 hn h3] at I
  have HX := Lib.hid (OwnArr.made w 28 [.int .i64 n, .bool ring, .slice p (ints (tk n S)).length cap])
  have HB := Lib.hid hb
  clear hb hin h3 hlen
  have hm : (ints (tk n S)).length = n := by rw [ints_length]; exact hf
  rw [hm] at I HX HB ⊢
  clear hm hf
  go_enter Try.func20, Try.ntmps20
  go_wp2_with fail
  refine I.out.mono ?_
  rintro e w1 ⟨rfl, hb1⟩
  have HX1 := Lib.hid (HX.out.below hb1 HX.out.lt)
  have HB1 := Lib.hid (HB.out.trans (hb1.mono HB.out.size))
  clear I HB hb1 HX
  obtain ⟨c0, c1, c2, -⟩ := HX1.out.three
  go_wp2_with fail
  go_ret2
  exact ⟨rfl, HB1.out⟩

set_option maxHeartbeats 800000 in
theorem nextS_some (n : Nat) (ring : Bool) (p : Option Addr) (cap : Nat) (S : Nat → Bool) (w : World) (lo hi : Nat) (hin : Ri lo hi w p (ints (tk n S))) (h2 : 2 ≤ n) (hn : n ≤ 24) (h3 : ring = true → 3 ≤ n) (hf : ¬ (tk n S).length = n) :
    Calls Try.prog 20 #[rowV n ring p (ints (tk n S)).length cap] w fun e w' => e = .returned (.tuple #[.int .i64 (((polS n ring S)[0]?.getD 0 : Nat) : Int), .bool true]) ∧ Below w.heap.size w w' := by
  have hlen := ints_tk_len n S
  have hb := box_below w n ring p (ints (tk n S)).length cap 28
  have I := Lib.hid (l2Row_any n ring p cap (ints (tk n S)) _ lo hi (hin.bel hb) (by omega))
  rw [rowB_of h2 hn h3] at I
  have PS := Lib.hid (fun (w' : World) (h' : Below w.heap.size w w') => politeS_any n ring p cap S w' lo hi (hin.below h' hin.top) h2 hn)
  have hL := polS_free (ring := ring) hf
  have hL2 : (polS n ring S).length ≤ 24 := by have := polS_len n ring S; rw [ints_length] at this; omega
  obtain ⟨L, hLL⟩ : ∃ L, polS n ring S = L := ⟨_, rfl⟩
  rw [hLL] at PS hL hL2 ⊢
  have hmn : ¬ (ints (tk n S)).length = n := by rw [ints_length]; exact hf
  obtain ⟨m, hm⟩ : ∃ m, (ints (tk n S)).length = m := ⟨_, rfl⟩
  rw [hm] at hb I PS hmn ⊢
  have HX := Lib.hid (OwnArr.made w 28 [.int .i64 n, .bool ring, .slice p m cap])
  have HB := Lib.hid hb
  have hne : ((m : Int) == (n : Int)) = false := by simp; omega
  have h00 := Lib.hid (ints_get hL)
  obtain ⟨x, hx⟩ : ∃ x, L[0]?.getD 0 = x := ⟨_, rfl⟩
  rw [hx] at h00 ⊢
  have hll := ints_length L
  obtain ⟨k, hk⟩ : ∃ k, L.length = k := ⟨_, rfl⟩
  rw [hk] at hL hL2 hll
  clear hb hin hlen h3 hm hLL hf hmn hx hk
  go_enter Try.func20, Try.ntmps20
  go_wp2_with fail
  refine I.out.mono ?_
  rintro e w1 ⟨rfl, hb1⟩
  have HX1 := Lib.hid (HX.out.below hb1 HX.out.lt)
  have HB1 := Lib.hid (HB.out.trans (hb1.mono HB.out.size))
  clear HX HB hb1 I
  obtain ⟨c0, c1, c2, -⟩ := HX1.out.three
  go_wp2_with fail
  refine (PS.out _ HB1.out).mono ?_
  rintro e w2 ⟨v, rfl, hO, hb2⟩
  obtain ⟨q, c, rfl, -, -, hq, -⟩ := hO.rd
  rw [hll]
  obtain ⟨b, off, rfl, -, -, -, hc⟩ := hq.int (by omega)
  have h0 := hc 0 (by omega)
  rw [h00.out, Nat.add_zero] at h0
  have HB2 := Lib.hid (HB1.out.trans (hb2.mono HB1.out.size))
  have hk0 : (0 : Int) < (k : Int) := by omega
  clear hO hq hb2 HB1 PS hc hll h00 c0 c1 c2 HX1
  go_wp2_with fail
  go_ret2
  exact ⟨rfl, HB2.out⟩

theorem nextPolite_both (s : Int) (ring : Bool) (xs : List Int) : ∃ (R : Int) (B : Bool),
    (∀ (p : Option Addr) (cap : Nat) (w : World) (lo hi : Nat), Ri lo hi w p xs → xs.length ≤ 1048576 → Calls Try.prog 20 #[rowV s ring p xs.length cap] w fun e w' => e = .returned (.tuple #[.int .i64 R, .bool B]) ∧ Below w.heap.size w w') ∧
    (∀ (p : Option Addr) (cap : Nat) (w : World) (lo hi : Nat), Ri lo hi w p xs → xs.length ≤ 1048576 → Calls Try.prog 21 #[rowV s ring p xs.length cap] w fun e w' => e = .returned (.tuple #[.int .i64 R, .bool B]) ∧ Below w.heap.size w w') := by
  cases h : rowB s ring xs with
  | true =>
    obtain ⟨n, S, rfl, rfl, h2, hn, h3⟩ := rowB_is h
    by_cases hf : (tk n S).length = n
    · refine ⟨0, false, fun p cap w lo hi hin _ => nextS_full n ring p cap S w lo hi hin h2 hn h3 hf, fun p cap w lo hi hin _ => nextI_none _ true w (fun w' h' => ?_) n ring p _ cap rfl⟩
      have := polOfI_ok n ring p cap S w' lo hi (hin.below h' hin.top) h2 hn h3
      rw [polS_full hf] at this
      exact this
    · refine ⟨(((polS n ring S)[0]?.getD 0 : Nat) : Int), true, fun p cap w lo hi hin _ => nextS_some n ring p cap S w lo hi hin h2 hn h3 hf, fun p cap w lo hi hin _ => nextI_some n ring p _ cap _ w (polS_free hf) ?_ (fun w' h' => polOfI_ok n ring p cap S w' lo hi (hin.below h' hin.top) h2 hn h3)⟩
      have := polS_len n ring S
      rw [ints_length] at this
      omega
  | false =>
    exact ⟨0, false, fun p cap w lo hi hin hl => nextS_bad s ring p cap xs w lo hi hin hl h, fun p cap w lo hi hin hl => nextI_none _ false w (fun w' h' => polOfI_no s ring p cap xs w' lo hi (hin.below h' hin.top) hl h) s ring p _ cap rfl⟩
end Go.Proofs.Ytgjfclkkobjfoaa
