/- Chapter 7, spec side: spec.BoardTime, SitTimes, EnterTimes, WaitTimes, AisleAt, given spec.l7Start. -/
import Derived.Test.YtohnjdlhgcemjaaTim7
namespace Go.Proofs.Ytohnjdlhgcemjaa
open Go.RowKit

abbrev Start7 : Prop := ∀ (n : Nat) (w' : World), 1 ≤ n → n ≤ 10 → Calls Try.prog 45 #[.int .i64 (n : Nat)] w' (MadeCab w' n start7)
theorem IA.out {w : World} {g n B : Nat} {K : Nat → Nat} {F : Nat → Int} (h : IA w g n K F) (hB : B ≤ g) (hK : K g ≤ maxLen) : Out B w (.slice (some ⟨g, 0, none⟩) n (K g)) (frM F n) := by
  obtain ⟨vs, h, hl, hc⟩ := h
  have e : vs.take n = iv (frM F n) := by
    apply List.ext_getElem?
    intro i
    by_cases hi : i < n
    · rw [List.getElem?_take, if_pos hi, hc i hi, iv_get (by rw [frM_len]; exact hi)]
      unfold frM
      simp [hi]
    · rw [List.getElem?_eq_none (by rw [List.length_take]; omega), List.getElem?_eq_none (by rw [iv_length, frM_len]; omega)]
  refine ⟨by rw [iv_length, Nat.mul_one], .inr ⟨g, K g, vs.toArray, by rw [frM_len], hB, h, by rw [frM_len]; omega, hK, by rw [Nat.mul_one]; simp [hl.2], ?_⟩⟩
  rw [Nat.mul_one, frM_len]
  exact e

set_option maxRecDepth 4000 in
set_option maxHeartbeats 1000000 in
theorem boardS_bad (n s : Int) (p : Option Addr) (cap : Nat) (xs : List Int) (w : World) (lo hi : Nat) (hin : Ri lo hi w p xs) (hcap : xs.length ≤ cap) (hcm : cap ≤ maxLen) (hlen : xs.length ≤ 1048576) (h : ask7 n s xs = false) :
    Calls Try.prog 9 #[.int .i64 n, .int .i64 s, .slice p xs.length cap] w fun e w' => e = .returned (.tuple #[.int .i64 0, .bool false]) ∧ Below w.heap.size w w' := by
  have A := l7Ask_any n s p cap xs w lo hi hin hcap hcm hlen
  rw [h] at A
  replace A := Lib.hid A
  obtain ⟨m, hm⟩ : ∃ m, xs.length = m := ⟨_, rfl⟩
  rw [hm] at A ⊢
  clear hin h hm
  go_enter Try.func9, Try.ntmps9
  go_wp2_with fail
  refine A.out.mono ?_
  rintro e w1 ⟨rfl, hb⟩
  go_wp2_with fail
  go_ret2
  exact ⟨rfl, hb⟩

set_option maxRecDepth 4000 in
set_option maxHeartbeats 1000000 in
theorem boardS_any (ST : Start7) (n : Nat) (s : Int) (p : Option Addr) (cap : Nat) (l : List Nat) (U : Nat) (w : World) (lo hi : Nat) (hin : Ri lo hi w p (ints l)) (hcap : n ≤ cap) (hcm : cap ≤ maxLen) (hn1 : 1 ≤ n) (hn : n ≤ 10) (hs1 : 1 ≤ s) (hs : s ≤ 5) (hl : ∀ x ∈ l, x < n) (hll : l.length = n) (h : ask7 n s (ints l) = true) (hU : runs7 n s (-1) l U) :
    Calls Try.prog 9 #[.int .i64 (n : Nat), .int .i64 s, .slice p n cap] w fun e w' => e = .returned (.tuple #[.int .i64 (mxM (cabU s l U).sa n), .bool true]) ∧ Below w.heap.size w w' := by
  have A := l7Ask_any n s p cap (ints l) w lo hi hin (by rw [ints_length]; omega) hcm (by rw [ints_length]; omega)
  rw [h, ints_length, hll] at A
  replace A := Lib.hid A
  have T := Lib.hid (fun (w' : World) (h' : Below w.heap.size w w') => l7Time_any ST n s p cap l U w' lo hi (hin.below h' hin.top) hn1 hn hs1 hs hl hll hU)
  obtain ⟨x, hx⟩ : ∃ x, mxM (cabU s l U).sa n = x := ⟨_, rfl⟩
  rw [hx] at T ⊢
  clear hin h ST hU hl hll hx
  go_enter Try.func9, Try.ntmps9
  go_wp2_with fail
  refine A.out.mono ?_
  rintro e w1 ⟨rfl, hb⟩
  go_wp2_with fail
  refine (T.out _ hb).mono ?_
  rintro e w2 ⟨rfl, hb2⟩
  go_wp2_with fail
  go_ret2
  exact ⟨rfl, hb.trans (hb2.mono hb.size)⟩

set_option maxRecDepth 4000 in
set_option maxHeartbeats 1000000 in
theorem sitS_bad (n s : Int) (p : Option Addr) (cap : Nat) (xs : List Int) (w : World) (lo hi : Nat) (hin : Ri lo hi w p xs) (hcap : xs.length ≤ cap) (hcm : cap ≤ maxLen) (hlen : xs.length ≤ 1048576) (h : ask7 n s xs = false) :
    Calls Try.prog 13 #[.int .i64 n, .int .i64 s, .slice p xs.length cap] w fun e w' => ∃ v, e = .returned (.tuple #[v, .bool false]) ∧ Out w.heap.size w' v [] ∧ Below w.heap.size w w' := by
  have A := l7Ask_any n s p cap xs w lo hi hin hcap hcm hlen
  rw [h] at A
  replace A := Lib.hid A
  obtain ⟨m, hm⟩ : ∃ m, xs.length = m := ⟨_, rfl⟩
  rw [hm] at A ⊢
  clear hin h hm
  go_enter Try.func13, Try.ntmps13
  go_wp2_with fail
  refine A.out.mono ?_
  rintro e w1 ⟨rfl, hb⟩
  have HO := Lib.hid ((Out.nilLit w1).mono hb.size)
  have HB : Hid (Below w.heap.size w (w1.alloc (.cells #[] 3))) := hb.alloc hb.size _
  go_wp2_with fail
  go_ret2
  exact ⟨_, rfl, HO.out, HB.out⟩

set_option maxRecDepth 4000 in
set_option maxHeartbeats 1000000 in
theorem sitS_any (ST : Start7) (n : Nat) (s : Int) (p : Option Addr) (cap : Nat) (l : List Nat) (U : Nat) (w : World) (lo hi : Nat) (hin : Ri lo hi w p (ints l)) (hcap : n ≤ cap) (hcm : cap ≤ maxLen) (hn1 : 1 ≤ n) (hn : n ≤ 10) (hs1 : 1 ≤ s) (hs : s ≤ 5) (hl : ∀ x ∈ l, x < n) (hll : l.length = n) (h : ask7 n s (ints l) = true) (hU : runs7 n s (-1) l U) :
    Calls Try.prog 13 #[.int .i64 (n : Nat), .int .i64 s, .slice p n cap] w fun e w' => ∃ v, e = .returned (.tuple #[v, .bool true]) ∧ Out w.heap.size w' v (frM (cabU s l U).sa n) ∧ Below w.heap.size w w' := by
  have A := l7Ask_any n s p cap (ints l) w lo hi hin (by rw [ints_length]; omega) hcm (by rw [ints_length]; omega)
  rw [h, ints_length, hll] at A
  replace A := Lib.hid A
  have T := fun (w' : World) (h' : Below w.heap.size w w') => l7Run_any ST n s (-1) p cap l U w' lo hi (hin.below h' hin.top) hn1 hn hs1 hs hl hll hU
  unfold MadeCab at T
  obtain ⟨C, hC⟩ : ∃ C, cabU s l U = C := ⟨_, rfl⟩
  rw [hC] at T ⊢
  replace T := Lib.hid T
  have i4 : ∀ (v0 v1 v2 v3 v4 v5 : Value) (w' : World), (Instr.field 37 (.agg #[v0, v1, v2, v3, v4, v5]) 4).run Try.prog w' = .ok v4 w' := fun _ _ _ _ _ _ _ => by kernel_rfl
  clear hin h ST hU hl hll hC
  go_enter Try.func13, Try.ntmps13
  go_wp2_with fail
  refine A.out.mono ?_
  rintro e1 w1 ⟨rfl, hb⟩
  go_wp2_with fail
  refine (T.out _ hb).mono ?_
  rintro e2 w2 ⟨K, a, b, c, d, e, f, rfl, hC, hF, hK, hb2⟩
  have hbs := hb.size
  have HO : Hid (Out w.heap.size w2 (.slice (some ⟨e, 0, none⟩) n (K e)) (frM C.sa n)) := hC.sa.out (by unfold from6 at hF; omega) (hK _)
  have HB := Lib.hid (hb.trans (hb2.mono hb.size))
  clear hC hF hK hb hb2 A T
  go_wp2_with fail
  go_ret2
  exact ⟨_, rfl, HO.out, HB.out⟩

set_option maxRecDepth 4000 in
set_option maxHeartbeats 1000000 in
theorem enterS_bad (n s : Int) (p : Option Addr) (cap : Nat) (xs : List Int) (w : World) (lo hi : Nat) (hin : Ri lo hi w p xs) (hcap : xs.length ≤ cap) (hcm : cap ≤ maxLen) (hlen : xs.length ≤ 1048576) (h : ask7 n s xs = false) :
    Calls Try.prog 17 #[.int .i64 n, .int .i64 s, .slice p xs.length cap] w fun e w' => ∃ v, e = .returned (.tuple #[v, .bool false]) ∧ Out w.heap.size w' v [] ∧ Below w.heap.size w w' := by
  have A := l7Ask_any n s p cap xs w lo hi hin hcap hcm hlen
  rw [h] at A
  replace A := Lib.hid A
  obtain ⟨m, hm⟩ : ∃ m, xs.length = m := ⟨_, rfl⟩
  rw [hm] at A ⊢
  clear hin h hm
  go_enter Try.func17, Try.ntmps17
  go_wp2_with fail
  refine A.out.mono ?_
  rintro e w1 ⟨rfl, hb⟩
  have HO := Lib.hid ((Out.nilLit w1).mono hb.size)
  have HB : Hid (Below w.heap.size w (w1.alloc (.cells #[] 3))) := hb.alloc hb.size _
  go_wp2_with fail
  go_ret2
  exact ⟨_, rfl, HO.out, HB.out⟩

set_option maxRecDepth 4000 in
set_option maxHeartbeats 1000000 in
theorem enterS_any (ST : Start7) (n : Nat) (s : Int) (p : Option Addr) (cap : Nat) (l : List Nat) (U : Nat) (w : World) (lo hi : Nat) (hin : Ri lo hi w p (ints l)) (hcap : n ≤ cap) (hcm : cap ≤ maxLen) (hn1 : 1 ≤ n) (hn : n ≤ 10) (hs1 : 1 ≤ s) (hs : s ≤ 5) (hl : ∀ x ∈ l, x < n) (hll : l.length = n) (h : ask7 n s (ints l) = true) (hU : runs7 n s (-1) l U) :
    Calls Try.prog 17 #[.int .i64 (n : Nat), .int .i64 s, .slice p n cap] w fun e w' => ∃ v, e = .returned (.tuple #[v, .bool true]) ∧ Out w.heap.size w' v (frM (cabU s l U).en n) ∧ Below w.heap.size w w' := by
  have A := l7Ask_any n s p cap (ints l) w lo hi hin (by rw [ints_length]; omega) hcm (by rw [ints_length]; omega)
  rw [h, ints_length, hll] at A
  replace A := Lib.hid A
  have T := fun (w' : World) (h' : Below w.heap.size w w') => l7Run_any ST n s (-1) p cap l U w' lo hi (hin.below h' hin.top) hn1 hn hs1 hs hl hll hU
  unfold MadeCab at T
  obtain ⟨C, hC⟩ : ∃ C, cabU s l U = C := ⟨_, rfl⟩
  rw [hC] at T ⊢
  replace T := Lib.hid T
  have i4 : ∀ (v0 v1 v2 v3 v4 v5 : Value) (w' : World), (Instr.field 37 (.agg #[v0, v1, v2, v3, v4, v5]) 3).run Try.prog w' = .ok v3 w' := fun _ _ _ _ _ _ _ => by kernel_rfl
  clear hin h ST hU hl hll hC
  go_enter Try.func17, Try.ntmps17
  go_wp2_with fail
  refine A.out.mono ?_
  rintro e1 w1 ⟨rfl, hb⟩
  go_wp2_with fail
  refine (T.out _ hb).mono ?_
  rintro e2 w2 ⟨K, a, b, c, d, e, f, rfl, hC, hF, hK, hb2⟩
  have hbs := hb.size
  have HO : Hid (Out w.heap.size w2 (.slice (some ⟨d, 0, none⟩) n (K d)) (frM C.en n)) := hC.en.out (by unfold from6 at hF; omega) (hK _)
  have HB := Lib.hid (hb.trans (hb2.mono hb.size))
  clear hC hF hK hb hb2 A T
  go_wp2_with fail
  go_ret2
  exact ⟨_, rfl, HO.out, HB.out⟩

set_option maxRecDepth 4000 in
set_option maxHeartbeats 1000000 in
theorem waitS_bad (n s : Int) (p : Option Addr) (cap : Nat) (xs : List Int) (w : World) (lo hi : Nat) (hin : Ri lo hi w p xs) (hcap : xs.length ≤ cap) (hcm : cap ≤ maxLen) (hlen : xs.length ≤ 1048576) (h : ask7 n s xs = false) :
    Calls Try.prog 19 #[.int .i64 n, .int .i64 s, .slice p xs.length cap] w fun e w' => ∃ v, e = .returned (.tuple #[v, .bool false]) ∧ Out w.heap.size w' v [] ∧ Below w.heap.size w w' := by
  have A := l7Ask_any n s p cap xs w lo hi hin hcap hcm hlen
  rw [h] at A
  replace A := Lib.hid A
  obtain ⟨m, hm⟩ : ∃ m, xs.length = m := ⟨_, rfl⟩
  rw [hm] at A ⊢
  clear hin h hm
  go_enter Try.func19, Try.ntmps19
  go_wp2_with fail
  refine A.out.mono ?_
  rintro e w1 ⟨rfl, hb⟩
  have HO := Lib.hid ((Out.nilLit w1).mono hb.size)
  have HB : Hid (Below w.heap.size w (w1.alloc (.cells #[] 3))) := hb.alloc hb.size _
  go_wp2_with fail
  go_ret2
  exact ⟨_, rfl, HO.out, HB.out⟩

set_option maxRecDepth 4000 in
set_option maxHeartbeats 1000000 in
theorem waitS_any (ST : Start7) (n : Nat) (s : Int) (p : Option Addr) (cap : Nat) (l : List Nat) (U : Nat) (w : World) (lo hi : Nat) (hin : Ri lo hi w p (ints l)) (hcap : n ≤ cap) (hcm : cap ≤ maxLen) (hn1 : 1 ≤ n) (hn : n ≤ 10) (hs1 : 1 ≤ s) (hs : s ≤ 5) (hl : ∀ x ∈ l, x < n) (hll : l.length = n) (h : ask7 n s (ints l) = true) (hU : runs7 n s (-1) l U) :
    Calls Try.prog 19 #[.int .i64 (n : Nat), .int .i64 s, .slice p n cap] w fun e w' => ∃ v, e = .returned (.tuple #[v, .bool true]) ∧ Out w.heap.size w' v (frM (cabU s l U).wa n) ∧ Below w.heap.size w w' := by
  have A := l7Ask_any n s p cap (ints l) w lo hi hin (by rw [ints_length]; omega) hcm (by rw [ints_length]; omega)
  rw [h, ints_length, hll] at A
  replace A := Lib.hid A
  have T := fun (w' : World) (h' : Below w.heap.size w w') => l7Run_any ST n s (-1) p cap l U w' lo hi (hin.below h' hin.top) hn1 hn hs1 hs hl hll hU
  unfold MadeCab at T
  obtain ⟨C, hC⟩ : ∃ C, cabU s l U = C := ⟨_, rfl⟩
  rw [hC] at T ⊢
  replace T := Lib.hid T
  have i4 : ∀ (v0 v1 v2 v3 v4 v5 : Value) (w' : World), (Instr.field 37 (.agg #[v0, v1, v2, v3, v4, v5]) 5).run Try.prog w' = .ok v5 w' := fun _ _ _ _ _ _ _ => by kernel_rfl
  clear hin h ST hU hl hll hC
  go_enter Try.func19, Try.ntmps19
  go_wp2_with fail
  refine A.out.mono ?_
  rintro e1 w1 ⟨rfl, hb⟩
  go_wp2_with fail
  refine (T.out _ hb).mono ?_
  rintro e2 w2 ⟨K, a, b, c, d, e, f, rfl, hC, hF, hK, hb2⟩
  have hbs := hb.size
  have HO : Hid (Out w.heap.size w2 (.slice (some ⟨f, 0, none⟩) n (K f)) (frM C.wa n)) := hC.wa.out (by unfold from6 at hF; omega) (hK _)
  have HB := Lib.hid (hb.trans (hb2.mono hb.size))
  clear hC hF hK hb hb2 A T
  go_wp2_with fail
  go_ret2
  exact ⟨_, rfl, HO.out, HB.out⟩

set_option maxRecDepth 4000 in
set_option maxHeartbeats 1000000 in
theorem aisleS_bad (n s : Int) (p : Option Addr) (cap : Nat) (xs : List Int) (t : Int) (w : World) (lo hi : Nat) (hin : Ri lo hi w p xs) (hcap : xs.length ≤ cap) (hcm : cap ≤ maxLen) (hlen : xs.length ≤ 1048576) (h : (ask7 n s xs && decide (0 ≤ t)) = false) :
    Calls Try.prog 21 #[.int .i64 n, .int .i64 s, .slice p xs.length cap, .int .i64 t] w fun e w' => ∃ v, e = .returned (.tuple #[v, .bool false]) ∧ Out w.heap.size w' v [] ∧ Below w.heap.size w w' := by
  have A := l7Ask_any n s p cap xs w lo hi hin hcap hcm hlen
  obtain ⟨m, hm⟩ : ∃ m, xs.length = m := ⟨_, rfl⟩
  rw [hm] at A ⊢
  cases ha : ask7 n s xs with
  | false =>
    rw [ha] at A
    replace A := Lib.hid A
    clear hin h hm ha
    go_enter Try.func21, Try.ntmps21
    go_wp2_with fail
    refine A.out.mono ?_
    rintro e w1 ⟨rfl, hb⟩
    have HO := Lib.hid ((Out.nilLit w1).mono hb.size)
    have HB : Hid (Below w.heap.size w (w1.alloc (.cells #[] 3))) := hb.alloc hb.size _
    go_wp2_with fail
    go_ret2
    exact ⟨_, rfl, HO.out, HB.out⟩
  | true =>
    rw [ha] at A
    rw [ha, Bool.true_and, decide_eq_false_iff_not] at h
    have ht : t < 0 := by omega
    replace A := Lib.hid A
    clear hin h hm ha
    go_enter Try.func21, Try.ntmps21
    go_wp2_with fail
    refine A.out.mono ?_
    rintro e w1 ⟨rfl, hb⟩
    have HO := Lib.hid ((Out.nilLit w1).mono hb.size)
    have HB : Hid (Below w.heap.size w (w1.alloc (.cells #[] 3))) := hb.alloc hb.size _
    go_wp2_with fail
    go_ret2
    exact ⟨_, rfl, HO.out, HB.out⟩

set_option maxRecDepth 4000 in
set_option maxHeartbeats 1000000 in
theorem aisleS_any (ST : Start7) (n : Nat) (s : Int) (p : Option Addr) (cap : Nat) (l : List Nat) (t : Int) (U : Nat) (w : World) (lo hi : Nat) (hin : Ri lo hi w p (ints l)) (hcap : n ≤ cap) (hcm : cap ≤ maxLen) (hn1 : 1 ≤ n) (hn : n ≤ 10) (hs1 : 1 ≤ s) (hs : s ≤ 5) (hl : ∀ x ∈ l, x < n) (hll : l.length = n) (h : ask7 n s (ints l) = true) (ht : 0 ≤ t) (hU : runs7 n s t l U) :
    Calls Try.prog 21 #[.int .i64 (n : Nat), .int .i64 s, .slice p n cap, .int .i64 t] w fun e w' => ∃ v, e = .returned (.tuple #[v, .bool true]) ∧ Out w.heap.size w' v (frM (cabU s l U).ai n) ∧ Below w.heap.size w w' := by
  have A := l7Ask_any n s p cap (ints l) w lo hi hin (by rw [ints_length]; omega) hcm (by rw [ints_length]; omega)
  rw [h, ints_length, hll] at A
  replace A := Lib.hid A
  have T := fun (w' : World) (h' : Below w.heap.size w w') => l7Run_any ST n s t p cap l U w' lo hi (hin.below h' hin.top) hn1 hn hs1 hs hl hll hU
  unfold MadeCab at T
  obtain ⟨C, hC⟩ : ∃ C, cabU s l U = C := ⟨_, rfl⟩
  rw [hC] at T ⊢
  replace T := Lib.hid T
  have i4 : ∀ (v0 v1 v2 v3 v4 v5 : Value) (w' : World), (Instr.field 37 (.agg #[v0, v1, v2, v3, v4, v5]) 0).run Try.prog w' = .ok v0 w' := fun _ _ _ _ _ _ _ => by kernel_rfl
  clear hin h ST hU hl hll hC
  go_enter Try.func21, Try.ntmps21
  go_wp2_with fail
  refine A.out.mono ?_
  rintro e1 w1 ⟨rfl, hb⟩
  go_wp2_with fail
  refine (T.out _ hb).mono ?_
  rintro e2 w2 ⟨K, a, b, c, d, e, f, rfl, hC, hF, hK, hb2⟩
  have hbs := hb.size
  have HO : Hid (Out w.heap.size w2 (.slice (some ⟨a, 0, none⟩) n (K a)) (frM C.ai n)) := hC.ai.out (by unfold from6 at hF; omega) (hK _)
  have HB := Lib.hid (hb.trans (hb2.mono hb.size))
  clear hC hF hK hb hb2 A T
  go_wp2_with fail
  go_ret2
  exact ⟨_, rfl, HO.out, HB.out⟩
end Go.Proofs.Ytohnjdlhgcemjaa
