/- Chapter 8: impl.KindsFit; both sides. -/
import Derived.Test.YtlknghghefiokaaKfS8
import Derived.Test.YtlknghghefiokaaFiltF
import Derived.Test.YtlknghghefiokaaRowI
import Derived.Test.YtlknghghefiokaaGap
namespace Go.Proofs.Ytlknghghefiokaa
open Go.RowKit

theorem any_takeK {P : Int → Bool} {xs : List Int} {k : Nat} (h : k < xs.length) : (xs.take (k + 1)).any P = ((xs.take k).any P || P (xs[k]?.getD 0)) := by
  rw [List.take_succ_eq_append_getElem h, List.any_append, List.getElem?_eq_getElem h]
  simp

set_option maxHeartbeats 1000000 in
theorem indexKd_any (P : Int → Bool) (cv : Value) (xs : List Int) (q : Option Addr) (c : Nat) (w : World) (lo hi : Nat) (hin : Ri lo hi w q xs) (hll : xs.length ≤ 1048576)
    (hG : ∀ x w', Below w.heap.size w w' → Calls Try.prog 37 #[.int .i64 x, cv] w' fun e w'' => e = .returned (.bool (P x)) ∧ Below w'.heap.size w' w'') :
    Calls Try.prog 59 #[.slice q xs.length c, .func (.func 37) #[] #[cv]] w fun e w' => ∃ r : Int, e = .returned (.int .i64 r) ∧ (0 ≤ r ↔ xs.any P = true) ∧ Below w.heap.size w w' := by
  have HI := Lib.hid hin
  have G := Lib.hid hG
  obtain ⟨k0, hk0⟩ : ∃ k, xs.length = k := ⟨_, rfl⟩
  rw [hk0] at hll ⊢
  have HM := Lib.hid hk0
  clear hin hk0 hG
  go_enter Try.func59, Try.ntmps59
  go_wp2_with fail
  go_loopw [5, 8] (fun _ i wr => ∃ (k : Nat), k ≤ k0 ∧ i = .int .i64 k ∧ Hid ((xs.take k).any P = false) ∧ Hid (Below w.heap.size w wr)) (fun _ i _ => k0 - (intOf i).toNat)
  case atStart => exact ⟨0, Nat.zero_le _, rfl, by show _ = _; simp, Lib.hid (Below.refl _ _)⟩
  case round =>
    obtain ⟨k, hk, rfl, HF, HB⟩ := hrel
    by_cases hlt : k < k0
    · have hk1 : (k : Int) < (k0 : Int) := by omega
      have hkl : k < xs.length := by have := HM.out; omega
      obtain ⟨b, off, rfl, -, -, hbw, hc⟩ := HI.out.int (by omega)
      have h0 := (HB.out.cell (p := ⟨b, off + k, none⟩) hbw).trans (hc k hkl)
      have hmem : xs[k]?.getD 0 ∈ xs := by rw [List.getElem?_eq_getElem hkl]; exact List.getElem_mem hkl
      have HT := Lib.hid (any_takeK (P := P) hkl)
      obtain ⟨y, hy⟩ : ∃ y, xs[k]?.getD 0 = y := ⟨_, rfl⟩
      rw [hy] at h0 HT hmem
      have G2 := Lib.hid (G.out y wr HB.out)
      have HY : Hid (P y = true → xs.any P = true) := by
        show _ → _
        intro h
        exact List.any_eq_true.2 ⟨y, hmem, h⟩
      obtain ⟨t, ht⟩ : ∃ t, P y = t := ⟨_, rfl⟩
      rw [ht] at G2 HT HY
      clear hc hy ht hmem
      cases t with
      | true =>
        go_wp2_with fail
        refine G2.out.mono ?_
        rintro e w2 ⟨rfl, hb2⟩
        have HB2 := Lib.hid (HB.out.trans (hb2.mono HB.out.size))
        clear hb2
        go_wp2_with fail
        go_ret
        exact ⟨_, rfl, by have := HY.out trivial; simp [this], HB2.out⟩
      | false =>
        have HF2 : Hid ((xs.take (k + 1)).any P = false) := by
          show _ = _
          rw [HT.out, HF.out]; rfl
        clear HT HF HY
        go_wp2_with fail
        refine G2.out.mono ?_
        rintro e w2 ⟨rfl, hb2⟩
        have HB2 := Lib.hid (HB.out.trans (hb2.mono HB.out.size))
        clear hb2 h0 G2 HB
        go_wp2_with fail
        go_roundw
        case rel => exact ⟨k + 1, by omega, by go_num, HF2, HB2⟩
        case measure => simp [intOf]; omega
    · have hkm : xs.take k = xs := List.take_of_length_le (by have := HM.out; omega)
      have hF := HF.out
      rw [hkm] at hF
      replace hF := Lib.hid hF
      clear HF hkm
      go_wp2_with fail
      go_ret
      exact ⟨_, rfl, by have := hF.out; simp [this], HB.out⟩

set_option maxHeartbeats 1000000 in
theorem containsKd_any (P : Int → Bool) (cv : Value) (xs : List Int) (q : Option Addr) (c : Nat) (w : World) (lo hi : Nat) (hin : Ri lo hi w q xs) (hll : xs.length ≤ 1048576)
    (hG : ∀ x w', Below w.heap.size w w' → Calls Try.prog 37 #[.int .i64 x, cv] w' fun e w'' => e = .returned (.bool (P x)) ∧ Below w'.heap.size w' w'') :
    Calls Try.prog 39 #[.slice q xs.length c, .func (.func 37) #[] #[cv]] w fun e w' => e = .returned (.bool (xs.any P)) ∧ Below w.heap.size w w' := by
  have I := Lib.hid (indexKd_any P cv xs q c w lo hi hin hll hG)
  obtain ⟨B, hB⟩ : ∃ B, xs.any P = B := ⟨_, rfl⟩
  rw [hB] at I ⊢
  clear hin hG hB
  go_enter Try.func39, Try.ntmps39
  go_wp2_with fail
  refine I.out.mono ?_
  rintro e w' ⟨r, rfl, hr, hb⟩
  replace hr := Lib.hid hr
  have HB := Lib.hid hb
  go_wp2_with fail
  go_ret
  exact ⟨ret_bool (by have := hr.out; cases B <;> simp_all), HB.out⟩


theorem noKind_any (u : Int) (q : Option Addr) (m2 c : Nat) (x : Int) (g : Nat) (w : World) (hX : OwnArr w g 27 [.int .i64 u, .slice q m2 c]) :
    Calls Try.prog 37 #[.int .i64 x, .pointer (some ⟨g, 0, none⟩)] w fun e w' => e = .returned (.bool (decide (x < 0) || decide (u ≤ x))) ∧ Below w.heap.size w w' := by
  obtain ⟨c0, c1, -⟩ := hX.two
  clear hX
  by_cases h1 : x < 0
  · go_enter Try.func37, Try.ntmps37
    go_wp2_with fail
    go_ret
    exact ⟨ret_bool (by simp [h1]), Below.refl _ _⟩
  · by_cases h2 : u ≤ x
    · go_enter Try.func37, Try.ntmps37
      go_wp2_with fail
      go_ret
      exact ⟨ret_bool (by simp [h2]), Below.refl _ _⟩
    · go_enter Try.func37, Try.ntmps37
      go_wp2_with fail
      go_ret
      exact ⟨ret_bool (by have a1 : ¬ x < 0 := by omega
                          have a2 : ¬ u ≤ x := by omega
                          rw [decide_eq_false a1, decide_eq_false a2]; rfl), Below.refl _ _⟩

set_option maxRecDepth 4000 in
set_option maxHeartbeats 1000000 in
theorem canHave_any (s : Int) (ring : Bool) (p : Option Addr) (cap : Nat) (xs : List Int) (u : Int) (q : Option Addr) (c : Nat) (us : List Int) (w : World) (lo hi lo2 hi2 : Nat)
    (hin : Ri lo hi w p xs) (hin2 : Ri lo2 hi2 w q us) (hlen : xs.length ≤ 1048576) (hlen2 : us.length ≤ 1048576) :
    Calls Try.prog 38 #[rowV s ring p xs.length cap, ruleV u q us.length c] w fun e w' => e = .returned (.bool (rowB s ring xs && ruleB u us)) ∧ Below w.heap.size w w' := by
  have hE := TwoE.start w s ring p xs.length cap u q us.length c
  have RW := fun w' (hb : Below w.heap.size w w') => isRow_any s ring p cap xs w' lo hi (hin.bel hb) hlen
  have RU := fun w' (hb : Below w.heap.size w w') => isRuleI_any u q c us w' lo2 hi2 (hin2.bel hb) hlen2
  obtain ⟨B1, hB1⟩ : ∃ B, rowB s ring xs = B := ⟨_, rfl⟩
  obtain ⟨B2, hB2⟩ : ∃ B, ruleB u us = B := ⟨_, rfl⟩
  rw [hB1] at RW ⊢
  rw [hB2] at RU ⊢
  replace RW := Lib.hid RW
  replace RU := Lib.hid RU
  obtain ⟨m, hm⟩ : ∃ m, xs.length = m := ⟨_, rfl⟩
  obtain ⟨m2, hm2⟩ : ∃ m, us.length = m := ⟨_, rfl⟩
  rw [hm] at RW
  rw [hm2] at RU
  rw [hm, hm2] at hE
  rw [hm, hm2]
  have HE := Lib.hid hE
  obtain ⟨c0, c1, c2, -⟩ := HE.out.row.three
  clear hin hin2 hB1 hB2 hm hm2 hE hlen hlen2
  cases B1 with
  | false =>
    go_enter Try.func38, Try.ntmps38
    go_wp2_with fail
    refine (RW.out _ HE.out.bel).mono ?_
    rintro e w1 ⟨rfl, hb⟩
    have HE1 := Lib.hid (HE.out.next hb)
    clear hb c0 c1 c2
    go_wp2_with fail
    go_ret
    exact ⟨ret_bool (by simp), HE1.out.bel⟩
  | true =>
    go_enter Try.func38, Try.ntmps38
    go_wp2_with fail
    refine (RW.out _ HE.out.bel).mono ?_
    rintro e w1 ⟨rfl, hb⟩
    have HE1 := Lib.hid (HE.out.next hb)
    obtain ⟨d0, d1, -⟩ := HE1.out.rul.two
    clear hb c0 c1 c2
    go_wp2_with fail
    refine (RU.out _ HE1.out.bel).mono ?_
    rintro e w2 ⟨rfl, hb⟩
    have HE2 := Lib.hid (HE1.out.next hb)
    clear hb d0 d1
    go_wp2_with fail
    go_ret
    exact ⟨ret_bool (by simp), HE2.out.bel⟩

set_option maxHeartbeats 800000 in
theorem seatsFree_bad8 (s : Int) (ring : Bool) (p : Option Addr) (cap : Nat) (xs : List Int) (w : World) (lo hi : Nat) (hin : Ri lo hi w p xs) (hlen : xs.length ≤ 1048576) (hr : rowB s ring xs = false) :
    Calls Try.prog 56 #[rowV s ring p xs.length cap, .func (.func 57) #[] #[]] w fun e w' => ∃ v, e = .returned (.tuple #[v, .bool false]) ∧ Out (w.heap.size + 1) w' v [] ∧ Below w.heap.size w w' := by
  have hs : (w.alloc (.cells #[Value.int .i64 s, Value.bool ring, Value.slice p xs.length cap] 36)).heap.size = w.heap.size + 1 := by simp
  have hO := Out.nilLit (w.alloc (.cells #[Value.int .i64 s, Value.bool ring, Value.slice p xs.length cap] 36))
  rw [hs] at hO
  have hb : Below w.heap.size w ((w.alloc (.cells #[Value.int .i64 s, Value.bool ring, Value.slice p xs.length cap] 36)).alloc (.cells #[] 3)) := ((Below.refl _ _).alloc (Nat.le_refl _) _).alloc (by simp) _
  have R := Lib.hid (isRow_any s ring p cap xs _ lo hi (hin.below hb hin.top) hlen)
  rw [hr] at R
  have HO := Lib.hid hO
  have HB := Lib.hid hb
  clear hs hO hb hin hr
  go_enter Try.func56, Try.ntmps56
  go_wp2_with fail
  refine R.out.mono ?_
  rintro e w1 ⟨rfl, hb1⟩
  go_wp2_with fail
  go_ret2
  exact ⟨_, rfl, HO.out.below hb1, HB.out.trans (hb1.mono HB.out.size)⟩

set_option maxHeartbeats 800000 in
theorem freeSeatsI_any8 (s : Int) (ring : Bool) (p : Option Addr) (m cap : Nat) (w : World) (B : Bool) (L : List Int)
    (h : ∀ w', Below w.heap.size w w' → Calls Try.prog 56 #[rowV s ring p m cap, .func (.func 57) #[] #[]] w' fun e w'' => ∃ v, e = .returned (.tuple #[v, .bool B]) ∧ Out (w'.heap.size + 1) w'' v L ∧ Below w'.heap.size w' w'') :
    Calls Try.prog 36 #[rowV s ring p m cap] w fun e w' => ∃ v, e = .returned (.tuple #[v, .bool B]) ∧ Out w.heap.size w' v L ∧ Below w.heap.size w w' := by
  have hb := box_below w s ring p m cap 36
  have R := Lib.hid (h _ hb)
  have HB := Lib.hid hb
  clear hb h
  go_enter Try.func36, Try.ntmps36
  go_wp2_with fail
  refine R.out.mono ?_
  rintro e w1 ⟨v, rfl, hO, hb1⟩
  have HO := Lib.hid (hO.mono (by have := HB.out.size; omega : w.heap.size ≤ _))
  clear hO
  go_wp2_with fail
  go_ret2
  exact ⟨v, rfl, HO.out, HB.out.trans (hb1.mono HB.out.size)⟩

theorem tk_not (n : Nat) (S : Nat → Bool) : (tk n fun x => !S x).length + (tk n S).length = n := by
  unfold tk
  induction n with
  | zero => rfl
  | succ n ih =>
    rw [List.range_succ, List.filter_append, List.filter_append, List.length_append, List.length_append]
    have e : ([n].filter fun x => !S x).length + ([n].filter S).length = 1 := by cases h : S n <;> simp [h]
    omega
/-- the free seats of any Row, as the program has them -/
theorem free_any8 (s : Int) (ring : Bool) (xs : List Int) : ∃ (L : List Int) (B : Bool), L.length ≤ 24 ∧ (∀ n S, s = (n : Nat) → xs = ints (tk n S) → rowB s ring xs = true → L = ints (tk n fun q => !S q)) ∧
    (∀ (p : Option Addr) (cap : Nat) (w : World) (lo hi : Nat), Ri lo hi w p xs → xs.length ≤ 1048576 → Calls Try.prog 36 #[rowV s ring p xs.length cap] w fun e w' => ∃ v, e = .returned (.tuple #[v, .bool B]) ∧ Out w.heap.size w' v L ∧ Below w.heap.size w w') := by
  by_cases hr : rowB s ring xs = true
  · obtain ⟨n, S, rfl, rfl, h2, hn, h3⟩ := rowB_is hr
    refine ⟨ints (tk n fun q => !S q), true, by have := ints_tk_len n (fun q => !S q); omega, ?_, ?_⟩
    · intro n' S' e1 e2 _
      have e3 : n' = n := by omega
      subst e3
      have key : ∀ k, k < n' → S k = S' k := by
        intro k hk
        rw [← has_tk (S := S) hk, ← has_tk (S := S') hk, e2]
      unfold tk
      congr 1
      apply List.filter_congr
      intro k hk
      rw [key k (List.mem_range.1 hk)]
    · intro p cap w lo hi hin hl
      exact freeSeatsI_any8 n ring p _ cap w true _ (fun w' hb => seatsFree_any n ring p cap S (fun q => !S q) w' lo hi (hin.below hb hin.top) h2 hn h3 (fun k hk w'' hb' => by
        have := isFree_any n ring p cap (ints (tk n S)) k w'' lo hi ((hin.below hb hin.top).bel hb') hl
        rw [has_tk hk] at this
        exact this))
  · have hr' : rowB s ring xs = false := by simpa using hr
    exact ⟨[], false, by simp, fun n S _ _ h => absurd (hr'.symm.trans h) (by simp),
      fun p cap w lo hi hin hl => freeSeatsI_any8 s ring p _ cap w false [] (fun w' hb => seatsFree_bad8 s ring p cap xs w' lo hi (hin.below hb hin.top) hl hr')⟩

set_option maxRecDepth 4000 in
set_option maxHeartbeats 2000000 in
theorem kindsFitI_bad (s : Int) (ring : Bool) (p : Option Addr) (cap : Nat) (xs : List Int) (u : Int) (q : Option Addr) (c : Nat) (us : List Int) (kp : Option Addr) (kc : Nat) (ks : List Int) (w : World) (lo hi lo2 hi2 lo3 hi3 : Nat)
    (hin : Ri lo hi w p xs) (hin2 : Ri lo2 hi2 w q us) (hin3 : Ri lo3 hi3 w kp ks) (hlen : xs.length ≤ 1048576) (hlen2 : us.length ≤ 1048576) (hlen3 : ks.length ≤ 1048576) (h : kinB s ring xs u us ks = false) :
    Calls Try.prog 17 #[rowV s ring p xs.length cap, ruleV u q us.length c, .slice kp ks.length kc] w fun e w' => e = .returned (.tuple #[.bool false, .bool false]) ∧ Below w.heap.size w w' := by
  have hE := TwoE.start w s ring p xs.length cap u q us.length c
  obtain ⟨L, B, hL24, hLis, hFR⟩ := free_any8 s ring xs
  have FRE := Lib.hid (fun w' (hb : Below w.heap.size w w') => hFR p cap w' lo hi (hin.bel hb) hlen)
  have CH := fun w' (hb : Below w.heap.size w w') => canHave_any s ring p cap xs u q c us w' lo hi lo2 hi2 (hin.bel hb) (hin2.bel hb) hlen hlen2
  have CF := Lib.hid (fun w' (hb : Below w.heap.size w w') (hX : OwnArr w' (w.heap.size + 1) 27 [.int .i64 u, .slice q us.length c]) => containsKd_any (fun x => decide (x < 0) || decide (u ≤ x)) (.pointer (some ⟨w.heap.size + 1, 0, none⟩)) ks kp kc w' lo3 hi3 (hin3.bel hb) hlen3 (fun x w'' hb' => noKind_any u q us.length c x (w.heap.size + 1) w'' (hX.below hb' hX.lt)))
  rw [kindsB_any] at CF
  obtain ⟨Z, hZ⟩ : ∃ Z, (rowB s ring xs && ruleB u us) = Z := ⟨_, rfl⟩
  rw [hZ] at CH
  unfold kinB at h
  rw [hZ] at h
  have hLL : Z = true → (L.length : Int) = s - xs.length := by
    intro hz
    rw [hz, Bool.and_eq_true] at hZ
    obtain ⟨n, S, rfl, rfl, h2, hn, h3⟩ := rowB_is hZ.1
    rw [hLis n S rfl rfl hZ.1, ints_length, ints_length]
    have := tk_not n S
    omega
  obtain ⟨K, hK⟩ : ∃ K, kindsB u ks = K := ⟨_, rfl⟩
  rw [hK] at h CF
  obtain ⟨FL, hFL⟩ : ∃ n, L.length = n := ⟨_, rfl⟩
  have HFL := Lib.hid hFL
  rw [hFL] at hL24 hLL
  obtain ⟨m, hm⟩ : ∃ m, xs.length = m := ⟨_, rfl⟩
  obtain ⟨m2, hm2⟩ : ∃ m, us.length = m := ⟨_, rfl⟩
  obtain ⟨m3, hm3⟩ : ∃ m, ks.length = m := ⟨_, rfl⟩
  rw [hm] at FRE CH hLL h
  rw [hm3] at h
  rw [hm2] at CH CF
  rw [hm3] at CF
  rw [hm, hm2] at hE
  rw [hm, hm2, hm3]
  replace CH := Lib.hid CH
  have HE := Lib.hid hE
  obtain ⟨c0, c1, c2, -⟩ := HE.out.row.three
  clear hin hin2 hin3 hm hm2 hm3 hE hlen hlen2 hlen3 hFR hLis hFL hK
  go_enter Try.func17, Try.ntmps17
  go_wp2_with fail
  refine (FRE.out _ HE.out.bel).mono ?_
  rintro e w1 ⟨v, rfl, hO, hb⟩
  have HE1 := Lib.hid (HE.out.next hb)
  obtain ⟨fp, fc, rfl, -, -, -, -⟩ := Out.rd hO
  rw [HFL.out]
  obtain ⟨d0, d1, d2, -⟩ := HE1.out.row.three
  obtain ⟨e0, e1, -⟩ := HE1.out.rul.two
  clear hb c0 c1 c2 hO FRE
  cases Z with
  | false =>
    clear h hLL hZ
    go_wp2_with fail
    refine (CH.out _ HE1.out.bel).mono ?_
    rintro e w2 ⟨rfl, hb⟩
    have HE2 := Lib.hid (HE1.out.next hb)
    clear hb
    go_wp2_with fail
    go_ret2
    exact ⟨rfl, HE2.out.bel⟩
  | true =>
    have hll := hLL rfl
    clear hLL hZ
    by_cases hlk : m3 = FL
    · subst hlk
      have hK0 : K = false := by
        rw [decide_eq_true (by omega : (m3 : Int) = s - (m : Int))] at h
        simpa using h
      subst hK0
      clear h hll
      go_wp2_with fail
      refine (CH.out _ HE1.out.bel).mono ?_
      rintro e w2 ⟨rfl, hb⟩
      have HE2 := Lib.hid (HE1.out.next hb)
      clear hb
      go_wp2_with fail
      refine (CF.out _ HE2.out.bel HE2.out.rul).mono ?_
      rintro e w3 ⟨rfl, hb⟩
      have HE3 := Lib.hid (HE2.out.next hb)
      clear hb
      go_wp2_with fail
      go_ret2
      exact ⟨rfl, HE3.out.bel⟩
    · have hlki : ¬ (m3 : Int) = (FL : Int) := by omega
      clear h hll
      go_wp2_with fail
      refine (CH.out _ HE1.out.bel).mono ?_
      rintro e w2 ⟨rfl, hb⟩
      have HE2 := Lib.hid (HE1.out.next hb)
      clear hb
      go_wp2_with fail
      go_ret2
      exact ⟨rfl, HE2.out.bel⟩


theorem ruleN_of {nk : Nat} {us : List Int} (h : ruleB (nk : Int) us = true) : ruleN nk (fun i => us[i]?.getD 0) = true := by
  obtain ⟨n, e, -, -, -, h2⟩ := ruleB_is h
  have : nk = n := by omega
  rw [this]; exact h2

set_option maxRecDepth 4000 in
set_option maxHeartbeats 4000000 in

theorem kindsFitI_good (n : Nat) (ring : Bool) (p : Option Addr) (cap : Nat) (S : Nat → Bool) (nk : Nat) (q : Option Addr) (c : Nat) (us : List Int) (kp : Option Addr) (kc : Nat) (l : List Nat) (w : World) (lo hi lo2 hi2 lo3 hi3 : Nat)
    (hin : Ri lo hi w p (ints (tk n S))) (hin2 : Ri lo2 hi2 w q us) (hin3 : Ri lo3 hi3 w kp (ints l)) (hn : n ≤ 24) (hk3 : nk ≤ 3) (hkl : us.length = nk * nk) (hl : l.length = (tk n fun x => !S x).length) (hlk : ∀ x ∈ l, x < nk)
    (h : kinB n ring (ints (tk n S)) nk us (ints l) = true) :
    Calls Try.prog 17 #[rowV n ring p (ints (tk n S)).length cap, ruleV nk q us.length c, .slice kp (ints l).length kc] w fun e w' => e = .returned (.tuple #[.bool (fitB l.length (clash n ring nk (fun i => us[i]?.getD 0) (fun i => (tk n fun x => !S x)[i]?.getD 0) (fun i => l[i]?.getD 0))), .bool true]) ∧ Below w.heap.size w w' := by
  have htl := ints_tk_len n S
  have hfl := ints_tk_len n (fun x => !S x)
  have hus9 : us.length ≤ 9 := by rw [hkl]; exact Nat.mul_le_mul hk3 hk3
  have hE := TwoE.start w n ring p (ints (tk n S)).length cap nk q us.length c
  have hk0 := h
  unfold kinB at hk0
  rw [Bool.and_eq_true, Bool.and_eq_true, Bool.and_eq_true] at hk0
  obtain ⟨L, B, hL24, hLis, hFRI⟩ := free_any8 n ring (ints (tk n S))
  have hLe := hLis n S rfl rfl hk0.1.1
  rw [hLe] at hFRI
  have CH := fun w' (hb : Below w.heap.size w w') => canHave_any n ring p cap (ints (tk n S)) nk q c us w' lo hi lo2 hi2 (hin.bel hb) (hin2.bel hb) (by omega) (by omega)
  rw [hk0.1.1, hk0.1.2] at CH
  have CF := fun w' (hb : Below w.heap.size w w') (hX : OwnArr w' (w.heap.size + 1) 27 [.int .i64 (nk : Int), .slice q us.length c]) => containsKd_any (fun x => decide (x < 0) || decide ((nk : Int) ≤ x)) (.pointer (some ⟨w.heap.size + 1, 0, none⟩)) (ints l) kp kc w' lo3 hi3 (hin3.bel hb) (by rw [ints_length]; rw [ints_length] at hfl; omega) (fun x w'' hb' => noKind_any nk q us.length c x (w.heap.size + 1) w'' (hX.below hb' hX.lt))
  rw [kindsB_any, hk0.2.2] at CF
  have FRE := Lib.hid (fun w' (hb : Below w.heap.size w w') => hFRI p cap w' lo hi (hin.bel hb) (by omega))
  have GA := Lib.hid (fun a b (ha : a < n) (hb : b < n) w' => gapI_any n ring p (ints (tk n S)).length cap a b w' hn ha hb)
  have MA := Lib.hid (fun a b (ha : a < nk) (hb : b < nk) w' (hbw : Below w.heap.size w w') => allows_any nk q c us a b w' lo2 hi2 (hin2.bel hbw) hk3 hkl ha hb)
  have HFM := Lib.hid (fun j (h : j < (tk n fun x => !S x).length) => (mem_tk.1 (nat_mem h)).1)
  have HKM := Lib.hid (fun j (h : j < l.length) => hlk _ (nat_mem h))
  have HKC := Lib.hid (fun (w' : World) (hb : Below w.heap.size w w') (h0 : 0 < l.length) => (hin3.bel hb).int (by rw [ints_length]; exact h0))
  have HKG := Lib.hid (fun j (h : j < l.length) => ints_get h)
  have HFG := Lib.hid (fun j (h : j < (tk n fun x => !S x).length) => ints_get h)
  rw [← hl] at HFM HFG
  have HCL : Hid (∀ i j, clash n ring nk (fun i => us[i]?.getD 0) (fun i => (tk n fun x => !S x)[i]?.getD 0) (fun i => l[i]?.getD 0) i j = (decide (gapM n ring ((tk n fun x => !S x)[i]?.getD 0) ((tk n fun x => !S x)[j]?.getD 0) = 1) && !decide (us[l[i]?.getD 0 * nk + l[j]?.getD 0]?.getD 0 = 1))) := fun i j => rfl
  obtain ⟨C, hC⟩ : ∃ C, clash n ring nk (fun i => us[i]?.getD 0) (fun i => (tk n fun x => !S x)[i]?.getD 0) (fun i => l[i]?.getD 0) = C := ⟨_, rfl⟩
  rw [hC] at HCL ⊢
  have HT := Lib.hid (fitB_all (F := l.length) (C := C))
  have HF := Lib.hid (fun i j hi hj h => fitB_some (F := l.length) (C := C) (i := i) (j := j) (fun i hi j hj => by rw [← hC]; exact clash_comm (ruleN_of hk0.1.2) (hlk _ (nat_mem hi)) (hlk _ (nat_mem hj))) (fun i => by rw [← hC]; exact clash_self _ _ _ _ _ _ _) hi hj h)
  obtain ⟨R, hR⟩ : ∃ R, fitB l.length C = R := ⟨_, rfl⟩
  simp only [hR] at HF HT
  rw [hR]
  have HFL : Hid ((ints (tk n fun x => !S x)).length = l.length) := by show _ = _; rw [ints_length, hl]
  obtain ⟨fr, hfr⟩ : ∃ fr, tk n (fun x => !S x) = fr := ⟨_, rfl⟩
  simp only [hfr] at FRE HFM HFG HCL HFL
  have hF24 : l.length ≤ 24 := by rw [ints_length] at hfl; omega
  have hil : (ints l).length = l.length := ints_length l
  rw [hil] at CF ⊢
  obtain ⟨F, hFF⟩ : ∃ F, l.length = F := ⟨_, rfl⟩
  have HLF := Lib.hid hFF
  rw [hFF] at CF HFM HFG HKM HKC HKG HF HT HFL hF24 ⊢
  obtain ⟨m, hm⟩ : ∃ m, (ints (tk n S)).length = m := ⟨_, rfl⟩
  obtain ⟨m2, hm2⟩ : ∃ m, us.length = m := ⟨_, rfl⟩
  rw [hm, hm2] at CH
  rw [hm2] at CF
  rw [hm] at FRE GA
  rw [hm2] at MA
  rw [hm, hm2] at hE
  rw [hm, hm2]
  replace CH := Lib.hid CH
  replace CF := Lib.hid CF
  have HE := Lib.hid hE
  obtain ⟨c0, c1, c2, -⟩ := HE.out.row.three
  obtain ⟨d0, d1, -⟩ := HE.out.rul.two
  clear hin hin2 hin3 hm hm2 hE h hR hC hFF hil hfr htl hfl hus9 hlk hl hkl hk0 hLis hFRI hLe hL24
  go_enter Try.func17, Try.ntmps17
  go_wp2_with fail
  refine (FRE.out _ HE.out.bel).mono ?_
  rintro e w1 ⟨v, rfl, hO, hb⟩
  have HE1 := Lib.hid (HE.out.next hb)
  obtain ⟨fp, fc, rfl, -, -, hfR, -⟩ := Out.rd hO
  rw [HFL.out]
  clear c0 c1 c2 d0 d1 FRE HE hO
  obtain ⟨c0, c1, c2, -⟩ := HE1.out.row.three
  obtain ⟨d0, d1, -⟩ := HE1.out.rul.two
  clear hb
  go_wp2_with fail
  refine (CH.out _ HE1.out.bel).mono ?_
  rintro e w3 ⟨rfl, hb⟩
  have HE3 := Lib.hid (HE1.out.next hb)
  have hfR3 := hfR.bel hb
  clear hb c0 c1 c2 d0 d1 CH HE1 hfR
  go_wp2_with fail
  refine (CF.out _ HE3.out.bel HE3.out.rul).mono ?_
  rintro e w2 ⟨rfl, hb⟩
  have HE2 := Lib.hid (HE3.out.next hb)
  have HFR := Lib.hid (hfR3.bel hb)
  clear hb CF HE3 hfR3
  go_wp2_with fail
  go_loopw [39, 46] (fun i _ wr => ∃ a : Nat, a ≤ F ∧ i = .int .i64 (a : Int) ∧ Hid (∀ i', i' < a → ∀ j', j' < F → C i' j' = false) ∧ Hid (Below w2.heap.size w2 wr)) (fun i _ _ => F - (intOf i).toNat)
  case atStart => exact ⟨0, Nat.zero_le _, rfl, by show ∀ _, _; intro a h; omega, Below.refl _ _⟩
  case round =>
    obtain ⟨a, ha, rfl, HA, HB⟩ := hrel
    by_cases hlt : a < F
    · have hai : (a : Int) < (F : Int) := by omega
      have hwa : IntKind.i64.wrap ((a : Int) + 1) = (a : Int) + 1 := IntWalk.i64_in _ (by omega)
      obtain ⟨fb, fo, rfl, -, -, hfb, hfc⟩ := HFR.out.int (by rw [HFL.out]; omega)
      have fa := (HB.out.cell (p := ⟨fb, fo + a, none⟩) hfb).trans ((hfc a (by rw [HFL.out]; omega)).trans (by rw [HFG.out a hlt]))
      obtain ⟨x, hx⟩ : ∃ x, fr[a]?.getD 0 = x := ⟨_, rfl⟩
      rw [hx] at fa
      have HXE := Lib.hid hx
      clear hx
      go_wp2_with fail
      go_loopw [46] (fun i wr => ∃ b : Nat, b ≤ F ∧ i = .int .i64 (b : Int) ∧ Hid (∀ j', j' < b → C a j' = false) ∧ Hid (Below w2.heap.size w2 wr)) (fun i _ => F - (intOf i).toNat)
      case atStart => exact ⟨0, Nat.zero_le _, rfl, by show ∀ _, _; intro a h; omega, HB⟩
      case round =>
        obtain ⟨d, hd, rfl, HD, HB3⟩ := hrel
        clear HB
        by_cases hdl : d < F
        · have hdf : (d : Int) < (F : Int) := by omega
          have hwd : IntKind.i64.wrap ((d : Int) + 1) = (d : Int) + 1 := IntWalk.i64_in _ (by omega)
          have cl := HCL.out a d
          have g := GA.out _ _ (HFM.out a hlt) (HFM.out d hdl)
          have my := MA.out _ _ (HKM.out a hlt) (HKM.out d hdl)
          have bad := HF.out a d hlt hdl
          obtain ⟨kb, ko, rfl, -, -, hkb, hkc⟩ := HKC.out wr (HE2.out.bel.trans (HB3.out.mono HE2.out.bel.size)) (by omega)
          have CEL : Hid (∀ w' : World, Below wr.heap.size wr w' → w'.cell? ⟨w.heap.size, 0, none⟩ = some (.int .i64 (n : Int)) ∧ w'.cell? ⟨w.heap.size, 1, none⟩ = some (.bool ring) ∧ w'.cell? ⟨w.heap.size, 2, none⟩ = some (.slice p m cap) ∧ w'.cell? ⟨w.heap.size + 1, 0, none⟩ = some (.int .i64 (nk : Int)) ∧ w'.cell? ⟨w.heap.size + 1, 1, none⟩ = some (.slice q m2 c) ∧
              w'.cell? ⟨fb, fo + a, none⟩ = some (.int .i64 ((fr[a]?.getD 0 : Nat) : Int)) ∧ w'.cell? ⟨fb, fo + d, none⟩ = some (.int .i64 ((fr[d]?.getD 0 : Nat) : Int)) ∧ w'.cell? ⟨kb, ko + a, none⟩ = some (.int .i64 ((l[a]?.getD 0 : Nat) : Int)) ∧ w'.cell? ⟨kb, ko + d, none⟩ = some (.int .i64 ((l[d]?.getD 0 : Nat) : Int)) ∧ Hid (Below wr.heap.size wr w')) := by
            intro w' hb
            have hb2 := HB3.out.trans (hb.mono HB3.out.size)
            have x := HE2.out.next hb2
            obtain ⟨e0, e1, e2, -⟩ := x.row.three
            obtain ⟨e3, e4, -⟩ := x.rul.two
            refine ⟨e0, e1, e2, e3, e4, ?_, ?_, ?_, ?_, hb⟩
            · exact (hb2.cell (p := ⟨fb, fo + a, none⟩) hfb).trans ((hfc a (by rw [HFL.out]; omega)).trans (by rw [HFG.out a hlt]))
            · exact (hb2.cell (p := ⟨fb, fo + d, none⟩) hfb).trans ((hfc d (by rw [HFL.out]; omega)).trans (by rw [HFG.out d hdl]))
            · exact (hb.cell (p := ⟨kb, ko + a, none⟩) (by assumption)).trans ((hkc a (by rw [ints_length, HLF.out]; omega)).trans (by rw [HKG.out a hlt]))
            · exact (hb.cell (p := ⟨kb, ko + d, none⟩) (by assumption)).trans ((hkc d (by rw [ints_length, HLF.out]; omega)).trans (by rw [HKG.out d hdl]))
          have HBW := Lib.hid (fun (w' : World) (hb : Below wr.heap.size wr w') => HE2.out.bel.trans ((HB3.out.trans (hb.mono HB3.out.size)).mono HE2.out.bel.size))
          have HBN := Lib.hid (fun (w' : World) (hb : Below wr.heap.size wr w') => HB3.out.trans (hb.mono HB3.out.size))
          have hx := HXE.out
          obtain ⟨y, hy⟩ : ∃ y, fr[d]?.getD 0 = y := ⟨_, rfl⟩
          obtain ⟨k1, hk1⟩ : ∃ k, l[a]?.getD 0 = k := ⟨_, rfl⟩
          obtain ⟨k2, hk2⟩ : ∃ k, l[d]?.getD 0 = k := ⟨_, rfl⟩
          rw [hx, hy] at cl g CEL
          rw [hk1, hk2] at cl my CEL
          have fd := (CEL.out wr (Below.refl _ _)).2.2.2.2.2.2.1
          have S0 := CEL.out wr.drew (Below.refl _ wr).drew
          obtain ⟨gv, hgv⟩ : ∃ g, gapM n ring x y = g := ⟨_, rfl⟩
          rw [hgv] at cl g
          obtain ⟨mv, hmv⟩ : ∃ b, decide (us[k1 * nk + k2]?.getD 0 = 1) = b := ⟨_, rfl⟩
          rw [hmv] at cl my
          replace g := Lib.hid g
          replace my := Lib.hid my
          have HANEXT : Hid (C a d = false → ∀ j', j' < d + 1 → C a j' = false) := by
            intro h c hc
            by_cases e : c = d
            · subst e; exact h
            · exact HD.out c (by omega)
          clear hx hy hk1 hk2 hgv hmv hfc hkc hfb hkb HB3 HD
          by_cases hg1 : gv = 1
          · subst hg1
            cases mv with
            | true =>
              have HN := Lib.hid (HANEXT.out (by rw [cl]; rfl))
              clear cl bad HANEXT
              go_wp2_with fail
              go_region_held3 (fun w' => w'.cell? ⟨w.heap.size, 0, none⟩ = some (.int .i64 (n : Int)) ∧ w'.cell? ⟨w.heap.size, 1, none⟩ = some (.bool ring) ∧ w'.cell? ⟨w.heap.size, 2, none⟩ = some (.slice p m cap) ∧ w'.cell? ⟨w.heap.size + 1, 0, none⟩ = some (.int .i64 (nk : Int)) ∧ w'.cell? ⟨w.heap.size + 1, 1, none⟩ = some (.slice q m2 c) ∧ w'.cell? ⟨fb, fo + a, none⟩ = some (.int .i64 (x : Int)) ∧ w'.cell? ⟨fb, fo + d, none⟩ = some (.int .i64 (y : Int)) ∧ w'.cell? ⟨kb, ko + a, none⟩ = some (.int .i64 (k1 : Int)) ∧ w'.cell? ⟨kb, ko + d, none⟩ = some (.int .i64 (k2 : Int)) ∧ Hid (Below wr.heap.size wr w')) ((first | exact S0 | exact S1 | exact S2)) (first
                | (go_at_call 40; obtain ⟨-, -, -, -, -, -, -, -, -, HWc⟩ := (by assumption : _ ∧ _ ∧ _ ∧ _ ∧ _ ∧ _ ∧ _ ∧ _ ∧ _ ∧ Hid (Below wr.heap.size wr _)); refine (g.out _).mono ?_; rintro e w' ⟨rfl, hb'⟩; have S1 := CEL.out w' (HWc.out.trans (hb'.mono HWc.out.size)); clear hb')
                | (go_at_call 41; obtain ⟨-, -, -, -, -, -, -, -, -, HWc⟩ := (by assumption : _ ∧ _ ∧ _ ∧ _ ∧ _ ∧ _ ∧ _ ∧ _ ∧ _ ∧ Hid (Below wr.heap.size wr _)); refine (my.out _ (HBW.out _ HWc.out)).mono ?_; rintro e w' ⟨rfl, hb'⟩; have S2 := CEL.out w' (HWc.out.trans (hb'.mono HWc.out.size)); clear hb'))
              obtain ⟨-, -, -, -, -, -, -, -, -, HWf⟩ := (by assumption : _ ∧ _ ∧ _ ∧ _ ∧ _ ∧ _ ∧ _ ∧ _ ∧ _ ∧ Hid (Below wr.heap.size wr _))
              have HBZ := Lib.hid (HBN.out _ HWf.out)
              go_wp2_with fail
              go_roundw
              case rel => exact ⟨d + 1, by omega, by go_num, HN, HBZ⟩
              case measure => simp [intOf]; omega
            | false =>
              have hRf : R = false := bad (by rw [cl]; rfl)
              subst hRf
              clear cl bad HANEXT
              go_wp2_with fail
              go_region_held3 (fun w' => w'.cell? ⟨w.heap.size, 0, none⟩ = some (.int .i64 (n : Int)) ∧ w'.cell? ⟨w.heap.size, 1, none⟩ = some (.bool ring) ∧ w'.cell? ⟨w.heap.size, 2, none⟩ = some (.slice p m cap) ∧ w'.cell? ⟨w.heap.size + 1, 0, none⟩ = some (.int .i64 (nk : Int)) ∧ w'.cell? ⟨w.heap.size + 1, 1, none⟩ = some (.slice q m2 c) ∧ w'.cell? ⟨fb, fo + a, none⟩ = some (.int .i64 (x : Int)) ∧ w'.cell? ⟨fb, fo + d, none⟩ = some (.int .i64 (y : Int)) ∧ w'.cell? ⟨kb, ko + a, none⟩ = some (.int .i64 (k1 : Int)) ∧ w'.cell? ⟨kb, ko + d, none⟩ = some (.int .i64 (k2 : Int)) ∧ Hid (Below wr.heap.size wr w')) ((first | exact S0 | exact S1 | exact S2)) (first
                | (go_at_call 40; obtain ⟨-, -, -, -, -, -, -, -, -, HWc⟩ := (by assumption : _ ∧ _ ∧ _ ∧ _ ∧ _ ∧ _ ∧ _ ∧ _ ∧ _ ∧ Hid (Below wr.heap.size wr _)); refine (g.out _).mono ?_; rintro e w' ⟨rfl, hb'⟩; have S1 := CEL.out w' (HWc.out.trans (hb'.mono HWc.out.size)); clear hb')
                | (go_at_call 41; obtain ⟨-, -, -, -, -, -, -, -, -, HWc⟩ := (by assumption : _ ∧ _ ∧ _ ∧ _ ∧ _ ∧ _ ∧ _ ∧ _ ∧ _ ∧ Hid (Below wr.heap.size wr _)); refine (my.out _ (HBW.out _ HWc.out)).mono ?_; rintro e w' ⟨rfl, hb'⟩; have S2 := CEL.out w' (HWc.out.trans (hb'.mono HWc.out.size)); clear hb'))
              obtain ⟨-, -, -, -, -, -, -, -, -, HWf⟩ := (by assumption : _ ∧ _ ∧ _ ∧ _ ∧ _ ∧ _ ∧ _ ∧ _ ∧ _ ∧ Hid (Below wr.heap.size wr _))
              have HBZ := Lib.hid (HBW.out _ HWf.out)
              go_wp2_with fail
              go_ret2
              exact ⟨rfl, HBZ.out⟩
          · have HN := Lib.hid (HANEXT.out (by rw [cl, decide_eq_false hg1]; rfl))
            have hg1i : ¬ (gv : Int) = 1 := by omega
            clear cl bad HANEXT my
            have hgf : ((gv : Int) == 1) = false := by simp; omega
            obtain ⟨c0, c1, c2, d0, d1, f1, f2, n1, n2, -⟩ := S0
            clear d0 d1 n1 n2
            replace hgf := Lib.hid hgf
            go_wp2_with fail
            go_region_with (go_at_call 40; refine (g.out _).mono ?_; rintro e w' ⟨rfl, hb'⟩; have HWZ := Lib.hid (HBN.out w' ((Below.refl _ wr).drew.trans hb')); clear hb'; go_wp2_with fail; refine take_at8 (i := 4) (d := 55) (v := .bool ((gv : Int) == 1)) rfl (by kernel_rfl) (by kernel_rfl) (by kernel_rfl) (by kernel_rfl) (fun _ _ _ h => h) (Or.inl ⟨by kernel_rfl, fun _ => rfl⟩) ?_; simp only [hgf.out]; refine take_at8 (i := 5) (d := 56) (v := .bool false) rfl (by kernel_rfl) (by kernel_rfl) (by kernel_rfl) (by kernel_rfl) (fun _ _ _ h => h) (Or.inl ⟨by kernel_rfl, fun _ => rfl⟩) ?_; refine take_at8 (i := 6) (d := 57) (v := undef) rfl (by kernel_rfl) (by kernel_rfl) (by kernel_rfl) (by kernel_rfl) (fun _ _ _ h => h) (Or.inr ⟨by kernel_rfl, rfl⟩) ?_; refine take_at8 (i := 7) (d := 58) (v := undef) rfl (by kernel_rfl) (by kernel_rfl) (by kernel_rfl) (by kernel_rfl) (fun _ _ _ h => h) (Or.inr ⟨by kernel_rfl, rfl⟩) ?_; refine take_at8 (i := 8) (d := 59) (v := undef) rfl (by kernel_rfl) (by kernel_rfl) (by kernel_rfl) (by kernel_rfl) (fun _ _ _ h => h) (Or.inr ⟨by kernel_rfl, rfl⟩) ?_; refine take_at8 (i := 9) (d := 60) (v := undef) rfl (by kernel_rfl) (by kernel_rfl) (by kernel_rfl) (by kernel_rfl) (fun _ _ _ h => h) (Or.inr ⟨by kernel_rfl, rfl⟩) ?_; refine take_at8 (i := 10) (d := 61) (v := undef) rfl (by kernel_rfl) (by kernel_rfl) (by kernel_rfl) (by kernel_rfl) (fun _ _ _ h => h) (Or.inr ⟨by kernel_rfl, rfl⟩) ?_; refine take_at8 (i := 11) (d := 62) (v := undef) rfl (by kernel_rfl) (by kernel_rfl) (by kernel_rfl) (by kernel_rfl) (fun _ _ _ h => h) (Or.inr ⟨by kernel_rfl, rfl⟩) ?_; refine take_at8 (i := 12) (d := 63) (v := undef) rfl (by kernel_rfl) (by kernel_rfl) (by kernel_rfl) (by kernel_rfl) (fun _ _ _ h => h) (Or.inr ⟨by kernel_rfl, rfl⟩) ?_; refine take_at8 (i := 13) (d := 64) (v := undef) rfl (by kernel_rfl) (by kernel_rfl) (by kernel_rfl) (by kernel_rfl) (fun _ _ _ h => h) (Or.inr ⟨by kernel_rfl, rfl⟩) ?_; refine take_at8 (i := 14) (d := 65) (v := undef) rfl (by kernel_rfl) (by kernel_rfl) (by kernel_rfl) (by kernel_rfl) (fun _ _ _ h => h) (Or.inr ⟨by kernel_rfl, rfl⟩) ?_; refine take_at8 (i := 15) (d := 66) (v := undef) rfl (by kernel_rfl) (by kernel_rfl) (by kernel_rfl) (by kernel_rfl) (fun _ _ _ h => h) (Or.inr ⟨by kernel_rfl, rfl⟩) ?_; refine take_at8 (i := 16) (d := 67) (v := undef) rfl (by kernel_rfl) (by kernel_rfl) (by kernel_rfl) (by kernel_rfl) (fun _ _ _ h => h) (Or.inr ⟨by kernel_rfl, rfl⟩) ?_; simp only [Act.put, List.setIfInBounds_toArray, List.set_cons_zero, List.set_cons_succ])
            all_goals
              go_wp2_with fail
              go_roundw
              case rel => exact ⟨d + 1, by omega, by go_num, HN, HWZ⟩
              case measure => simp [intOf]; omega
        · have hda : d = F := by omega
          subst hda
          have hno : ¬ (d : Int) < (d : Int) := by omega
          have HA2 : Hid (∀ i', i' < a + 1 → ∀ j', j' < d → C i' j' = false) := by
            show ∀ _, _
            intro c hc
            by_cases e : c = a
            · subst e; exact HD.out
            · exact HA.out c (by omega)
          go_wp2_with fail
          go_roundw
          case rel => exact ⟨a + 1, by omega, by go_num, HA2, HB3⟩
          case measure => simp [intOf]; omega
    · have haF : a = F := by omega
      subst haF
      have hno : ¬ (a : Int) < (a : Int) := by omega
      have hRt : R = true := HT.out HA.out
      subst hRt
      have HBZ := Lib.hid (HE2.out.bel.trans (HB.out.mono HE2.out.bel.size))
      go_wp2_with fail
      go_ret2
      exact ⟨rfl, HBZ.out⟩


theorem kindsFit_both (s0 : Int) (r0 : Bool) (xs0 : List Int) (u1 : Int) (xs1 : List Int) (xs2 : List Int) : ∃ (y0 : Bool) (y1 : Bool),
    (∀ (q0 q1 q2 : Option Addr) (c0 c1 c2 : Nat) (w : World) (lo0 hi0 lo1 hi1 lo2 hi2 : Nat), Ri lo0 hi0 w q0 xs0 → Ri lo1 hi1 w q1 xs1 → Ri lo2 hi2 w q2 xs2 → xs0.length ≤ 1048576 → xs1.length ≤ 1048576 → xs2.length ≤ 1048576 → Calls Try.prog 14 #[rowV s0 r0 q0 xs0.length c0, ruleV u1 q1 xs1.length c1, .slice q2 xs2.length c2] w fun e w' => e = .returned (.tuple #[.bool y0, .bool y1]) ∧ Below w.heap.size w w') ∧
    (∀ (q0 q1 q2 : Option Addr) (c0 c1 c2 : Nat) (w : World) (lo0 hi0 lo1 hi1 lo2 hi2 : Nat), Ri lo0 hi0 w q0 xs0 → Ri lo1 hi1 w q1 xs1 → Ri lo2 hi2 w q2 xs2 → xs0.length ≤ 1048576 → xs1.length ≤ 1048576 → xs2.length ≤ 1048576 → Calls Try.prog 17 #[rowV s0 r0 q0 xs0.length c0, ruleV u1 q1 xs1.length c1, .slice q2 xs2.length c2] w fun e w' => e = .returned (.tuple #[.bool y0, .bool y1]) ∧ Below w.heap.size w w') := by
  cases h : kinB s0 r0 xs0 u1 xs1 xs2 with
  | false => exact ⟨false, false, fun q0 q1 q2 c0 c1 c2 w _ _ _ _ _ _ h0 h1 h2 l0 l1 l2 => kindsFitS_bad s0 r0 q0 c0 xs0 u1 q1 c1 xs1 q2 c2 xs2 w _ _ _ _ _ _ h0 h1 h2 l0 l1 l2 h, fun q0 q1 q2 c0 c1 c2 w _ _ _ _ _ _ h0 h1 h2 l0 l1 l2 => kindsFitI_bad s0 r0 q0 c0 xs0 u1 q1 c1 xs1 q2 c2 xs2 w _ _ _ _ _ _ h0 h1 h2 l0 l1 l2 h⟩
  | true =>
    have hk := h
    unfold kinB at hk
    rw [Bool.and_eq_true, Bool.and_eq_true, Bool.and_eq_true, decide_eq_true_eq] at hk
    obtain ⟨n, S, rfl, rfl, h2, hn, h3⟩ := rowB_is hk.1.1
    obtain ⟨nk, rfl, hk1, hk3, hkl, -⟩ := ruleB_is hk.1.2
    obtain ⟨l, rfl, hlk⟩ := kindsB_is hk.2.2
    have hl : l.length = (tk n fun x => !S x).length := by
      have := tk_not n S
      have h4 := hk.2.1
      rw [ints_length, ints_length] at h4
      omega
    exact ⟨_, _, fun q0 q1 q2 c0 c1 c2 w _ _ _ _ _ _ h0 h1 h2 _ _ _ => kindsFitS_good n r0 q0 c0 S nk q1 c1 xs1 q2 c2 l w _ _ _ _ _ _ h0 h1 h2 hn hk3 hkl hl hlk h, fun q0 q1 q2 c0 c1 c2 w _ _ _ _ _ _ h0 h1 h2 _ _ _ => kindsFitI_good n r0 q0 c0 S nk q1 c1 xs1 q2 c2 l w _ _ _ _ _ _ h0 h1 h2 hn hk3 hkl hl hlk h⟩
end Go.Proofs.Ytlknghghefiokaa
