/- impl.InsertSeat, for every Row, all places and both marks; both functions give the same Row. -/
import Derived.Test.YtefbepebgmalpaaInsS
import Derived.Test.YtefbepebgmalpaaRowOf
import Derived.Test.YtefbepebgmalpaaInsert
import Derived.Deep.RegionHeld3
namespace Go.Proofs.Ytefbepebgmalpaa
open Go.RowKit

theorem ins_any (g n vb p : Nat) (S : Nat → Bool) (t : Bool) (w : World) (ho : OwnArr w g 4 (bv (bl n S))) (hv : OwnArr w vb 4 [.bool t]) (hn1 : 1 ≤ n) (hp : p ≤ n) (hn : n ≤ 24) :
    Calls Try.prog 48 #[.slice (some ⟨g, 0, none⟩) n n, .int .i64 p, .slice (some ⟨vb, 0, none⟩) 1 1] w fun e w' => ∃ q c, e = .returned (.slice (some ⟨q, 0, none⟩) (n + 1) c) ∧ Rd w.heap.size w'.heap.size w' (some ⟨q, 0, none⟩) (bv (bl (n + 1) (insS S p t))) ∧ Below w.heap.size w w' := by
  by_cases h : p = n
  · subst h; exact insert_end g p vb S t w ho hv hn1 hn
  · exact insert_mid g n vb p S t w ho hv (by omega) hn

set_option maxRecDepth 4000 in
set_option maxHeartbeats 1600000 in
theorem insI_bad (s : Int) (ring : Bool) (p : Option Addr) (cap : Nat) (xs : List Int) (a : Int) (t : Bool) (w : World) (lo hi : Nat) (hin : Ri lo hi w p xs) (hlen : xs.length ≤ 1048576) (h : placeB s ring xs a = false) :
    Calls Try.prog 25 #[rowV s ring p xs.length cap, .int .i64 a, .bool t] w (MadeRow w 0 false [] false) := by
  have hE := Beg.start w s ring p xs.length cap
  have RW := fun (w' : World) (h' : Below w.heap.size w w') => isRow_any s ring p cap xs w' lo hi (hin.below h' hin.top) hlen
  have HE := Lib.hid hE
  replace RW := Lib.hid RW
  clear hE hin
  unfold MadeRow
  unfold placeB at h
  cases hr : rowB s ring xs with
  | false =>
    rw [hr] at RW
    clear h hr
    go_enter Try.func25, Try.ntmps25
    go_wp2_with fail
    refine (RW.out _ HE.out.bel).mono ?_
    rintro e w1 ⟨rfl, hb1⟩
    have HE1 := Lib.hid (HE.out.next hb1)
    obtain ⟨z0, z1, z2, y0, y1, y2⟩ := HE1.out.res.three
    clear HE hb1 RW
    go_wp2_with fail
    exact ret_row2 Try.results25 rfl rfl (HE1.out.out _ _ _).1 rfl ⟨_, rfl, Out.none _ _, (HE1.out.out _ _ _).2⟩
  | true =>
    rw [hr] at RW h
    simp only [Bool.true_and] at h
    clear hr
    by_cases h1 : a < 0
    · clear h
      go_enter Try.func25, Try.ntmps25
      go_wp2_with fail
      refine (RW.out _ HE.out.bel).mono ?_
      rintro e w1 ⟨rfl, hb1⟩
      have HE1 := Lib.hid (HE.out.next hb1)
      obtain ⟨z0, z1, z2, y0, y1, y2⟩ := HE1.out.res.three
      obtain ⟨c0, c1, c2, -⟩ := HE1.out.row.three
      clear HE hb1 RW
      go_wp2_with fail
      exact ret_row2 Try.results25 rfl rfl (HE1.out.out _ _ _).1 rfl ⟨_, rfl, Out.none _ _, (HE1.out.out _ _ _).2⟩
    · have h2 : s < a := by
        have h3 : 0 ≤ a := by omega
        simp only [h3, decide_true, Bool.true_and, decide_eq_false_iff_not] at h
        omega
      clear h
      go_enter Try.func25, Try.ntmps25
      go_wp2_with fail
      refine (RW.out _ HE.out.bel).mono ?_
      rintro e w1 ⟨rfl, hb1⟩
      have HE1 := Lib.hid (HE.out.next hb1)
      obtain ⟨z0, z1, z2, y0, y1, y2⟩ := HE1.out.res.three
      obtain ⟨c0, c1, c2, -⟩ := HE1.out.row.three
      clear HE hb1 RW
      go_wp2_with fail
      exact ret_row2 Try.results25 rfl rfl (HE1.out.out _ _ _).1 rfl ⟨_, rfl, Out.none _ _, (HE1.out.out _ _ _).2⟩

set_option maxRecDepth 4000 in
set_option maxHeartbeats 4000000 in
theorem insI_any (n : Nat) (ring : Bool) (p : Option Addr) (cap : Nat) (S : Nat → Bool) (a : Nat) (t : Bool) (w : World) (lo hi : Nat) (hin : Ri lo hi w p (ints (tk n S))) (h2 : 2 ≤ n) (hn : n ≤ 24) (h3 : ring = true → 3 ≤ n) (ha : a ≤ n) (B : Bool) (hB : rowB ((n : Int) + 1) ring (ints (tk (n + 1) (insS S a t))) = B) :
    Calls Try.prog 25 #[rowV n ring p (ints (tk n S)).length cap, .int .i64 a, .bool t] w (MadeRow w (if B then (n : Int) + 1 else 0) (ring && B) (if B then ints (tk (n + 1) (insS S a t)) else []) B) := by
  have hlen := ints_tk_len n S
  have hE := Beg.start w n ring p (ints (tk n S)).length cap
  have RW := fun (w' : World) (h' : Below w.heap.size w w') => isRow_any n ring p cap (ints (tk n S)) w' lo hi (hin.below h' hin.top) (by omega)
  rw [rowB_of h2 hn h3] at RW
  have MK := Lib.hid (fun (w' : World) (h' : Below w.heap.size w w') => marksOf_any n ring p cap S w' lo hi (hin.below h' hin.top) hn)
  have SI := Lib.hid (fun (g vb : Nat) (w' : World) (h : OwnArr w' g 4 (bv (bl n S))) (h' : OwnArr w' vb 4 [.bool t]) => ins_any g n vb a S t w' h h' (by omega) ha hn)
  have RO := fun (q : Option Addr) (c : Nat) (w' : World) (l h' : Nat) (h : Rd l h' w' q (bv (bl (n + 1) (insS S a t)))) => rowOf_any (n + 1) ring q c (insS S a t) w' l h' h (by omega) B (by rw [← hB]; push_cast; rfl)
  have ec : ((n + 1 : Nat) : Int) = (n : Int) + 1 := by omega
  rw [ec] at RO
  have HLT := Lib.hid (ints_tk_len (n + 1) (insS S a t))
  obtain ⟨LT, hLT⟩ : ∃ LT, ints (tk (n + 1) (insS S a t)) = LT := ⟨_, rfl⟩
  rw [hLT] at RO HLT ⊢
  have HE := Lib.hid hE
  replace RW := Lib.hid RW
  replace RO := Lib.hid RO
  clear hE hin hlen h3 ec hB hLT
  obtain ⟨m, hm⟩ : ∃ m, (ints (tk n S)).length = m := ⟨_, rfl⟩
  rw [hm] at HE RW MK ⊢
  clear hm
  have k1 : ¬ (a : Int) < 0 := by omega
  have k2 : ¬ (n : Int) < (a : Int) := by omega
  unfold MadeRow
  cases B with
  | true =>
    go_enter Try.func25, Try.ntmps25
    go_wp2_with fail
    refine (RW.out _ HE.out.bel).mono ?_
    rintro e w1 ⟨rfl, hb1⟩
    have HEP := Lib.hid (HE.out.next hb1)
    have HE1 : Hid (Beg w n ring p m cap w1.drew) := by show Beg _ _ _ _ _ _ _; exact HEP.out.next ((Below.refl _ _).drew)
    have HE1B : Hid (Beg w n ring p m cap (w1.alloc (.cells #[.bool t] 4)).drew) := by show Beg _ _ _ _ _ _ _; exact HEP.out.next (((Below.refl _ _).alloc (Nat.le_refl _) _).drew)
    have HLB : Hid (OwnArr (w1.alloc (.cells #[.bool t] 4)).drew w1.heap.size 4 [.bool t]) := OwnArr.made w1 _ [_]
    clear HE hb1 RW
    obtain ⟨c0, c1, c2, -⟩ := HEP.out.row.three
    go_wp2_with fail
    clear c0 c1 c2
    obtain ⟨c0, c1, c2, -⟩ := HE1.out.row.three
    obtain ⟨b0, b1, b2, -⟩ := HE1B.out.row.three
    go_region_held3 (fun w' => w'.cell? ⟨w.heap.size, 0, none⟩ = some (.int .i64 n) ∧ w'.cell? ⟨w.heap.size, 1, none⟩ = some (.bool ring) ∧ w'.cell? ⟨w.heap.size, 2, none⟩ = some (.slice p m cap)) ((first | exact ⟨c0, c1, c2⟩ | exact ⟨b0, b1, b2⟩ | exact ⟨d0, d1, d2⟩ | exact ⟨e0, e1, e2⟩ | exact ⟨k0, k1, k2⟩ | go_keep)) (first
      | (go_at_call 33; refine (MK.out _ HE1.out.bel).mono ?_; rintro e w3 ⟨g, rfl, hg, hO, hb3⟩; have HE3 := Lib.hid (HE1.out.next hb3); have HO := Lib.hid hO; have HL := Lib.hid (True.intro); obtain ⟨d0, d1, d2, -⟩ := HE3.out.row.three; clear hO hb3 hg)
      | (go_at_call 33; refine (MK.out _ HE1B.out.bel).mono ?_; rintro e w3 ⟨g, rfl, hg, hO, hb3⟩; have HE3 := Lib.hid (HE1B.out.next hb3); have HO := Lib.hid hO; have HL := Lib.hid (HLB.out.below hb3 HLB.out.lt); obtain ⟨d0, d1, d2, -⟩ := HE3.out.row.three; clear hO hb3 hg)
      | (go_at_call 48; refine (SI.out _ _ _ HO.out HL.out).mono ?_; rintro e w4 ⟨q, qc, rfl, hR, hb4⟩; have HE4 := Lib.hid (HE3.out.next hb4); have HR := Lib.hid hR; obtain ⟨e0, e1, e2, -⟩ := HE4.out.row.three; clear hR hb4)
      | (go_at_call 48; refine (SI.out _ _ _ (HO.out.alloc (.cells #[.bool t] 4)) (OwnArr.made w3 _ [_])).mono ?_; rintro e w4 ⟨q, qc, rfl, hR, hb4⟩; have HE4 := Lib.hid ((HE3.out.next ((Below.refl _ _).alloc (Nat.le_refl _) (.cells #[.bool t] 4))).next hb4); have HR := Lib.hid hR; obtain ⟨e0, e1, e2, -⟩ := HE4.out.row.three; clear hR hb4)
      | (go_at_call 34; refine (RO.out _ _ _ _ _ HR.out).mono ?_; rintro e w5 ⟨v, rfl, hO5, hb5⟩; have HE5 := Lib.hid (HE4.out.next hb5); obtain ⟨qv, qc2, rfl, -⟩ := (hO5 trivial).rd; have HO5 := Lib.hid ((hO5 trivial).mono HE4.out.bel.size); obtain ⟨k0, k1, k2, -⟩ := HE5.out.row.three; obtain ⟨z0, z1, z2, y0, y1, y2⟩ := HE5.out.res.three; clear hO5 hb5))
    all_goals
      go_wp2_with fail
      exact ret_row2 Try.results25 rfl rfl (HE5.out.out _ _ _).1 rfl ⟨_, by simp, HO5.out.boxed HE5.out.res _ _ _, (HE5.out.out _ _ _).2⟩
  | false =>
    go_enter Try.func25, Try.ntmps25
    go_wp2_with fail
    refine (RW.out _ HE.out.bel).mono ?_
    rintro e w1 ⟨rfl, hb1⟩
    have HEP := Lib.hid (HE.out.next hb1)
    have HE1 : Hid (Beg w n ring p m cap w1.drew) := by show Beg _ _ _ _ _ _ _; exact HEP.out.next ((Below.refl _ _).drew)
    have HE1B : Hid (Beg w n ring p m cap (w1.alloc (.cells #[.bool t] 4)).drew) := by show Beg _ _ _ _ _ _ _; exact HEP.out.next (((Below.refl _ _).alloc (Nat.le_refl _) _).drew)
    have HLB : Hid (OwnArr (w1.alloc (.cells #[.bool t] 4)).drew w1.heap.size 4 [.bool t]) := OwnArr.made w1 _ [_]
    clear HE hb1 RW
    obtain ⟨c0, c1, c2, -⟩ := HEP.out.row.three
    go_wp2_with fail
    clear c0 c1 c2
    obtain ⟨c0, c1, c2, -⟩ := HE1.out.row.three
    obtain ⟨b0, b1, b2, -⟩ := HE1B.out.row.three
    go_region_held3 (fun w' => w'.cell? ⟨w.heap.size, 0, none⟩ = some (.int .i64 n) ∧ w'.cell? ⟨w.heap.size, 1, none⟩ = some (.bool ring) ∧ w'.cell? ⟨w.heap.size, 2, none⟩ = some (.slice p m cap)) ((first | exact ⟨c0, c1, c2⟩ | exact ⟨b0, b1, b2⟩ | exact ⟨d0, d1, d2⟩ | exact ⟨e0, e1, e2⟩ | exact ⟨k0, k1, k2⟩ | go_keep)) (first
      | (go_at_call 33; refine (MK.out _ HE1.out.bel).mono ?_; rintro e w3 ⟨g, rfl, hg, hO, hb3⟩; have HE3 := Lib.hid (HE1.out.next hb3); have HO := Lib.hid hO; have HL := Lib.hid (True.intro); obtain ⟨d0, d1, d2, -⟩ := HE3.out.row.three; clear hO hb3 hg)
      | (go_at_call 33; refine (MK.out _ HE1B.out.bel).mono ?_; rintro e w3 ⟨g, rfl, hg, hO, hb3⟩; have HE3 := Lib.hid (HE1B.out.next hb3); have HO := Lib.hid hO; have HL := Lib.hid (HLB.out.below hb3 HLB.out.lt); obtain ⟨d0, d1, d2, -⟩ := HE3.out.row.three; clear hO hb3 hg)
      | (go_at_call 48; refine (SI.out _ _ _ HO.out HL.out).mono ?_; rintro e w4 ⟨q, qc, rfl, hR, hb4⟩; have HE4 := Lib.hid (HE3.out.next hb4); have HR := Lib.hid hR; obtain ⟨e0, e1, e2, -⟩ := HE4.out.row.three; clear hR hb4)
      | (go_at_call 48; refine (SI.out _ _ _ (HO.out.alloc (.cells #[.bool t] 4)) (OwnArr.made w3 _ [_])).mono ?_; rintro e w4 ⟨q, qc, rfl, hR, hb4⟩; have HE4 := Lib.hid ((HE3.out.next ((Below.refl _ _).alloc (Nat.le_refl _) (.cells #[.bool t] 4))).next hb4); have HR := Lib.hid hR; obtain ⟨e0, e1, e2, -⟩ := HE4.out.row.three; clear hR hb4)
      | (go_at_call 34; refine (RO.out _ _ _ _ _ HR.out).mono ?_; rintro e w5 ⟨v, rfl, hO5, hb5⟩; have HE5 := Lib.hid (HE4.out.next hb5);  obtain ⟨k0, k1, k2, -⟩ := HE5.out.row.three; obtain ⟨z0, z1, z2, y0, y1, y2⟩ := HE5.out.res.three; clear hO5 hb5))
    all_goals
      go_wp2_with fail
      exact ret_row2 Try.results25 rfl rfl (HE5.out.out _ _ _).1 rfl ⟨_, by simp, Out.none _ _, (HE5.out.out _ _ _).2⟩

theorem insertSeat_both (s : Int) (ring : Bool) (xs : List Int) (a : Int) (b : Bool) : ∃ (s' : Int) (ring' : Bool) (L : List Int) (B : Bool), L.length ≤ 24 ∧
    (∀ (p : Option Addr) (cap : Nat) (w : World) (lo hi : Nat), Ri lo hi w p xs → xs.length ≤ 1048576 → Calls Try.prog 24 #[rowV s ring p xs.length cap, .int .i64 a, .bool b] w (MadeRow w s' ring' L B)) ∧
    (∀ (p : Option Addr) (cap : Nat) (w : World) (lo hi : Nat), Ri lo hi w p xs → xs.length ≤ 1048576 → Calls Try.prog 25 #[rowV s ring p xs.length cap, .int .i64 a, .bool b] w (MadeRow w s' ring' L B)) := by
  cases h : placeB s ring xs a with
  | true =>
    have h' := h
    unfold placeB at h'
    simp only [Bool.and_eq_true, decide_eq_true_eq] at h'
    obtain ⟨h1, h4, h5⟩ := h'
    obtain ⟨n, S, rfl, rfl, h2, hn, h3⟩ := rowB_is h1
    obtain ⟨k, rfl⟩ : ∃ k : Nat, a = k := ⟨a.toNat, by omega⟩
    obtain ⟨B, hB⟩ : ∃ B, rowB ((n : Int) + 1) ring (ints (tk (n + 1) (insS S k b))) = B := ⟨_, rfl⟩
    refine ⟨_, _, _, B, ?_,
      fun p cap w lo hi hin _ => insS_any n ring p cap S k b w lo hi hin h2 hn h3 (by omega) B hB,
      fun p cap w lo hi hin _ => insI_any n ring p cap S k b w lo hi hin h2 hn h3 (by omega) B hB⟩
    cases B with
    | false => simp
    | true =>
      have := ints_tk_len (n + 1) (insS S k b)
      have h6 : (n : Int) + 1 ≤ 24 := by
        unfold rowB at hB
        simp only [Bool.and_eq_true, decide_eq_true_eq] at hB
        exact hB.2.1
      show (ints (tk (n + 1) (insS S k b))).length ≤ 24
      omega
  | false =>
    exact ⟨0, false, [], false, by simp,
      fun p cap w lo hi hin hl => insS_bad s ring p cap xs a b w lo hi hin hl h,
      fun p cap w lo hi hin hl => insI_bad s ring p cap xs a b w lo hi hin hl h⟩
end Go.Proofs.Ytefbepebgmalpaa
