/- impl.TurnSeats, for every Row and all numbers; both functions give the same Row. -/
import Derived.Test.YtefbepebgmalpaaTurn
import Derived.Test.YtefbepebgmalpaaRowOf
import Derived.Test.YtefbepebgmalpaaRound
import Derived.Deep.RegionHeld3
namespace Go.Proofs.Ytefbepebgmalpaa
open Go.RowKit

set_option maxRecDepth 4000 in
set_option maxHeartbeats 2000000 in
theorem turnI_bad (s : Int) (ring : Bool) (p : Option Addr) (cap : Nat) (xs : List Int) (k : Int) (w : World) (lo hi : Nat) (hin : Ri lo hi w p xs) (hlen : xs.length ≤ 1048576) (h : (seatB s ring xs k && ring) = false) :
    Calls Try.prog 19 #[rowV s ring p xs.length cap, .int .i64 k] w (MadeRow w 0 false [] false) := by
  have hE := Beg.start w s ring p xs.length cap
  have I := fun (w' : World) (h' : Below w.heap.size w w') => isSeatOf_any s ring p cap xs k w' lo hi (hin.below h' hin.top) hlen
  have HE := Lib.hid hE
  replace I := Lib.hid I
  clear hE hin
  unfold MadeRow
  obtain ⟨c0, c1, c2, -⟩ := HE.out.row.three
  cases ring with
  | false =>
    obtain ⟨z0, z1, z2, y0, y1, y2⟩ := HE.out.res.three
    go_enter Try.func19, Try.ntmps19
    go_wp2_with fail
    exact ret_row2 Try.results19 rfl rfl HE.out.res rfl ⟨_, rfl, Out.none _ _, HE.out.bel⟩
  | true =>
    simp only [Bool.and_true] at h
    rw [h] at I
    go_enter Try.func19, Try.ntmps19
    go_wp2_with fail
    refine (I.out _ HE.out.bel).mono ?_
    rintro e w1 ⟨rfl, hb1⟩
    have HE1 := Lib.hid (HE.out.next hb1)
    obtain ⟨z0, z1, z2, y0, y1, y2⟩ := HE1.out.res.three
    clear HE hb1 I c0 c1 c2
    go_wp2_with fail
    exact ret_row2 Try.results19 rfl rfl (HE1.out.out _ _ _).1 rfl ⟨_, rfl, Out.none _ _, (HE1.out.out _ _ _).2⟩

set_option maxRecDepth 4000 in
set_option maxHeartbeats 4000000 in
theorem turnI_any (n : Nat) (p : Option Addr) (cap : Nat) (S : Nat → Bool) (b : Nat) (w : World) (lo hi : Nat) (hin : Ri lo hi w p (ints (tk n S))) (h2 : 2 ≤ n) (hn : n ≤ 24) (h3 : 3 ≤ n) (hb : b < n) :
    Calls Try.prog 19 #[rowV n true p (ints (tk n S)).length cap, .int .i64 b] w (MadeRow w n true (ints (tk n fun i => S ((i + n - b) % n))) true) := by
  have hlen := ints_tk_len n S
  have hE := Beg.start w n true p (ints (tk n S)).length cap
  have I := fun (w' : World) (h' : Below w.heap.size w w') => isSeatOf_any n true p cap (ints (tk n S)) b w' lo hi (hin.below h' hin.top) (by omega)
  have hv : seatB n true (ints (tk n S)) b = true := by
    unfold seatB
    rw [rowB_of h2 hn (fun _ => h3)]
    simp
    omega
  rw [hv] at I
  have MK := Lib.hid (fun (w' : World) (h' : Below w.heap.size w w') => marksOf_any n true p cap S w' lo hi (hin.below h' hin.top) hn)
  have RF := fun (g : Nat) (w' : World) (h : OwnArr w' g 4 (bv (bl n S))) => roundFrom_any g n n (n - b) n S w' h (by omega) hn (by omega) (by omega)
  have e0 : ((n - b : Nat) : Int) = (n : Int) - (b : Int) := by omega
  have e9 : IntKind.i64.wrap ((n : Int) - (b : Int)) = (n : Int) - (b : Int) := IntWalk.i64_in _ (by omega)
  rw [e0] at RF
  have hT0 : (fun i => S ((n - b + i) % n)) = (fun i => S ((i + n - b) % n)) := by
    funext i
    congr 2
    omega
  rw [hT0] at RF
  have RO := Lib.hid (fun (q : Option Addr) (w' : World) (l h' : Nat) (h : Rd l h' w' q (bv (bl n fun i => S ((i + n - b) % n)))) => rowOf_any n true q n (fun i => S ((i + n - b) % n)) w' l h' h (by omega) true (rowB_of h2 hn (fun _ => h3)))
  obtain ⟨T, hT⟩ : ∃ T : Nat → Bool, (fun i => S ((i + n - b) % n)) = T := ⟨_, rfl⟩
  rw [hT] at RF RO ⊢
  have HE := Lib.hid hE
  replace I := Lib.hid I
  replace RF := Lib.hid RF
  clear hE hin hv hlen hT hT0 e0
  obtain ⟨m, hm⟩ : ∃ m, (ints (tk n S)).length = m := ⟨_, rfl⟩
  rw [hm] at HE I MK ⊢
  clear hm
  obtain ⟨c0, c1, c2, -⟩ := HE.out.row.three
  unfold MadeRow
  go_enter Try.func19, Try.ntmps19
  go_wp2_with fail
  refine (I.out _ HE.out.bel).mono ?_
  rintro e w1 ⟨rfl, hb1⟩
  have HE1 : Hid (Beg w n true p m cap w1.drew) := by show Beg _ _ _ _ _ _ _; exact (HE.out.next hb1).next ((Below.refl _ _).drew)
  clear HE hb1 I c0 c1 c2
  obtain ⟨c0, c1, c2, -⟩ := HE1.out.row.three
  go_wp2_with fail
  go_region_held3 (fun w' => w'.cell? ⟨w.heap.size, 0, none⟩ = some (.int .i64 n) ∧ w'.cell? ⟨w.heap.size, 1, none⟩ = some (.bool true) ∧ w'.cell? ⟨w.heap.size, 2, none⟩ = some (.slice p m cap)) ((first | exact ⟨c0, c1, c2⟩ | exact ⟨d0, d1, d2⟩ | exact ⟨e0, e1, e2⟩ | exact ⟨k0, k1, k2⟩ | go_keep)) (first
    | (go_at_call 33; refine (MK.out _ HE1.out.bel).mono ?_; rintro e w3 ⟨g, rfl, hg, hO, hb3⟩; have HE3 := Lib.hid (HE1.out.next hb3); have HO := Lib.hid hO; have HG : Hid (w.heap.size + 2 ≤ g) := (by show _ ≤ _; have := HE1.out.res.lt; omega); obtain ⟨d0, d1, d2, -⟩ := HE3.out.row.three; clear hO hb3 hg)
    | (go_at_call 44; refine (RF.out _ _ HO.out).mono ?_; rintro e w4 ⟨q, rfl, hR, hb4⟩; have HE4 := Lib.hid (HE3.out.next hb4); have HR := Lib.hid hR; obtain ⟨e0, e1, e2, -⟩ := HE4.out.row.three; clear hR hb4)
    | (go_at_call 34; refine (RO.out _ _ _ _ HR.out).mono ?_; rintro e w5 ⟨v, rfl, hO5, hb5⟩; obtain ⟨qv, qc, rfl, -⟩ := (hO5 trivial).rd; have HO5 := Lib.hid ((hO5 trivial).mono HE4.out.bel.size); have HE5 := Lib.hid (HE4.out.next hb5); obtain ⟨k0, k1, k2, -⟩ := HE5.out.row.three; obtain ⟨z0, z1, z2, y0, y1, y2⟩ := HE5.out.res.three; clear hO5 hb5))
  all_goals
    go_wp2_with fail
    exact ret_row2 Try.results19 rfl rfl (HE5.out.out _ _ _).1 rfl ⟨_, rfl, HO5.out.boxed HE5.out.res _ _ _, (HE5.out.out _ _ _).2⟩

theorem turnSeats_both (s : Int) (ring : Bool) (xs : List Int) (a : Int) : ∃ (s' : Int) (ring' : Bool) (L : List Int) (B : Bool), L.length ≤ 24 ∧
    (∀ (p : Option Addr) (cap : Nat) (w : World) (lo hi : Nat), Ri lo hi w p xs → xs.length ≤ 1048576 → Calls Try.prog 18 #[rowV s ring p xs.length cap, .int .i64 a] w (MadeRow w s' ring' L B)) ∧
    (∀ (p : Option Addr) (cap : Nat) (w : World) (lo hi : Nat), Ri lo hi w p xs → xs.length ≤ 1048576 → Calls Try.prog 19 #[rowV s ring p xs.length cap, .int .i64 a] w (MadeRow w s' ring' L B)) := by
  cases h : (seatB s ring xs a && ring) with
  | true =>
    have h' := h
    simp only [Bool.and_eq_true] at h'
    obtain ⟨h', rfl⟩ := h'
    obtain ⟨n, S, k, rfl, rfl, rfl, hk, h2, hn, h3⟩ := seat_is h'
    exact ⟨n, true, ints (tk n fun i => S ((i + n - k) % n)), true, by have := ints_tk_len n (fun i => S ((i + n - k) % n)); omega,
      fun p cap w lo hi hin _ => turnS_any n p cap S k w lo hi hin h2 hn (h3 rfl) hk,
      fun p cap w lo hi hin _ => turnI_any n p cap S k w lo hi hin h2 hn (h3 rfl) hk⟩
  | false =>
    exact ⟨0, false, [], false, by simp,
      fun p cap w lo hi hin hl => turnS_bad s ring p cap xs a w lo hi hin hl h,
      fun p cap w lo hi hin hl => turnI_bad s ring p cap xs a w lo hi hin hl h⟩
end Go.Proofs.Ytefbepebgmalpaa
