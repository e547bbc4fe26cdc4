/- Chapter 5: impl.AllSeatings; both sides. -/
import Derived.Test.YtkbpfjhikabbmaaAllB5
namespace Go.Proofs.Ytkbpfjhikabbmaa
open Go.RowKit

set_option maxRecDepth 4000 in
set_option maxHeartbeats 1000000 in
theorem allI_any (n k : Int) (w : World) : Calls Try.prog 7 #[.int .i64 n, .int .i64 k] w (IAll (allR n k) (allB n k) w) := by
  have V := fun w' => isValid_any n k w'
  have HP0 : Hid (OwnArr (w.alloc (planeB n k)) w.heap.size 42 [.int .i64 n, .int .i64 k]) := OwnArr.made w _ [_, _]
  have HK0 : Hid (KeepP (fun _ => False) w (w.alloc (planeB n k))) := (KeepP.refl _ w).alloc _
  have HB0 : Hid (Below w.heap.size w (w.alloc (planeB n k))) := (Below.refl _ _).alloc (Nat.le_refl _) _
  have HS0 : Hid ((w.alloc (planeB n k)).heap.size = w.heap.size + 1) := World.size_alloc _ _
  obtain ⟨a0, a1⟩ := box_plane HP0.out
  have HN := Lib.hid (show ∀ w1 : World, Below w.heap.size w w1 → IAll [] false w (.returned (.tuple #[.slice (some ⟨w1.heap.size, 0, none⟩) 0 0, .bool false])) (w1.alloc (.cells #[] 33)) from fun w1 hb => by
    have hs := hb.size
    have hs2 : (w1.alloc (.cells #[] 33)).heap.size = w1.heap.size + 1 := World.size_alloc _ _
    exact ⟨some ⟨w1.heap.size, 0, none⟩, 0, w1.heap.size, fun _ => 0, fun _ => 0, rfl, ⟨[], Rd.nil _ _ _ _ (Nat.le_refl _), rfl, fun i x hx => by simp at hx⟩, ⟨Rd.nil _ _ _ _ (by omega), by omega, Nat.le_refl _, fun i hi => by simp [lens] at hi, fun i hi => by simp [lens] at hi, fun i j hi => by simp [lens] at hi⟩, hb.alloc hs _⟩)
  unfold allR
  cases hg : good5 n k with
  | false =>
    have hb : allB n k = false := by unfold allB; rw [hg]; rfl
    rw [hb, if_neg (by simp)]
    rw [hg] at V
    replace V := Lib.hid V
    clear hg hb HK0
    go_enter Try.func7, Try.ntmps7
    go_wp2_with fail
    refine (V.out _).mono ?_
    rintro e w1 ⟨rfl, hb1⟩
    have HB1 := Lib.hid (HB0.out.trans (hb1.mono (by rw [HS0.out]; omega)))
    clear hb1
    go_wp2_with fail
    go_ret2
    exact HN.out w1 HB1.out
  | true =>
    rw [hg] at V
    replace V := Lib.hid V
    by_cases h7 : (7 : Int) < n
    · have hb : allB n k = false := by unfold allB; rw [hg]; simp; omega
      rw [hb, if_neg (by simp)]
      clear hg hb HK0
      go_enter Try.func7, Try.ntmps7
      go_wp2_with fail
      refine (V.out _).mono ?_
      rintro e w1 ⟨rfl, hb1⟩
      have HB1 := Lib.hid (HB0.out.trans (hb1.mono (by rw [HS0.out]; omega)))
      clear hb1
      go_wp2_with fail
      go_ret2
      exact HN.out w1 HB1.out
    · have hb : allB n k = true := by unfold allB; rw [hg]; simp; omega
      obtain ⟨a, b, rfl, rfl, h1, h2, -⟩ := allB_is hb
      rw [hb, if_pos rfl]
      have GA := Lib.hid (fun (w' : World) bb pb hk hp hB hpb hbb => gathered_any a b h1 h2 w w' bb pb hk hp hB hpb hbb)
      obtain ⟨L, hL⟩ : ∃ L, seatM a b a [] = L := ⟨_, rfl⟩
      rw [hL] at GA
      rw [show ((a : Int)).toNat = a from rfl, show ((b : Int)).toNat = b from rfl, hL]
      clear hg hb hL HN
      go_enter Try.func7, Try.ntmps7
      go_wp2_with fail
      refine (V.out _).mono ?_
      rintro e w1 ⟨rfl, hb1⟩
      have HB1 := Lib.hid (HB0.out.trans (hb1.mono (by rw [HS0.out]; omega)))
      have hp1 := HP0.out.below hb1 HP0.out.lt
      obtain ⟨b0, b1⟩ := box_plane hp1
      have HK1 := Lib.hid (HK0.out.same (Below.keepP hb1))
      clear hb1 hp1 a0 a1
      go_wp2_with fail
      refine (seatingsFrom_any _ _ _ _ _ _).mono ?_
      rintro e w2 ⟨rfl, hw2⟩
      have hs1 := HB1.out.size
      have hk2 : KeepP (fun _ => False) w w2 := by rw [hw2]; exact (HK1.out.alloc _).alloc _
      have hP2 : OwnArr w2 w1.heap.size 42 [.int .i64 (a : Nat), .int .i64 (b : Nat)] := by rw [hw2]; exact (OwnArr.made w1 _ [_, _]).alloc _
      have hB2 : OwnArr w2 (w1.heap.size + 1) 33 [.slice none 0 0] := by
        have h := OwnArr.made (w1.alloc (planeB (a : Int) (b : Int))) 33 [.slice none 0 0]
        rw [World.size_alloc] at h
        rw [hw2]; exact h
      have G := Lib.hid (GA.out w2 (w1.heap.size + 1) w1.heap.size hk2 hP2 hB2 hs1 (by omega))
      clear GA hk2 hP2 hB2 hw2 hs1
      go_wp2_with fail
      refine G.out.mono ?_
      rintro e w3 ⟨v, bs, cs, rfl, hv, hlt3, hb3⟩
      obtain ⟨p, c, g, rfl, hr, ho⟩ := hv.own hlt3
      have HF : Hid (IAll L true w (.returned (.tuple #[.slice p L.length c, .bool true])) w3) := ⟨_, _, _, _, _, rfl, hr, ho, hb3⟩
      clear hv hr ho hb3 hlt3
      go_wp2_with fail
      go_ret2
      exact HF.out

theorem cho_n {n k : Nat} (bs : List Int) (h1 : 1 ≤ n) : (choM n k bs).length ≤ n := by
  unfold choM
  split
  · simpa using h1
  · exact tk_length_le n _
theorem seat_lenN {n k : Nat} (h1 : 1 ≤ n) : ∀ d bs, (seatM n k d bs).length ≤ n ^ d
  | 0, bs => by simp [seatM]
  | d + 1, bs => by
    have h := flat_le (f := fun (c : Nat) => seatM n k d (bs ++ [(c : Int)])) (K := n ^ d) (l := choM n k bs) (fun x _ => seat_lenN h1 d _)
    show ((choM n k bs).flatMap _).length ≤ _
    refine Nat.le_trans h ?_
    rw [Nat.pow_succ, Nat.mul_comm]
    exact Nat.mul_le_mul_left _ (cho_n bs h1)
theorem seat_each {n k : Nat} : ∀ d bs, ∀ x ∈ seatM n k d bs, x.length = bs.length + d
  | 0, bs, x, hx => by simp only [seatM, List.mem_singleton] at hx; rw [hx]; rfl
  | d + 1, bs, x, hx => by
    have hx' : x ∈ (choM n k bs).flatMap (fun (c : Nat) => seatM n k d (bs ++ [(c : Int)])) := hx
    obtain ⟨c, -, hc⟩ := List.mem_flatMap.1 hx'
    have := seat_each d _ x hc
    rw [List.length_append, List.length_singleton] at this
    omega
theorem sum_each {m : Nat} : ∀ {Ls : List (List Int)}, (∀ x ∈ Ls, x.length = m) → sumS (lens Ls) = Ls.length * m
  | [], _ => by simp [lens, sumS]
  | x :: Ls, h => by
    show sumS (x.length :: lens Ls) = _
    rw [sumS_cons, sum_each (fun y hy => h y (List.mem_cons_of_mem _ hy)), h x (List.mem_cons_self ..), List.length_cons, Nat.add_mul, Nat.one_mul]
    omega
theorem allR_size (n k : Int) : (allR n k).length ≤ 1048576 ∧ (∀ x ∈ allR n k, x.length ≤ 1048576) ∧ 1 + sumS (lens (allR n k)) ≤ 10000000 := by
  unfold allR
  cases hb : allB n k with
  | false => rw [if_neg (by simp)]; simp [lens, sumS]
  | true =>
    obtain ⟨a, b, rfl, rfl, h1, h2, -⟩ := allB_is hb
    rw [if_pos rfl, show ((a : Int)).toNat = a from rfl, show ((b : Int)).toNat = b from rfl]
    have hl := seat_lenN (n := a) (k := b) h1 a []
    have he := seat_each (n := a) (k := b) a []
    have hp : a ^ a ≤ 823543 := Nat.le_trans (Nat.pow_le_pow_left h2 a) (Nat.le_trans (Nat.pow_le_pow_right (by omega) h2) (by decide))
    have hs := sum_each (m := a) (Ls := seatM a b a []) (fun x hx => by have := he x hx; simpa using this)
    refine ⟨by omega, fun x hx => by have := he x hx; simp at this; omega, ?_⟩
    rw [hs]
    have h7 : (seatM a b a []).length * a ≤ 823543 * 7 := Nat.mul_le_mul (by omega) h2
    omega
theorem allSeatings_both (n k : Int) : ∃ (Ls : List (List Int)) (B : Bool), Ls.length ≤ 1048576 ∧ (∀ x ∈ Ls, x.length ≤ 1048576) ∧ 1 + sumS (lens Ls) ≤ 10000000 ∧
    (∀ w, Calls Try.prog 6 #[.int .i64 n, .int .i64 k] w (SAll Ls B w)) ∧ (∀ w, Calls Try.prog 7 #[.int .i64 n, .int .i64 k] w (IAll Ls B w)) :=
  ⟨allR n k, allB n k, (allR_size n k).1, (allR_size n k).2.1, (allR_size n k).2.2, fun w => allS_any n k w, fun w => allI_any n k w⟩
end Go.Proofs.Ytkbpfjhikabbmaa
