/- Chapter 5: AllSeatings on both sides. -/
import Derived.Test.YtkbpfjhikabbmaaAqI5
import Derived.Test.YtkbpfjhikabbmaaAll5
import Derived.Test.YtkbpfjhikabbmaaOwnP
import Derived.Test.YtkbpfjhikabbmaaSSto
namespace Go.Proofs.Ytkbpfjhikabbmaa
open Go.RowKit

theorem lens_at (Ls : List (List Int)) (i : Nat) : (lens Ls)[i]?.getD 0 = (Ls[i]?.getD []).length := by
  unfold lens
  rw [List.getElem?_map]
  cases Ls[i]? <;> rfl

/-- lists of lists are read -/
theorem LL.rds {lo B1 B2 : Nat} {w : World} {v : Value} {Ls : List (List Int)} (h : LL B1 B2 w v Ls) (h1 : lo ≤ B1) (h2 : lo ≤ B2) : ∃ p c, v = .slice p Ls.length c ∧ RdS lo w.heap.size w p Ls := by
  obtain ⟨g, c, vs, e, hr, hg, hi⟩ := h
  obtain ⟨p, cap, e2, -, -, hrd, -⟩ := rd_ownsRow hr
  have hvl : vs.length = Ls.length := by have := hr.1; omega
  refine ⟨p, cap, e2, vs, hrd.mono h2 (Nat.le_refl _) (Nat.le_refl _), hvl, fun i x hx => ?_⟩
  obtain ⟨u, hu, -, ho⟩ := hi i x hx
  obtain ⟨q, c', rfl, -, -, hq, -⟩ := Out.rd ho
  exact ⟨q, c', hu, hq.mono h1 (Nat.le_refl _) (Nat.le_refl _)⟩

theorem YL.ri {W : World} {xb : Nat} {x : List Int} (h : YL W xb x) {lo hi : Nat} (h1 : lo ≤ xb) (h2 : xb < hi) (h3 : hi ≤ W.heap.size) : Ri lo hi W (some ⟨xb, 0, none⟩) x := by
  refine ⟨h3, fun _ => ⟨xb, 0, rfl, h1, h2, fun i hi => ?_⟩⟩
  rw [iv_length] at hi
  rw [Nat.zero_add, iv_get hi]
  exact h.1 i hi

/-- what was gathered is read, and may be written -/
theorem GotV.own {B : Nat} {W : World} {Ls : List (List Int)} {v : Value} {bs cs : Nat → Nat} (h : GotV B W Ls v bs cs) (hB : B < W.heap.size) : ∃ p c g, v = .slice p Ls.length c ∧ RdS B W.heap.size W p Ls ∧ OwnS B W.heap.size W p (lens Ls) g bs cs := by
  obtain ⟨p, cap, e, -, -, hrd, -⟩ := rd_ownsRow h.row
  have hlt : ∀ i x, Ls[i]? = some x → bs i < W.heap.size := fun i x hx => by
    obtain ⟨⟨-, ys, ho, -⟩, -⟩ := h.inn i x hx
    exact ho.lt
  have hsome : ∀ i, i < (lens Ls).length → ∃ x, Ls[i]? = some x ∧ (lens Ls)[i]?.getD 0 = x.length := fun i hi => by
    rw [lens_len] at hi
    exact ⟨Ls[i], List.getElem?_eq_getElem hi, by rw [lens_at, List.getElem?_eq_getElem hi]; rfl⟩
  have hrow : rowS Ls bs cs = (List.range (lens Ls).length).map fun i => Value.slice (some ⟨bs i, 0, none⟩) ((lens Ls)[i]?.getD 0) (cs i) := by
    unfold rowS
    rw [lens_len]
    apply List.map_congr_left
    intro i _
    rw [lens_at]
  have hout : ∃ g, B ≤ g ∧ g < W.heap.size ∧ Rd g (g + 1) W p (rowS Ls bs cs) ∧ ∀ i x, Ls[i]? = some x → bs i ≠ g := by
    by_cases h0 : 0 < (rowS Ls bs cs).length
    · obtain ⟨b, off, rfl, h1, h2, hc⟩ := hrd.cells h0
      refine ⟨b, h1, h2, ⟨by omega, fun _ => ⟨b, off, rfl, Nat.le_refl _, by omega, hc⟩⟩, fun i x hx e5 => ?_⟩
      obtain ⟨-, -, -, -, hn⟩ := h.inn i x hx
      exact hn (by rw [e, e5]; rfl)
    · have hn : rowS Ls bs cs = [] := List.length_eq_zero_iff.1 (by omega)
      refine ⟨B, Nat.le_refl _, hB, by rw [hn]; exact Rd.nil _ _ _ _ hB, fun i x hx => ?_⟩
      have : Ls.length = 0 := by
        have := congrArg List.length hn
        unfold rowS at this
        rw [List.length_map, List.length_range] at this
        exact this
      have := (List.getElem?_eq_some_iff.1 hx).1
      omega
  obtain ⟨g, hg1, hg2, hgr, hgn⟩ := hout
  refine ⟨p, cap, g, e, ⟨_, hrd, ?_, fun i x hx => ?_⟩, ⟨by rw [← hrow]; exact hgr, ⟨hg1, hg2⟩, Nat.le_refl _, fun i hi => ?_, fun i hi => ?_, fun i j hi hj => ?_⟩⟩
  · unfold rowS; rw [List.length_map, List.length_range]
  · have hi := (List.getElem?_eq_some_iff.1 hx).1
    obtain ⟨y, -, -, hb, -⟩ := h.inn i x hx
    refine ⟨some ⟨bs i, 0, none⟩, cs i, ?_, y.ri hb (hlt i x hx) (Nat.le_refl _)⟩
    unfold rowS
    rw [List.getElem?_map, List.getElem?_range hi, Option.map_some, hx]
    rfl
  · obtain ⟨x, hx, e5⟩ := hsome i hi
    rw [e5]
    have hl := hlt i x hx
    obtain ⟨⟨-, ys, ho, hl2⟩, -⟩ := h.inn i x hx
    exact ⟨by omega, fun _ => ⟨bs i, ys, rfl, Nat.le_refl _, Nat.lt_succ_self _, ho, hl2⟩⟩
  · obtain ⟨x, hx, -⟩ := hsome i hi
    obtain ⟨-, -, -, hb, -⟩ := h.inn i x hx
    exact ⟨hb, hlt i x hx, hgn i x hx⟩
  · rw [lens_len] at hi hj
    exact h.apart i j hi hj

/-- small n -/
def allB (n k : Int) : Bool := good5 n k && decide (n ≤ 7)
def allR (n k : Int) : List (List Int) := if allB n k = true then seatM n.toNat k.toNat n.toNat [] else []
theorem allB_is {n k : Int} (h : allB n k = true) : ∃ a b : Nat, n = a ∧ k = b ∧ 1 ≤ a ∧ a ≤ 7 ∧ b ≤ a := by
  unfold allB at h
  rw [Bool.and_eq_true, decide_eq_true_eq] at h
  obtain ⟨a, b, rfl, rfl, h1, -, h3⟩ := good5_is h.1
  exact ⟨a, b, rfl, rfl, h1, by omega, h3⟩

def SAll (Ls : List (List Int)) (B : Bool) (w : World) (e : Ending) (w' : World) : Prop := ∃ p c, e = .returned (.tuple #[.slice p Ls.length c, .bool B]) ∧ RdS w.heap.size w'.heap.size w' p Ls ∧ Below w.heap.size w w'
def IAll (Ls : List (List Int)) (B : Bool) (w : World) (e : Ending) (w' : World) : Prop := ∃ p c g bs cs, e = .returned (.tuple #[.slice p Ls.length c, .bool B]) ∧ RdS w.heap.size w'.heap.size w' p Ls ∧ OwnS w.heap.size w'.heap.size w' p (lens Ls) g bs cs ∧ Below w.heap.size w w'

set_option maxRecDepth 4000 in
set_option maxHeartbeats 1000000 in
theorem allS_any (n k : Int) (w : World) : Calls Try.prog 6 #[.int .i64 n, .int .i64 k] w (SAll (allR n k) (allB n k) w) := by
  have G := fun w' => l5Good_any n k w'
  have HN : Hid (SAll [] false w (.returned (.tuple #[.slice (some ⟨w.heap.size, 0, none⟩) 0 0, .bool false])) (w.alloc (.cells #[] 33))) :=
    ⟨_, _, rfl, ⟨[], Rd.nil _ _ _ _ (Nat.le_refl _), rfl, fun i x hx => by simp at hx⟩, (Below.refl _ _).alloc (Nat.le_refl _) _⟩
  unfold allR
  cases hg : good5 n k with
  | false =>
    have hb : allB n k = false := by unfold allB; rw [hg]; rfl
    rw [hb, if_neg (by simp)]
    rw [hg] at G
    replace G := Lib.hid G
    clear hg hb
    go_enter Try.func6, Try.ntmps6
    go_wp2_with fail
    refine (G.out _).mono ?_
    rintro e w1 ⟨rfl, rfl⟩
    go_wp2_with fail
    go_ret2
    exact HN.out
  | true =>
    rw [hg] at G
    replace G := Lib.hid G
    by_cases h7 : (7 : Int) < n
    · have hb : allB n k = false := by unfold allB; rw [hg]; simp; omega
      rw [hb, if_neg (by simp)]
      clear hg hb
      go_enter Try.func6, Try.ntmps6
      go_wp2_with fail
      refine (G.out _).mono ?_
      rintro e w1 ⟨rfl, rfl⟩
      go_wp2_with fail
      go_ret2
      exact HN.out
    · have hb : allB n k = true := by unfold allB; rw [hg]; simp; omega
      obtain ⟨a, b, rfl, rfl, h1, h2, -⟩ := allB_is hb
      rw [hb, if_pos rfl]
      have A := Lib.hid (l5All_any a b h1 h2 a [] (some ⟨w.heap.size, 0, none⟩) 0 w.heap.size (w.alloc (.cells #[] 3)) (by simp) (Out.nilLit w) (by simp))
      have HB0 := Lib.hid ((Below.refl w.heap.size w).alloc (Nat.le_refl _) (.cells #[] 3))
      obtain ⟨L, hL⟩ : ∃ L, seatM a b a [] = L := ⟨_, rfl⟩
      rw [hL] at A
      rw [show ((a : Int)).toNat = a from rfl, show ((b : Int)).toNat = b from rfl, hL]
      clear hg hb hL
      go_enter Try.func6, Try.ntmps6
      go_wp2_with fail
      refine (G.out _).mono ?_
      rintro e w1 ⟨rfl, rfl⟩
      go_wp2_with fail
      refine A.out.mono ?_
      rintro e w2 ⟨v, rfl, hLL, hb2⟩
      obtain ⟨p, c, rfl, hr⟩ := hLL.rds (lo := w.heap.size) (Nat.le_refl _) (by simp)
      have HF : Hid (SAll L true w (.returned (.tuple #[.slice p L.length c, .bool true])) w2) := ⟨_, _, rfl, hr, HB0.out.trans (hb2.mono (by simp))⟩
      clear hLL hr hb2
      go_wp2_with fail
      go_ret2
      exact HF.out
end Go.Proofs.Ytkbpfjhikabbmaa
