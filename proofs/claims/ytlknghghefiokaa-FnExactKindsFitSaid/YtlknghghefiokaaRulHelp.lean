/- The laws' own helpers on Rules: szRule, toRule, eqRule. -/
import Derived.Test.YtlknghghefiokaaRowHelp
namespace Go.Proofs.Ytlknghghefiokaa
open Go.RowKit

/-- a Rule as a value -/
abbrev ruleV (u : Int) (p : Option Addr) (n cap : Nat) : Value := .agg #[.int .i64 u, .slice p n cap]

set_option maxHeartbeats 400000 in
theorem szI_left (p : Option Addr) (cap n : Nat) (left : Int) (w : World) (hn : n ≤ 9223372036854775807) (h0 : 0 ≤ left ∧ left ≤ 1048576) :
    Calls Try.prog 30 #[.slice p n cap, .int .i64 left] w fun e w' => e = .returned (.int .i64 (if (n : Int) ≤ left then left - (n : Int) else -1)) ∧ w = w' := by
  by_cases h : (n : Int) ≤ left
  · rw [if_pos h]
    have h' : ¬ (left - (n : Int) < 0) := by omega
    have hw : IntKind.i64.wrap (left - (n : Int)) = left - (n : Int) := IntWalk.i64_in _ (by omega)
    go_enter Try.func30, Try.ntmps30
    go_wp2
    go_ret
    exact ⟨rfl, rfl⟩
  · rw [if_neg h]
    have h' : (left - (n : Int) < 0) := by omega
    have hw : IntKind.i64.wrap (left - (n : Int)) = left - (n : Int) := IntWalk.i64_in _ (by omega)
    go_enter Try.func30, Try.ntmps30
    go_wp2
    go_ret
    exact ⟨rfl, rfl⟩

set_option maxHeartbeats 400000 in
theorem szRule_any (u : Int) (p : Option Addr) (n cap : Nat) (left : Int) (w : World) (hn : n ≤ 9223372036854775807) (h0 : 0 ≤ left ∧ left ≤ 1048576) :
    Calls Try.prog 8 #[ruleV u p n cap, .int .i64 left] w fun e w' => e = .returned (.int .i64 (if (n : Int) ≤ left then left - (n : Int) else -1)) ∧ Below w.heap.size w w' := by
  have S := fun w' => szI_left p cap n left w' hn h0
  by_cases h : (n : Int) ≤ left
  · have h' : ¬ (left - (n : Int) < 0) := by omega
    rw [if_pos h] at S ⊢
    go_enter Try.func8, Try.ntmps8
    go_wp2_with fail
    refine (S _).mono ?_
    rintro e w1 ⟨rfl, rfl⟩
    go_wp2_with fail
    go_ret
    exact ⟨rfl, (Below.refl _ _).alloc (Nat.le_refl _) _⟩
  · rw [if_neg h] at S ⊢
    go_enter Try.func8, Try.ntmps8
    go_wp2_with fail
    refine (S _).mono ?_
    rintro e w1 ⟨rfl, rfl⟩
    go_wp2_with fail
    go_ret
    exact ⟨rfl, (Below.refl _ _).alloc (Nat.le_refl _) _⟩

theorem OwnArr.two {w : World} {b : Nat} {e : TypeId} {x y : Value} (h : OwnArr w b e [x, y]) :
    w.cell? ⟨b, 0, none⟩ = some x ∧ w.cell? ⟨b, 1, none⟩ = some y ∧ w.frozen? ⟨b, 0, none⟩ = false ∧ w.frozen? ⟨b, 1, none⟩ = false :=
  ⟨h.cell 0, h.cell 1, h.free 0, h.free 1⟩
theorem load_rule {w : World} {b : Nat} {x y : Value} (h : OwnArr w b 27 [x, y]) :
    (loadVar 27 ⟨b, 0, none⟩).run Try.prog w = .ok (.agg #[x, y]) w := by
  obtain ⟨c0, c1, _⟩ := h.two
  simp [go_sem, c0, c1]
/-- a function whose one result is a Rule that lies in a box -/
theorem ret_rule {fn : Func} {R : Ending → World → Prop} {a : Act} {w : World} {p : Tmp} {b : Nat} {x y : Value} (h : fn.results = #[.cell p 27]) (hp : a.tmps.getD p undef = .pointer (some ⟨b, 0, none⟩))
    (ho : OwnArr w b 27 [x, y]) (hd : a.defers = []) (hR : R (.returned (.agg #[x, y])) w) : bodyPost Try.prog fn R .ret a w := by
  refine bodyPost_ret (v := .agg #[x, y]) ?_ hd hR
  rw [results_cell h, hp]
  simp only [asAddr, Sem.run_pure, Result.andThen]
  exact load_rule ho

set_option maxHeartbeats 400000 in
theorem toRule_any (u : Int) (p : Option Addr) (cap : Nat) (xs : List Int) (w : World) (lo hi : Nat) (hin : Ri lo hi w p xs) (hreach : xs.length ≤ 1048576) :
    Calls Try.prog 10 #[ruleV u p xs.length cap] w fun e w' => ∃ b, w.heap.size ≤ b ∧ b < w'.heap.size ∧ e = .returned (ruleV u (some ⟨b, 0, none⟩) xs.length xs.length) ∧ OwnArr w' b 3 (iv xs) ∧ Below w.heap.size w w' := by
  go_enter Try.func10, Try.ntmps10
  go_wp2_with fail
  refine (toI_any p cap xs _ lo hi (((hin.bel ((Below.refl _ _).alloc (Nat.le_refl _) _)).bel ((Below.refl _ _).alloc (Nat.le_refl _) _)).bel ((Below.refl _ _).alloc (Nat.le_refl _) _)) hreach).mono ?_
  rintro e w4 ⟨b, hb1, hb2, rfl, ho, hbl⟩
  have B3 : OwnArr w4 (w.heap.size + 1 + 1) 27 [.int .i64 u, .slice none 0 0] := OwnArr.below (OwnArr.mk' rfl (by simp)) hbl (by simp)
  have B2 : OwnArr w4 (w.heap.size + 1) 27 [.int .i64 0, .slice none 0 0] := OwnArr.below (OwnArr.alloc (OwnArr.mk' rfl (by simp)) _) hbl (by simp)
  obtain ⟨c0, c1, f0, f1⟩ := B3.two
  obtain ⟨d0, d1, g0, g1⟩ := B2.two
  have hx0 : Below w.heap.size w w4 := (((Below.refl _ _).alloc (Nat.le_refl _) _).alloc (by simp) _ |>.alloc (by simp; omega) _).trans (hbl.mono (by simp; omega))
  have hx := (hx0.setCell (p := ⟨w.heap.size + 1 + 1, 1, none⟩) (by show _ ≤ w.heap.size + 1 + 1; omega) (.slice (some ⟨b, 0, none⟩) xs.length xs.length))
  have hb1' : w.heap.size + 1 + 1 + 1 ≤ b := by simpa using hb1
  have HO := Lib.hid (ho.other (a := ⟨w.heap.size + 1 + 1, 1, none⟩) (by show b ≠ w.heap.size + 1 + 1; omega) (.slice (some ⟨b, 0, none⟩) xs.length xs.length))
  have HB := Lib.hid (B2.other (a := ⟨w.heap.size + 1 + 1, 1, none⟩) (by show w.heap.size + 1 ≠ w.heap.size + 1 + 1; omega) (.slice (some ⟨b, 0, none⟩) xs.length xs.length))
  have HX := Lib.hid hx
  clear B2 B3 ho hbl hx hx0
  go_wp2_with fail
  refine ret_rule Try.results10 rfl ((HB.out.set 0 _).set 1 _) rfl ⟨b, by omega, by simpa [World.setCell] using hb2, rfl, ?_, ?_⟩
  · exact (HO.out.other (by show b ≠ w.heap.size + 1; omega) _).other (by show b ≠ w.heap.size + 1; omega) _
  · exact (HX.out.setCell (by show _ ≤ w.heap.size + 1; omega) _).setCell (by show _ ≤ w.heap.size + 1; omega) _

set_option maxHeartbeats 400000 in
theorem eqRule_same (u : Int) (p p' : Option Addr) (cap cap' : Nat) (xs : List Int) (w : World) (lo hi lo' hi' : Nat) (hin : Ri lo hi w p xs) (hin' : Ri lo' hi' w p' xs) (hlen : xs.length ≤ 9223372036854775807) :
    Calls Try.prog 12 #[ruleV u p xs.length cap, ruleV u p' xs.length cap'] w fun e w' => e = .returned (.bool true) ∧ Below w.heap.size w w' := by
  go_enter Try.func12, Try.ntmps12
  go_wp2_with fail
  have hb0 : Below w.heap.size w ((w.alloc (.cells #[Value.int .i64 u, Value.slice p xs.length cap] 27)).alloc (.cells #[Value.int .i64 u, Value.slice p' xs.length cap'] 27)) := ((Below.refl _ _).alloc (Nat.le_refl _) _).alloc (by simp) _
  refine (eqI_same p p' cap cap' xs _ lo hi lo' hi' (hin.bel hb0) (hin'.bel hb0) hlen).mono ?_
  rintro e w2 ⟨rfl, hb2⟩
  go_wp2_with fail
  go_ret
  exact ⟨rfl, hb0.trans (hb2.mono hb0.size)⟩

set_option maxHeartbeats 400000 in
theorem markRule_any (u : Int) (p : Option Addr) (lo hi n cap k : Nat) (w : World) (ho : Own lo hi w 3 p n) (h1 : k + n ≤ 10000000) :
    Calls Try.prog 25 #[ruleV u p n cap, .int .i64 (k : Int)] w fun e w' => e = .returned (.int .i64 ((k + n : Nat) : Int)) ∧ Ri lo hi w' p (mk k n) ∧ Own lo hi w' 3 p n ∧ Keep lo hi w w' := by
  go_enter Try.func25, Try.ntmps25
  go_wp2_with fail
  have hb : Below w.heap.size w (w.alloc (.cells #[Value.int .i64 u, Value.slice p n cap] 27)) := (Below.refl _ _).alloc (Nat.le_refl _) _
  refine (markI_any p lo hi n cap k _ (ho.bel hb) h1).mono ?_
  rintro e w2 ⟨rfl, hr, ho2, hk⟩
  obtain ⟨c, hc⟩ : ∃ c, k + n = c := ⟨_, rfl⟩
  rw [hc]
  go_wp2_with fail
  go_ret
  subst hc
  exact ⟨rfl, hr, ho2, (Below.keep hb).trans hk⟩
end Go.Proofs.Ytlknghghefiokaa
