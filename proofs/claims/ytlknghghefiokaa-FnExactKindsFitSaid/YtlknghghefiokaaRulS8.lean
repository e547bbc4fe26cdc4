/- Chapter 8: valid Rules: spec.l8Rule, IsRule, impl.IsRule; which kinds may be neighbors: spec.l8May, impl's allows. -/
import Derived.Test.YtlknghghefiokaaRulHelp
import Derived.Test.YtlknghghefiokaaIsRow
import Derived.Test.YtlknghghefiokaaHas0
import Derived.Test.YtlknghghefiokaaSkip8
import Derived.Deep.DeepCutAuto
namespace Go.Proofs.Ytlknghghefiokaa
open Go.RowKit

/-- what a call holds that boxes a Rule -/
structure RulE (w : World) (g : Nat) (u : Int) (p : Option Addr) (m cap : Nat) (wr : World) : Prop where
  box : OwnArr wr g 27 [.int .i64 u, .slice p m cap]
  bel : Below w.heap.size w wr
theorem RulE.start (w : World) (u : Int) (p : Option Addr) (m cap : Nat) : RulE w w.heap.size u p m cap (w.alloc (.cells #[.int .i64 u, .slice p m cap] 27)) :=
  ⟨OwnArr.made w _ [_, _], (Below.refl _ _).alloc (Nat.le_refl _) _⟩
theorem RulE.next {w : World} {g : Nat} {u : Int} {p : Option Addr} {m cap : Nat} {wr w' : World} (h : RulE w g u p m cap wr) (hb : Below wr.heap.size wr w') : RulE w g u p m cap w' :=
  ⟨h.box.below hb h.box.lt, h.bel.trans (hb.mono h.bel.size)⟩
theorem RulE.drew {w : World} {g : Nat} {u : Int} {p : Option Addr} {m cap : Nat} {wr : World} (h : RulE w g u p m cap wr) : RulE w g u p m cap wr.drew := ⟨h.box, h.bel.drew⟩

/-- two kinds are told of right -/
def okc (n : Nat) (X : Nat → Int) (a b : Nat) : Bool := (decide (0 ≤ X (a * n + b)) && decide (X (a * n + b) ≤ 1)) && decide (X (a * n + b) = X (b * n + a))
def ruleN (n : Nat) (X : Nat → Int) : Bool := (List.range n).all fun a => (List.range n).all fun b => okc n X a b
/-- a valid Rule -/
def ruleB (u : Int) (xs : List Int) : Bool := (decide (1 ≤ u) && decide (u ≤ 3)) && (decide ((xs.length : Int) = u * u) && ruleN u.toNat (fun i => xs[i]?.getD 0))
theorem ruleN_true {n : Nat} {X : Nat → Int} (h : ∀ a, a < n → ∀ b, b < n → okc n X a b = true) : ruleN n X = true := by
  unfold ruleN
  rw [List.all_eq_true]
  intro a ha
  rw [List.all_eq_true]
  intro b hb
  exact h a (List.mem_range.1 ha) b (List.mem_range.1 hb)
theorem ruleN_false {n : Nat} {X : Nat → Int} {a b : Nat} (ha : a < n) (hb : b < n) (h : okc n X a b = false) : ruleN n X = false := by
  unfold ruleN
  rw [List.all_eq_false]
  refine ⟨a, List.mem_range.2 ha, ?_⟩
  rw [Bool.not_eq_true, List.all_eq_false]
  exact ⟨b, List.mem_range.2 hb, by rw [h]; simp⟩
theorem ruleN_is {n : Nat} {X : Nat → Int} (h : ruleN n X = true) {a b : Nat} (ha : a < n) (hb : b < n) : okc n X a b = true := by
  unfold ruleN at h
  rw [List.all_eq_true] at h
  have := h a (List.mem_range.2 ha)
  rw [List.all_eq_true] at this
  exact this b (List.mem_range.2 hb)
theorem ruleN_flat {n : Nat} {X : Nat → Int} (h : ∀ i, i < n * n → okc n X (i / n) (i % n) = true) : ruleN n X = true := by
  refine ruleN_true fun a ha b hb => ?_
  have hn : 0 < n := by omega
  have h1 : a * n + b < n * n := Nat.lt_of_lt_of_le (by omega : a * n + b < a * n + n) (by rw [← Nat.succ_mul]; exact Nat.mul_le_mul_right n (by omega))
  have h2 := h _ h1
  rw [show a * n + b = b + n * a by rw [Nat.mul_comm, Nat.add_comm], Nat.add_mul_div_left _ _ hn, Nat.div_eq_of_lt hb, Nat.zero_add, Nat.add_mul_mod_self_left, Nat.mod_eq_of_lt hb] at h2
  exact h2
theorem ruleB_is {u : Int} {xs : List Int} (h : ruleB u xs = true) : ∃ n : Nat, u = n ∧ 1 ≤ n ∧ n ≤ 3 ∧ xs.length = n * n ∧ ruleN n (fun i => xs[i]?.getD 0) = true := by
  unfold ruleB at h
  simp only [Bool.and_eq_true, decide_eq_true_eq] at h
  obtain ⟨⟨h1, h2⟩, h3, h4⟩ := h
  obtain ⟨n, rfl⟩ : ∃ n : Nat, u = n := ⟨u.toNat, by omega⟩
  rw [Int.toNat_natCast] at h4
  exact ⟨n, rfl, by omega, by omega, by have : (n : Int) * (n : Int) = ((n * n : Nat) : Int) := by push_cast; rfl
                                        omega, h4⟩
theorem idx_lt {n a b : Nat} (ha : a < n) (hb : b < n) : a * n + b < n * n :=
  Nat.lt_of_lt_of_le (by omega : a * n + b < a * n + n) (by rw [← Nat.succ_mul]; exact Nat.mul_le_mul_right n (by omega))

set_option maxRecDepth 4000 in
set_option maxHeartbeats 1000000 in
theorem l8Rule_bad (u : Int) (p : Option Addr) (cap : Nat) (xs : List Int) (w : World) (hlen : xs.length ≤ 1048576) (h : ((decide (1 ≤ u) && decide (u ≤ 3)) && decide ((xs.length : Int) = u * u)) = false) :
    Calls Try.prog 31 #[ruleV u p xs.length cap] w fun e w' => e = .returned (.bool (ruleB u xs)) ∧ Below w.heap.size w w' := by
  have hE := RulE.start w u p xs.length cap
  have hr : ruleB u xs = false := by
    unfold ruleB
    rw [← Bool.and_assoc, h]; rfl
  rw [hr]
  have IN := fun w' => l1In_any u 1 3 w'
  obtain ⟨m, hm⟩ : ∃ m, xs.length = m := ⟨_, rfl⟩
  rw [hm] at hE h hlen ⊢
  obtain ⟨K, hK⟩ : ∃ K : Bool, (decide (1 ≤ u) && decide (u ≤ 3)) = K := ⟨_, rfl⟩
  rw [hK] at IN h
  have HE := Lib.hid hE
  replace IN := Lib.hid IN
  obtain ⟨c0, c1, -⟩ := HE.out.box.two
  clear hr hm hE
  cases K with
  | false =>
    clear h
    go_enter Try.func31, Try.ntmps31
    go_wp2_with fail
    refine (IN.out _).mono ?_
    rintro e w1 ⟨rfl, rfl⟩
    go_wp2_with fail
    go_ret
    exact ⟨rfl, HE.out.bel⟩
  | true =>
    simp only [Bool.and_eq_true, decide_eq_true_eq] at hK
    have hne : ¬ (m : Int) = u * u := by simpa using h
    have hu : u * u ≤ 9 ∧ 1 ≤ u * u := by
      obtain ⟨n, rfl⟩ : ∃ n : Nat, u = n := ⟨u.toNat, by omega⟩
      have h1 : n ≤ 3 := by omega
      have h2 : 1 ≤ n := by omega
      have h3 : n * n ≤ 3 * 3 := Nat.mul_le_mul h1 h1
      have h4 : 1 * 1 ≤ n * n := Nat.mul_le_mul h2 h2
      have : (n : Int) * (n : Int) = ((n * n : Nat) : Int) := by push_cast; rfl
      omega
    have hwu : IntKind.i64.wrap (u * u) = u * u := IntWalk.i64_in _ (by omega)
    clear h
    go_enter Try.func31, Try.ntmps31
    go_wp2_with fail
    refine (IN.out _).mono ?_
    rintro e w1 ⟨rfl, rfl⟩
    go_wp2_with fail
    go_ret
    exact ⟨rfl, HE.out.bel⟩

set_option maxRecDepth 4000 in
set_option maxHeartbeats 4000000 in
theorem l8Rule_good (n : Nat) (p : Option Addr) (cap : Nat) (xs : List Int) (w : World) (lo hi : Nat) (hin : Ri lo hi w p xs) (hn1 : 1 ≤ n) (hn3 : n ≤ 3) (hlen : xs.length = n * n) :
    Calls Try.prog 31 #[ruleV n p xs.length cap] w fun e w' => e = .returned (.bool (ruleN n (fun i => xs[i]?.getD 0))) ∧ Below w.heap.size w w' := by
  have hE := RulE.start w n p xs.length cap
  have IN := fun w' => l1In_any (n : Int) 1 3 w'
  rw [show (decide (1 ≤ (n : Int)) && decide ((n : Int) ≤ 3)) = true by simp; omega] at IN
  have hnn : 1 ≤ n * n := Nat.mul_le_mul hn1 hn1
  have hnn9 : n * n ≤ 9 := Nat.mul_le_mul hn3 hn3
  obtain ⟨b, off, rfl, -, -, hbs, hc⟩ := hin.int (by omega)
  have HCW := Lib.hid (fun (w' : World) (hb : Below w.heap.size w w') j (h : j < xs.length) => (hb.cell (p := ⟨b, off + j, none⟩) hbs).trans (hc j h))
  have HT := Lib.hid (ruleN_true (n := n) (X := fun i => xs[i]?.getD 0))
  have HF := Lib.hid (fun a b ha hb h => ruleN_false (n := n) (X := fun i => xs[i]?.getD 0) (a := a) (b := b) ha hb h)
  obtain ⟨R, hR⟩ : ∃ R, ruleN n (fun i => xs[i]?.getD 0) = R := ⟨_, rfl⟩
  rw [hR] at HT ⊢
  simp only [hR] at HF
  obtain ⟨X, hX⟩ : ∃ X : Nat → Int, (fun i => xs[i]?.getD 0) = X := ⟨_, rfl⟩
  have HX : Hid (∀ i, xs[i]?.getD 0 = X i) := fun i => by rw [← hX]
  rw [hX] at HT HF
  have HOK : Hid (∀ a b, okc n X a b = ((decide (0 ≤ X (a * n + b)) && decide (X (a * n + b) ≤ 1)) && decide (X (a * n + b) = X (b * n + a)))) := fun a b => rfl
  have hnni : (n : Int) * (n : Int) = ((n * n : Nat) : Int) := by push_cast; rfl
  obtain ⟨m, hm⟩ : ∃ m, n * n = m := ⟨_, rfl⟩
  have HIX := Lib.hid (fun a b (ha : a < n) (hb : b < n) => idx_lt ha hb)
  rw [hm] at hnn hnn9 hnni hlen HIX
  rw [hlen] at hE HCW ⊢
  have HM := Lib.hid hm
  have hwm : IntKind.i64.wrap (m : Int) = (m : Int) := IntWalk.i64_in _ (by omega)
  have HE := Lib.hid hE
  replace IN := Lib.hid IN
  obtain ⟨c0, c1, -⟩ := HE.out.box.two
  clear hE hin hc hR hX hm hlen
  go_enter Try.func31, Try.ntmps31
  go_wp2_with fail
  refine (IN.out _).mono ?_
  rintro e w1 ⟨rfl, rfl⟩
  go_wp2_with fail
  clear c0 c1
  go_loopw [3, 4] (fun i _ wr => ∃ a : Nat, a ≤ n ∧ i = .int .i64 (a : Int) ∧ Hid (∀ a', a' < a → ∀ b', b' < n → okc n X a' b' = true) ∧ Hid (RulE w w.heap.size n (some ⟨b, off, none⟩) m cap wr)) (fun i _ _ => n - (intOf i).toNat)
  case atStart => exact ⟨0, Nat.zero_le _, rfl, by show ∀ _, _; intro a h; omega, HE⟩
  case round =>
    obtain ⟨a, ha, rfl, HA, HE2⟩ := hrel
    clear HE
    obtain ⟨c0, c1, -⟩ := HE2.out.box.two
    by_cases hlt : a < n
    · have hai : (a : Int) < (n : Int) := by omega
      have hwa : IntKind.i64.wrap ((a : Int) + 1) = (a : Int) + 1 := IntWalk.i64_in _ (by omega)
      go_wp2_with fail
      clear c0 c1
      go_loopw [4] (fun i wr => ∃ b' : Nat, b' ≤ n ∧ i = .int .i64 (b' : Int) ∧ Hid (∀ c, c < b' → okc n X a c = true) ∧ Hid (RulE w w.heap.size n (some ⟨b, off, none⟩) m cap wr)) (fun i _ => n - (intOf i).toNat)
      case atStart => exact ⟨0, Nat.zero_le _, rfl, by show ∀ _, _; intro a h; omega, HE2⟩
      case round =>
        obtain ⟨d, hd, rfl, HD, HE3⟩ := hrel
        clear HE2
        obtain ⟨c0, c1, -⟩ := HE3.out.box.two
        by_cases hdl : d < n
        · have hdi : (d : Int) < (n : Int) := by omega
          have hwd : IntKind.i64.wrap ((d : Int) + 1) = (d : Int) + 1 := IntWalk.i64_in _ (by omega)
          have i1 := HIX.out a d hlt hdl
          have i2 := HIX.out d a hdl hlt
          have ok := HOK.out a d
          have x1 := HCW.out wr HE3.out.bel _ i1
          have x2 := HCW.out wr HE3.out.bel _ i2
          rw [HX.out] at x1 x2
          have m1 : (a : Int) * (n : Int) + (d : Int) = ((a * n + d : Nat) : Int) := by push_cast; rfl
          have m2 : (d : Int) * (n : Int) + (a : Int) = ((d * n + a : Nat) : Int) := by push_cast; rfl
          have q1 : (a : Int) * (n : Int) = ((a * n : Nat) : Int) := by push_cast; rfl
          have q2 : (d : Int) * (n : Int) = ((d * n : Nat) : Int) := by push_cast; rfl
          obtain ⟨e1, he1⟩ : ∃ e, a * n = e := ⟨_, rfl⟩
          obtain ⟨e2, he2⟩ : ∃ e, d * n = e := ⟨_, rfl⟩
          rw [he1] at i1 ok x1 m1 q1
          rw [he2] at i2 ok x2 m2 q2
          rw [q1] at m1
          rw [q2] at m2
          obtain ⟨j1, hj1⟩ : ∃ j, e1 + d = j := ⟨_, rfl⟩
          obtain ⟨j2, hj2⟩ : ∃ j, e2 + a = j := ⟨_, rfl⟩
          rw [hj1] at i1 ok x1 m1
          rw [hj2] at i2 ok x2 m2
          obtain ⟨y1, hy1⟩ : ∃ y, X j1 = y := ⟨_, rfl⟩
          obtain ⟨y2, hy2⟩ : ∃ y, X j2 = y := ⟨_, rfl⟩
          rw [hy1] at ok x1
          rw [hy2] at ok x2
          have w1 : IntKind.i64.wrap (e1 : Int) = (e1 : Int) := IntWalk.i64_in _ (by omega)
          have w2 : IntKind.i64.wrap (e2 : Int) = (e2 : Int) := IntWalk.i64_in _ (by omega)
          have w3 : IntKind.i64.wrap (j1 : Int) = (j1 : Int) := IntWalk.i64_in _ (by omega)
          have w4 : IntKind.i64.wrap (j2 : Int) = (j2 : Int) := IntWalk.i64_in _ (by omega)
          have b1 : (j1 : Int) < (m : Int) := by omega
          have b2 : (j2 : Int) < (m : Int) := by omega
          have IN1 := fun w' => (l1In_any y1 0 1 w').mono (R' := fun e w'' => e = .returned (.bool (decide (0 ≤ y1) && decide (y1 ≤ 1))) ∧ w'' = w') (by rintro e w2 ⟨h1, h2⟩; exact ⟨h1, h2.symm⟩)
          have HED := Lib.hid HE3.out.drew
          obtain ⟨K, hK⟩ : ∃ K : Bool, (decide (0 ≤ y1) && decide (y1 ≤ 1)) = K := ⟨_, rfl⟩
          rw [hK] at IN1 ok
          replace IN1 := Lib.hid IN1
          clear he1 he2 hj1 hj2 hy1 hy2 hK HE3
          cases K with
          | false =>
            have HBAD := Lib.hid (HF.out a d hlt hdl ok)
            clear ok x2
            have hRf : R = false := HBAD.out.symm ▸ rfl
            subst hRf
            go_wp2_with fail
            refine wp_region_still_lit (by kernel_rfl) (by kernel_rfl) ?_
            repeat still_step
            still_call (IN1.out _)
            still_step
            refine skipW_move 21 (.tmp 43) (.bool true) (by kernel_rfl) rfl (by kernel_rfl) (by kernel_rfl) ?_
            simp only [List.drop_succ_cons, List.drop_zero, undefW, Act.put, List.setIfInBounds_toArray, List.set_cons_zero, List.set_cons_succ]
            still_step
            refine wpStill_nil ?_
            go_wp2_with fail
            go_ret
            exact ⟨rfl, HED.out.bel⟩
          | true =>
            by_cases hyy : y1 = y2
            · have HOKK : Hid (okc n X a d = true) := by
                show _ = _
                rw [ok, decide_eq_true hyy]; rfl
              have HD2 : Hid (∀ c, c < d + 1 → okc n X a c = true) := by
                show ∀ _, _
                intro c hc
                by_cases e : c = d
                · subst e; exact HOKK.out
                · exact HD.out c (by omega)
              subst hyy
              clear ok HOKK HF HT HCW
              go_wp2_with fail
              refine wp_region_still_lit (by kernel_rfl) (by kernel_rfl) ?_
              repeat still_step
              still_call (IN1.out _)
              repeat still_step
              refine wpStill_nil ?_
              go_wp2_with fail
              go_roundw
              case rel => exact ⟨d + 1, by omega, by go_num, HD2, HED⟩
              case measure => simp [intOf]; omega
            · have HBAD := Lib.hid (HF.out a d hlt hdl (by rw [ok, decide_eq_false hyy]; rfl))
              have hRf : R = false := HBAD.out.symm ▸ rfl
              subst hRf
              clear ok
              go_wp2_with fail
              refine wp_region_still_lit (by kernel_rfl) (by kernel_rfl) ?_
              repeat still_step
              still_call (IN1.out _)
              repeat still_step
              refine wpStill_nil ?_
              go_wp2_with fail
              go_ret
              exact ⟨rfl, HED.out.bel⟩
        · have hdn : d = n := by omega
          subst hdn
          have hno : ¬ (d : Int) < (d : Int) := by omega
          have HA2 : Hid (∀ a', a' < a + 1 → ∀ b', b' < d → okc d X a' b' = true) := by
            show ∀ _, _
            intro c hc
            by_cases e : c = a
            · subst e; exact HD.out
            · exact HA.out c (by omega)
          go_wp2_with fail
          go_roundw
          case rel => exact ⟨a + 1, by omega, by go_num, HA2, HE3⟩
          case measure => simp [intOf]; omega
    · have han : a = n := by omega
      subst han
      have hno : ¬ (a : Int) < (a : Int) := by omega
      have hRt : R = true := (HT.out HA.out)
      subst hRt
      go_wp2_with fail
      go_ret
      exact ⟨rfl, HE2.out.bel⟩

theorem l8Rule_any (u : Int) (p : Option Addr) (cap : Nat) (xs : List Int) (w : World) (lo hi : Nat) (hin : Ri lo hi w p xs) (hlen : xs.length ≤ 1048576) :
    Calls Try.prog 31 #[ruleV u p xs.length cap] w fun e w' => e = .returned (.bool (ruleB u xs)) ∧ Below w.heap.size w w' := by
  cases h : ((decide (1 ≤ u) && decide (u ≤ 3)) && decide ((xs.length : Int) = u * u)) with
  | false => exact l8Rule_bad u p cap xs w hlen h
  | true =>
    have h2 := h
    simp only [Bool.and_eq_true, decide_eq_true_eq] at h2
    obtain ⟨n, rfl⟩ : ∃ n : Nat, u = n := ⟨u.toNat, by omega⟩
    have hr : ruleB (n : Int) xs = ruleN n (fun i => xs[i]?.getD 0) := by
      unfold ruleB
      rw [← Bool.and_assoc, h, Bool.true_and, Int.toNat_natCast]
    rw [hr]
    exact l8Rule_good n p cap xs w lo hi hin (by omega) (by omega) (by
      have : (n : Int) * (n : Int) = ((n * n : Nat) : Int) := by push_cast; rfl
      omega)
end Go.Proofs.Ytlknghghefiokaa
