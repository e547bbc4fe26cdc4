/- Chapter 8: spec.IsRule and impl.IsRule; which kinds may be neighbors. -/
import Derived.Test.YtlknghghefiokaaRulS8
namespace Go.Proofs.Ytlknghghefiokaa
open Go.RowKit

theorem isRuleS_any (u : Int) (p : Option Addr) (cap : Nat) (xs : List Int) (w : World) (lo hi : Nat) (hin : Ri lo hi w p xs) (hlen : xs.length ≤ 1048576) :
    Calls Try.prog 9 #[ruleV u p xs.length cap] w fun e w' => e = .returned (.bool (ruleB u xs)) ∧ Below w.heap.size w w' := by
  have hE := RulE.start w u p xs.length cap
  have R := fun w' (hb : Below w.heap.size w w') => l8Rule_any u p cap xs w' lo hi (hin.bel hb) hlen
  obtain ⟨B, hB⟩ : ∃ B, ruleB u xs = B := ⟨_, rfl⟩
  rw [hB] at R ⊢
  obtain ⟨m, hm⟩ : ∃ m, xs.length = m := ⟨_, rfl⟩
  rw [hm] at hE R ⊢
  have HE := Lib.hid hE
  replace R := Lib.hid R
  obtain ⟨c0, c1, -⟩ := HE.out.box.two
  clear hE hin hB hm hlen
  go_enter Try.func9, Try.ntmps9
  go_wp2_with fail
  refine (R.out _ HE.out.bel).mono ?_
  rintro e w1 ⟨rfl, hb⟩
  have HB := Lib.hid (HE.out.bel.trans (hb.mono HE.out.bel.size))
  clear hb
  go_wp2_with fail
  go_ret
  exact ⟨rfl, HB.out⟩

theorem okc_at {n : Nat} (X : Nat → Int) (i : Nat) : okc n X (i / n) (i % n) = ((decide (0 ≤ X i) && decide (X i ≤ 1)) && decide (X i = X (i % n * n + i / n))) := by
  unfold okc
  rw [show i / n * n + i % n = i by rw [Nat.mul_comm]; exact Nat.div_add_mod i n]

set_option maxRecDepth 4000 in
set_option maxHeartbeats 4000000 in
theorem isRuleI_good (n : Nat) (p : Option Addr) (cap : Nat) (xs : List Int) (w : World) (lo hi : Nat) (hin : Ri lo hi w p xs) (hn1 : 1 ≤ n) (hn3 : n ≤ 3) (hlen : xs.length = n * n) :
    Calls Try.prog 11 #[ruleV n p xs.length cap] w fun e w' => e = .returned (.bool (ruleN n (fun i => xs[i]?.getD 0))) ∧ Below w.heap.size w w' := by
  have hE := RulE.start w n p xs.length cap
  have hnn : 1 ≤ n * n := Nat.mul_le_mul hn1 hn1
  have hnn9 : n * n ≤ 9 := Nat.mul_le_mul hn3 hn3
  obtain ⟨b, off, rfl, -, -, hbs, hc⟩ := hin.int (by omega)
  have HCW := Lib.hid (fun (w' : World) (hb : Below w.heap.size w w') j (h : j < xs.length) => (hb.cell (p := ⟨b, off + j, none⟩) hbs).trans (hc j h))
  have HT := Lib.hid (ruleN_flat (n := n) (X := fun i => xs[i]?.getD 0))
  have HF := Lib.hid (fun a b ha hb h => ruleN_false (n := n) (X := fun i => xs[i]?.getD 0) (a := a) (b := b) ha hb h)
  obtain ⟨R, hR⟩ : ∃ R, ruleN n (fun i => xs[i]?.getD 0) = R := ⟨_, rfl⟩
  rw [hR] at HT ⊢
  simp only [hR] at HF
  obtain ⟨X, hX⟩ : ∃ X : Nat → Int, (fun i => xs[i]?.getD 0) = X := ⟨_, rfl⟩
  have HX : Hid (∀ i, xs[i]?.getD 0 = X i) := fun i => by rw [← hX]
  rw [hX] at HT HF
  have HOK := Lib.hid (fun i => okc_at (n := n) X i)
  have hnni : (n : Int) * (n : Int) = ((n * n : Nat) : Int) := by push_cast; rfl
  have HDV := Lib.hid (fun i (h : i < n * n) => Nat.div_lt_of_lt_mul h)
  obtain ⟨m, hm⟩ : ∃ m, n * n = m := ⟨_, rfl⟩
  have HIX := Lib.hid (fun a b (ha : a < n) (hb : b < n) => idx_lt ha hb)
  rw [hm] at hnn hnn9 hnni hlen HIX HT HDV
  rw [hlen] at hE HCW ⊢
  have hwm : IntKind.i64.wrap (m : Int) = (m : Int) := IntWalk.i64_in _ (by omega)
  have hn1i : ¬ (n : Int) < 1 := by omega
  have hn3i : ¬ (3 : Int) < (n : Int) := by omega
  have hn0 : ¬ (n : Int) = 0 := by omega
  have hn00 : ¬ n = 0 := by omega
  have HE := Lib.hid hE
  obtain ⟨c0, c1, -⟩ := HE.out.box.two
  clear hE hin hc hR hX hm hlen
  go_enter Try.func11, Try.ntmps11
  go_wp2_with fail
  clear c0 c1
  go_loopw [29] (fun i wr => ∃ j : Nat, j ≤ m ∧ i = .int .i64 (j : Int) ∧ Hid (∀ i', i' < j → okc n X (i' / n) (i' % n) = true) ∧ Hid (RulE w w.heap.size n (some ⟨b, off, none⟩) m cap wr)) (fun i _ => m - (intOf i).toNat)
  case atStart => exact ⟨0, Nat.zero_le _, rfl, by show ∀ _, _; intro a h; omega, HE⟩
  case round =>
    obtain ⟨j, hj, rfl, HA, HE2⟩ := hrel
    clear HE
    obtain ⟨c0, c1, -⟩ := HE2.out.box.two
    by_cases hlt : j < m
    · have hji : (j : Int) < (m : Int) := by omega
      have hwj : IntKind.i64.wrap ((j : Int) + 1) = (j : Int) + 1 := IntWalk.i64_in _ (by omega)
      have hd := HDV.out j hlt
      have hr : j % n < n := Nat.mod_lt _ (by omega)
      have hq : (j : Int).tdiv (n : Int) = ((j / n : Nat) : Int) := (Int.ofNat_tdiv _ _).symm
      have hrm : (j : Int).tmod (n : Int) = ((j % n : Nat) : Int) := (Int.ofNat_tmod _ _).symm
      have ok := HOK.out j
      have bad := HF.out (j / n) (j % n) hd hr
      have HANEXT : Hid (okc n X (j / n) (j % n) = true → ∀ i', i' < j + 1 → okc n X (i' / n) (i' % n) = true) := by
        intro h c hc
        by_cases e : c = j
        · subst e; exact h
        · exact HA.out c (by omega)
      have i2 := HIX.out (j % n) (j / n) hr hd
      have x1 := HCW.out wr HE2.out.bel _ hlt
      have x2 := HCW.out wr HE2.out.bel _ i2
      rw [HX.out] at x1 x2
      obtain ⟨O, hO⟩ : ∃ O, okc n X (j / n) (j % n) = O := ⟨_, rfl⟩
      rw [hO] at ok bad HANEXT
      obtain ⟨a, ha⟩ : ∃ a, j / n = a := ⟨_, rfl⟩
      obtain ⟨d, hdd⟩ : ∃ d, j % n = d := ⟨_, rfl⟩
      rw [ha] at hd hq i2 x2 ok
      rw [hdd] at hr hrm i2 x2 ok
      have m2 : (d : Int) * (n : Int) + (a : Int) = ((d * n + a : Nat) : Int) := by push_cast; rfl
      have q2 : (d : Int) * (n : Int) = ((d * n : Nat) : Int) := by push_cast; rfl
      obtain ⟨e2, he2⟩ : ∃ e, d * n = e := ⟨_, rfl⟩
      rw [he2] at i2 ok x2 m2 q2
      rw [q2] at m2
      obtain ⟨j2, hj2⟩ : ∃ j, e2 + a = j := ⟨_, rfl⟩
      rw [hj2] at i2 ok x2 m2
      obtain ⟨y1, hy1⟩ : ∃ y, X j = y := ⟨_, rfl⟩
      obtain ⟨y2, hy2⟩ : ∃ y, X j2 = y := ⟨_, rfl⟩
      rw [hy1] at ok x1
      rw [hy2] at ok x2
      have w0 : IntKind.i64.wrap (a : Int) = (a : Int) := IntWalk.i64_in _ (by omega)
      have w1 : IntKind.i64.wrap (d : Int) = (d : Int) := IntWalk.i64_in _ (by omega)
      have w2 : IntKind.i64.wrap (e2 : Int) = (e2 : Int) := IntWalk.i64_in _ (by omega)
      have w4 : IntKind.i64.wrap (j2 : Int) = (j2 : Int) := IntWalk.i64_in _ (by omega)
      have b2 : (j2 : Int) < (m : Int) := by omega
      have HED := Lib.hid HE2.out.drew
      have d0 : wr.drew.cell? ⟨w.heap.size, 0, none⟩ = some (.int .i64 (n : Int)) := c0
      have d1 : wr.drew.cell? ⟨w.heap.size, 1, none⟩ = some (.slice (some ⟨b, off, none⟩) m cap) := c1
      have x2d : wr.drew.cell? ⟨b, off + j2, none⟩ = some (.int .i64 y2) := x2
      clear ha hdd he2 hj2 hy1 hy2 hO HE2 HA
      by_cases h01 : 0 ≤ y1 ∧ y1 ≤ 1
      · by_cases hyy : y1 = y2
        · rw [decide_eq_true h01.1, decide_eq_true h01.2, decide_eq_true hyy] at ok
          have HN := Lib.hid (HANEXT.out (by rw [ok]; rfl))
          subst hyy
          clear ok bad HANEXT
          by_cases h0 : y1 = 0
          · subst h0
            go_wp2_with fail
            refine wp_region_still_lit (by kernel_rfl) (by kernel_rfl) ?_
            repeat still_step
            refine wpStill_nil ?_
            go_wp2_with fail
            go_roundw
            case rel => exact ⟨j + 1, by omega, by go_num, HN, HED⟩
            case measure => simp [intOf]; omega
          · have h1 : y1 = 1 := by omega
            subst h1
            go_wp2_with fail
            refine wp_region_still_lit (by kernel_rfl) (by kernel_rfl) ?_
            repeat still_step
            refine wpStill_nil ?_
            go_wp2_with fail
            go_roundw
            case rel => exact ⟨j + 1, by omega, by go_num, HN, HED⟩
            case measure => simp [intOf]; omega
        · rw [decide_eq_false hyy, Bool.and_false] at ok
          have hRf : R = false := bad ok
          subst hRf
          clear ok bad HANEXT
          by_cases h0 : y1 = 0
          · subst h0
            go_wp2_with fail
            refine wp_region_still_lit (by kernel_rfl) (by kernel_rfl) ?_
            repeat still_step
            refine wpStill_nil ?_
            go_wp2_with fail
            go_ret
            exact ⟨rfl, HED.out.bel⟩
          · have h1 : y1 = 1 := by omega
            subst h1
            go_wp2_with fail
            refine wp_region_still_lit (by kernel_rfl) (by kernel_rfl) ?_
            repeat still_step
            refine wpStill_nil ?_
            go_wp2_with fail
            go_ret
            exact ⟨rfl, HED.out.bel⟩
      · have hfalse : (decide (0 ≤ y1) && decide (y1 ≤ 1)) = false := by simp; omega
        rw [hfalse, Bool.false_and] at ok
        have hRf : R = false := bad ok
        subst hRf
        have h0 : ¬ y1 = 0 := by omega
        have h1 : ¬ y1 = 1 := by omega
        clear ok bad HANEXT hfalse x2d x2
        go_wp2_with fail
        refine wp_region_still_lit (by kernel_rfl) (by kernel_rfl) ?_
        repeat still_step
        refine wpStill_nil ?_
        go_wp2_with fail
        go_ret
        exact ⟨rfl, HED.out.bel⟩
    · have hjm : j = m := by omega
      subst hjm
      have hno : ¬ (j : Int) < (j : Int) := by omega
      have hRt : R = true := (HT.out HA.out)
      subst hRt
      go_wp2_with fail
      go_ret
      exact ⟨rfl, HE2.out.bel⟩

set_option maxHeartbeats 1000000 in
theorem isRuleI_any (u : Int) (p : Option Addr) (cap : Nat) (xs : List Int) (w : World) (lo hi : Nat) (hin : Ri lo hi w p xs) (hlen : xs.length ≤ 1048576) :
    Calls Try.prog 11 #[ruleV u p xs.length cap] w fun e w' => e = .returned (.bool (ruleB u xs)) ∧ Below w.heap.size w w' := by
  cases h : ((decide (1 ≤ u) && decide (u ≤ 3)) && decide ((xs.length : Int) = u * u)) with
  | false =>
    have hE := RulE.start w u p xs.length cap
    have hr : ruleB u xs = false := by
      unfold ruleB
      rw [← Bool.and_assoc, h]; rfl
    rw [hr]
    obtain ⟨m, hm⟩ : ∃ m, xs.length = m := ⟨_, rfl⟩
    rw [hm] at hE h hlen ⊢
    have HE := Lib.hid hE
    obtain ⟨c0, c1, -⟩ := HE.out.box.two
    clear hr hm hE hin
    by_cases h1 : u < 1
    · clear h
      go_enter Try.func11, Try.ntmps11
      go_wp2_with fail
      go_ret
      exact ⟨rfl, HE.out.bel⟩
    · by_cases h3 : 3 < u
      · clear h
        go_enter Try.func11, Try.ntmps11
        go_wp2_with fail
        go_ret
        exact ⟨rfl, HE.out.bel⟩
      · have hne : ¬ (m : Int) = u * u := by
          rw [decide_eq_true (by omega : 1 ≤ u), decide_eq_true (by omega : u ≤ 3)] at h
          simpa using h
        have hu : u * u ≤ 9 ∧ 1 ≤ u * u := by
          obtain ⟨n, rfl⟩ : ∃ n : Nat, u = n := ⟨u.toNat, by omega⟩
          have h1 : n ≤ 3 := by omega
          have h2 : 1 ≤ n := by omega
          have h3 : n * n ≤ 3 * 3 := Nat.mul_le_mul h1 h1
          have h4 : 1 * 1 ≤ n * n := Nat.mul_le_mul h2 h2
          have : (n : Int) * (n : Int) = ((n * n : Nat) : Int) := by push_cast; rfl
          omega
        have hwu : IntKind.i64.wrap (u * u) = u * u := IntWalk.i64_in _ (by omega)
        clear h
        go_enter Try.func11, Try.ntmps11
        go_wp2_with fail
        go_ret
        exact ⟨rfl, HE.out.bel⟩
  | true =>
    have h2 := h
    simp only [Bool.and_eq_true, decide_eq_true_eq] at h2
    obtain ⟨n, rfl⟩ : ∃ n : Nat, u = n := ⟨u.toNat, by omega⟩
    have hr : ruleB (n : Int) xs = ruleN n (fun i => xs[i]?.getD 0) := by
      unfold ruleB
      rw [← Bool.and_assoc, h, Bool.true_and, Int.toNat_natCast]
    rw [hr]
    refine isRuleI_good n p cap xs w lo hi hin (by omega) (by omega) ?_
    have : (n : Int) * (n : Int) = ((n * n : Nat) : Int) := by push_cast; rfl
    omega
end Go.Proofs.Ytlknghghefiokaa
