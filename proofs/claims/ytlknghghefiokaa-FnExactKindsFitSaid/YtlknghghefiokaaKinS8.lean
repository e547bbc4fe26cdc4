/- Chapter 8: spec.l8May, l8Kinds; which kinds may be neighbors by a valid Rule: impl's allows. -/
import Derived.Test.YtlknghghefiokaaKinM8
import Derived.Test.YtlknghghefiokaaRowE6
import Derived.Test.YtlknghghefiokaaRulI8
namespace Go.Proofs.Ytlknghghefiokaa
open Go.RowKit

set_option maxRecDepth 4000 in
set_option maxHeartbeats 1000000 in
theorem l8May_any (nk : Nat) (p : Option Addr) (cap : Nat) (us : List Int) (a b : Nat) (w : World) (lo hi : Nat) (hin : Ri lo hi w p us) (hn : nk ≤ 3) (hl : us.length = nk * nk) (ha : a < nk) (hb : b < nk) :
    Calls Try.prog 35 #[ruleV nk p us.length cap, .int .i64 (a : Int), .int .i64 (b : Int)] w fun e w' => e = .returned (.bool (decide (us[a * nk + b]?.getD 0 = 1))) ∧ Below w.heap.size w w' := by
  have hE := RulE.start w nk p us.length cap
  have i1 := idx_lt ha hb
  rw [← hl] at i1
  have h9 : us.length ≤ 9 := by rw [hl]; exact Nat.mul_le_mul hn hn
  obtain ⟨bl, off, rfl, -, -, hbs, hc⟩ := hin.int (by omega)
  have x1 := (hE.bel.cell (p := ⟨bl, off + (a * nk + b), none⟩) hbs).trans (hc _ i1)
  have m1 : (a : Int) * (nk : Int) + (b : Int) = ((a * nk + b : Nat) : Int) := by push_cast; rfl
  have q1 : (a : Int) * (nk : Int) = ((a * nk : Nat) : Int) := by push_cast; rfl
  obtain ⟨e1, he1⟩ : ∃ e, a * nk = e := ⟨_, rfl⟩
  rw [he1] at i1 x1 m1 q1 ⊢
  rw [q1] at m1
  obtain ⟨j1, hj1⟩ : ∃ j, e1 + b = j := ⟨_, rfl⟩
  rw [hj1] at i1 x1 m1 ⊢
  obtain ⟨y, hy⟩ : ∃ y, us[j1]?.getD 0 = y := ⟨_, rfl⟩
  rw [hy] at x1 ⊢
  obtain ⟨m, hm⟩ : ∃ m, us.length = m := ⟨_, rfl⟩
  rw [hm] at hE i1 h9 x1 ⊢
  have w1 : IntKind.i64.wrap (e1 : Int) = (e1 : Int) := IntWalk.i64_in _ (by omega)
  have w2 : IntKind.i64.wrap (j1 : Int) = (j1 : Int) := IntWalk.i64_in _ (by omega)
  have b1 : (j1 : Int) < (m : Int) := by omega
  obtain ⟨c0, c1, -⟩ := hE.box.two
  have HE := Lib.hid hE
  clear hin hc hl he1 hj1 hy hm hE
  go_enter Try.func35, Try.ntmps35
  go_wp2_with fail
  go_ret
  exact ⟨ret_bool (by by_cases h : y = 1 <;> simp [h]), HE.out.bel⟩

set_option maxRecDepth 4000 in
set_option maxHeartbeats 1000000 in
theorem allows_any (nk : Nat) (p : Option Addr) (cap : Nat) (us : List Int) (a b : Nat) (w : World) (lo hi : Nat) (hin : Ri lo hi w p us) (hn : nk ≤ 3) (hl : us.length = nk * nk) (ha : a < nk) (hb : b < nk) :
    Calls Try.prog 41 #[ruleV nk p us.length cap, .int .i64 (a : Int), .int .i64 (b : Int)] w fun e w' => e = .returned (.bool (decide (us[a * nk + b]?.getD 0 = 1))) ∧ Below w.heap.size w w' := by
  have hE := RulE.start w nk p us.length cap
  have i1 := idx_lt ha hb
  rw [← hl] at i1
  have h9 : us.length ≤ 9 := by rw [hl]; exact Nat.mul_le_mul hn hn
  obtain ⟨bl, off, rfl, -, -, hbs, hc⟩ := hin.int (by omega)
  have x1 := (hE.bel.cell (p := ⟨bl, off + (a * nk + b), none⟩) hbs).trans (hc _ i1)
  have m1 : (a : Int) * (nk : Int) + (b : Int) = ((a * nk + b : Nat) : Int) := by push_cast; rfl
  have q1 : (a : Int) * (nk : Int) = ((a * nk : Nat) : Int) := by push_cast; rfl
  obtain ⟨e1, he1⟩ : ∃ e, a * nk = e := ⟨_, rfl⟩
  rw [he1] at i1 x1 m1 q1 ⊢
  rw [q1] at m1
  obtain ⟨j1, hj1⟩ : ∃ j, e1 + b = j := ⟨_, rfl⟩
  rw [hj1] at i1 x1 m1 ⊢
  obtain ⟨y, hy⟩ : ∃ y, us[j1]?.getD 0 = y := ⟨_, rfl⟩
  rw [hy] at x1 ⊢
  obtain ⟨m, hm⟩ : ∃ m, us.length = m := ⟨_, rfl⟩
  rw [hm] at hE i1 h9 x1 ⊢
  have w1 : IntKind.i64.wrap (e1 : Int) = (e1 : Int) := IntWalk.i64_in _ (by omega)
  have w2 : IntKind.i64.wrap (j1 : Int) = (j1 : Int) := IntWalk.i64_in _ (by omega)
  have b1 : (j1 : Int) < (m : Int) := by omega
  have na : ¬ (a : Int) = -1 := by omega
  have nb : ¬ (b : Int) = -1 := by omega
  obtain ⟨c0, c1, -⟩ := hE.box.two
  have HE := Lib.hid hE
  clear hin hc hl he1 hj1 hy hm hE
  go_enter Try.func41, Try.ntmps41
  go_wp2_with fail
  go_ret
  exact ⟨ret_bool (by by_cases h : y = 1 <;> simp [h]), HE.out.bel⟩

/-- a call that boxes a Row and a Rule -/
structure TwoE (w : World) (g h : Nat) (s : Int) (ring : Bool) (p : Option Addr) (m cap : Nat) (u : Int) (q : Option Addr) (m2 c : Nat) (wr : World) : Prop where
  row : OwnArr wr g 36 [.int .i64 s, .bool ring, .slice p m cap]
  rul : OwnArr wr h 27 [.int .i64 u, .slice q m2 c]
  bel : Below w.heap.size w wr
theorem TwoE.start (w : World) (s : Int) (ring : Bool) (p : Option Addr) (m cap : Nat) (u : Int) (q : Option Addr) (m2 c : Nat) :
    TwoE w w.heap.size (w.heap.size + 1) s ring p m cap u q m2 c ((w.alloc (.cells #[.int .i64 s, .bool ring, .slice p m cap] 36)).alloc (.cells #[.int .i64 u, .slice q m2 c] 27)) :=
  ⟨(OwnArr.made w _ [_, _, _]).alloc _, OwnArr.mk' rfl (by simp), ((Below.refl _ _).alloc (Nat.le_refl _) _).alloc (by simp) _⟩
theorem TwoE.next {w : World} {g h : Nat} {s : Int} {ring : Bool} {p : Option Addr} {m cap : Nat} {u : Int} {q : Option Addr} {m2 c : Nat} {wr w' : World} (x : TwoE w g h s ring p m cap u q m2 c wr) (hb : Below wr.heap.size wr w') : TwoE w g h s ring p m cap u q m2 c w' :=
  ⟨x.row.below hb x.row.lt, x.rul.below hb x.rul.lt, x.bel.trans (hb.mono x.bel.size)⟩
theorem TwoE.drew {w : World} {g h : Nat} {s : Int} {ring : Bool} {p : Option Addr} {m cap : Nat} {u : Int} {q : Option Addr} {m2 c : Nat} {wr : World} (x : TwoE w g h s ring p m cap u q m2 c wr) : TwoE w g h s ring p m cap u q m2 c wr.drew := ⟨x.row, x.rul, x.bel.drew⟩

set_option maxRecDepth 4000 in
set_option maxHeartbeats 2000000 in
theorem l8Kinds_any (s : Int) (ring : Bool) (p : Option Addr) (cap : Nat) (xs : List Int) (u : Int) (q : Option Addr) (c : Nat) (us : List Int) (kp : Option Addr) (kc : Nat) (ks : List Int) (w : World) (lo hi lo2 hi2 lo3 hi3 : Nat)
    (hin : Ri lo hi w p xs) (hin2 : Ri lo2 hi2 w q us) (hin3 : Ri lo3 hi3 w kp ks) (hlen : xs.length ≤ 1048576) (hlen2 : us.length ≤ 1048576) (hlen3 : ks.length ≤ 1048576) :
    Calls Try.prog 32 #[rowV s ring p xs.length cap, ruleV u q us.length c, .slice kp ks.length kc] w fun e w' => e = .returned (.bool (kinB s ring xs u us ks)) ∧ Below w.heap.size w w' := by
  have hE := TwoE.start w s ring p xs.length cap u q us.length c
  have RW := fun w' (hb : Below w.heap.size w w') => l2Row_any s ring p cap xs w' lo hi (hin.bel hb) hlen
  have RU := fun w' (hb : Below w.heap.size w w') => l8Rule_any u q c us w' lo2 hi2 (hin2.bel hb) hlen2
  unfold kinB
  cases hr : rowB s ring xs with
  | false =>
    rw [hr] at RW
    rw [Bool.false_and, Bool.false_and]
    replace RW := Lib.hid RW
    obtain ⟨m, hm⟩ : ∃ m, xs.length = m := ⟨_, rfl⟩
    obtain ⟨m2, hm2⟩ : ∃ m, us.length = m := ⟨_, rfl⟩
    obtain ⟨m3, hm3⟩ : ∃ m, ks.length = m := ⟨_, rfl⟩
    rw [hm] at RW
    rw [hm, hm2] at hE
    rw [hm, hm2, hm3]
    have HE := Lib.hid hE
    obtain ⟨c0, c1, c2, -⟩ := HE.out.row.three
    clear RU hin hin2 hin3 hr hm hm2 hm3 hE hlen hlen2 hlen3
    go_enter Try.func32, Try.ntmps32
    go_wp2_with fail
    refine (RW.out _ HE.out.bel).mono ?_
    rintro e w1 ⟨rfl, hb⟩
    have HE1 := Lib.hid (HE.out.next hb)
    clear hb c0 c1 c2
    go_wp2_with fail
    go_ret
    exact ⟨rfl, HE1.out.bel⟩
  | true =>
    rw [hr] at RW
    cases hu : ruleB u us with
    | false =>
      rw [hu] at RU
      rw [Bool.true_and, Bool.false_and]
      replace RW := Lib.hid RW
      replace RU := Lib.hid RU
      obtain ⟨m, hm⟩ : ∃ m, xs.length = m := ⟨_, rfl⟩
      obtain ⟨m2, hm2⟩ : ∃ m, us.length = m := ⟨_, rfl⟩
      obtain ⟨m3, hm3⟩ : ∃ m, ks.length = m := ⟨_, rfl⟩
      rw [hm] at RW
      rw [hm2] at RU
      rw [hm, hm2] at hE
      rw [hm, hm2, hm3]
      have HE := Lib.hid hE
      obtain ⟨c0, c1, c2, -⟩ := HE.out.row.three
      clear hin hin2 hin3 hr hu hm hm2 hm3 hE hlen hlen2 hlen3
      go_enter Try.func32, Try.ntmps32
      go_wp2_with fail
      refine (RW.out _ HE.out.bel).mono ?_
      rintro e w1 ⟨rfl, hb⟩
      have HE1 := Lib.hid (HE.out.next hb)
      obtain ⟨d0, d1, -⟩ := HE1.out.rul.two
      clear hb c0 c1 c2
      go_wp2_with fail
      refine (RU.out _ HE1.out.bel).mono ?_
      rintro e w2 ⟨rfl, hb⟩
      have HE2 := Lib.hid (HE1.out.next hb)
      clear hb d0 d1
      go_wp2_with fail
      go_ret
      exact ⟨rfl, HE2.out.bel⟩
    | true =>
      rw [hu] at RU
      rw [Bool.true_and, Bool.true_and]
      obtain ⟨n, S, rfl, rfl, h2, hn, h3⟩ := rowB_is hr
      obtain ⟨nk, rfl, hk1, hk3, hkl, -⟩ := ruleB_is hu
      have htl := ints_tk_len n S
      replace RW := Lib.hid RW
      replace RU := Lib.hid RU
      have HCW := Lib.hid (fun (w' : World) (hb : Below w.heap.size w w') (h0 : 0 < ks.length) => (hin3.bel hb).int h0)
      have HF := Lib.hid (fun j h hx => kindsB_false (u := (nk : Int)) (ks := ks) (j := j) h hx)
      have HT := Lib.hid (fun h => kindsB_true (u := (nk : Int)) (ks := ks) h)
      obtain ⟨K, hK⟩ : ∃ K, kindsB (nk : Int) ks = K := ⟨_, rfl⟩
      simp only [hK] at HF HT
      rw [hK]
      obtain ⟨m, hm⟩ : ∃ m, (ints (tk n S)).length = m := ⟨_, rfl⟩
      obtain ⟨m2, hm2⟩ : ∃ m, us.length = m := ⟨_, rfl⟩
      obtain ⟨m3, hm3⟩ : ∃ m, ks.length = m := ⟨_, rfl⟩
      rw [hm] at RW htl
      rw [hm2] at RU
      rw [hm, hm2] at hE
      rw [hm3] at HF HT HCW hlen3
      rw [hm, hm2, hm3]
      obtain ⟨Z, hZ⟩ : ∃ Z : Bool, (decide ((m3 : Int) = (n : Int) - (m : Int)) && K) = Z := ⟨_, rfl⟩
      rw [hZ]
      replace hZ := Lib.hid hZ
      have HE := Lib.hid hE
      obtain ⟨c0, c1, c2, -⟩ := HE.out.row.three
      have hwn : IntKind.i64.wrap ((n : Int) - (m : Int)) = (n : Int) - (m : Int) := IntWalk.i64_in _ (by omega)
      clear hin hin2 hin3 hr hu hm hm2 hm3 hE hlen hlen2 hK hkl
      go_enter Try.func32, Try.ntmps32
      go_wp2_with fail
      refine (RW.out _ HE.out.bel).mono ?_
      rintro e w1 ⟨rfl, hb⟩
      have HE1 := Lib.hid (HE.out.next hb)
      obtain ⟨d0, d1, -⟩ := HE1.out.rul.two
      clear hb c0 c1 c2 RW
      go_wp2_with fail
      refine (RU.out _ HE1.out.bel).mono ?_
      rintro e w2 ⟨rfl, hb⟩
      have HE2 := Lib.hid (HE1.out.next hb)
      obtain ⟨c0, c1, c2, -⟩ := HE2.out.row.three
      clear hb d0 d1 HE HE1 RU
      by_cases hlk : (m3 : Int) = (n : Int) - (m : Int)
      · have hzk := hZ.out
        rw [decide_eq_true hlk, Bool.true_and] at hzk
        subst hzk
        have hlk2 : (n : Int) - (m : Int) = (m3 : Int) := by omega
        clear hlk
        go_wp2_with fail
        clear c0 c1 c2
        go_loopw [7] (fun i wr => ∃ j : Nat, j ≤ m3 ∧ i = .int .i64 (j : Int) ∧ Hid (∀ j', j' < j → (decide (0 ≤ ks[j']?.getD 0) && decide (ks[j']?.getD 0 ≤ (nk : Int) - 1)) = true) ∧ Hid (TwoE w w.heap.size (w.heap.size + 1) n ring p m cap nk q m2 c wr)) (fun i _ => m3 - (intOf i).toNat)
        case atStart => exact ⟨0, Nat.zero_le _, rfl, by show ∀ _, _; intro a h; omega, HE2⟩
        case round =>
          obtain ⟨j, hj, rfl, HA, HE3⟩ := hrel
          clear HE2
          obtain ⟨d0, d1, -⟩ := HE3.out.rul.two
          by_cases hlt : j < m3
          · have hji : (j : Int) < (m3 : Int) := by omega
            have hwj : IntKind.i64.wrap ((j : Int) + 1) = (j : Int) + 1 := IntWalk.i64_in _ (by omega)
            have hwk : IntKind.i64.wrap ((nk : Int) - 1) = (nk : Int) - 1 := IntWalk.i64_in _ (by omega)
            obtain ⟨bl, off, rfl, -, -, -, hc⟩ := HCW.out wr HE3.out.bel (by omega)
            have x1 := hc j (by omega)
            have bad := HF.out j hlt
            have HANEXT : Hid ((decide (0 ≤ ks[j]?.getD 0) && decide (ks[j]?.getD 0 ≤ (nk : Int) - 1)) = true → ∀ j', j' < j + 1 → (decide (0 ≤ ks[j']?.getD 0) && decide (ks[j']?.getD 0 ≤ (nk : Int) - 1)) = true) := by
              intro h c hc
              by_cases e : c = j
              · subst e; exact h
              · exact HA.out c (by omega)
            obtain ⟨y, hy⟩ : ∃ y, ks[j]?.getD 0 = y := ⟨_, rfl⟩
            rw [hy] at x1 bad HANEXT
            have IN := fun w' => (l1In_any y 0 ((nk : Int) - 1) w').mono (R' := fun e w'' => e = .returned (.bool (decide (0 ≤ y) && decide (y ≤ (nk : Int) - 1))) ∧ w'' = w') (by rintro e w2 ⟨h1, h2⟩; exact ⟨h1, h2.symm⟩)
            obtain ⟨G, hG⟩ : ∃ G : Bool, (decide (0 ≤ y) && decide (y ≤ (nk : Int) - 1)) = G := ⟨_, rfl⟩
            rw [hG] at IN bad HANEXT
            replace IN := Lib.hid IN
            have HED := Lib.hid HE3.out.drew
            clear hc hy hG HE3 HA
            cases G with
            | false =>
              have hKf : K = false := bad rfl
              subst hKf
              clear bad HANEXT
              go_wp2_with fail
              refine wp_region_still_lit (by kernel_rfl) (by kernel_rfl) ?_
              repeat still_step
              still_call (IN.out _)
              repeat still_step
              refine wpStill_nil ?_
              go_wp2_with fail
              go_ret
              exact ⟨rfl, HED.out.bel⟩
            | true =>
              have HN := Lib.hid (HANEXT.out rfl)
              clear bad HANEXT
              go_wp2_with fail
              refine wp_region_still_lit (by kernel_rfl) (by kernel_rfl) ?_
              repeat still_step
              still_call (IN.out _)
              repeat still_step
              refine wpStill_nil ?_
              go_wp2_with fail
              go_roundw
              case rel => exact ⟨j + 1, by omega, by go_num, HN, HED⟩
              case measure => simp [intOf]; omega
          · have hjm : j = m3 := by omega
            subst hjm
            have hno : ¬ (j : Int) < (j : Int) := by omega
            have hKt : K = true := HT.out HA.out
            subst hKt
            go_wp2_with fail
            go_ret
            exact ⟨rfl, HE3.out.bel⟩
      · have hzk := hZ.out
        rw [decide_eq_false hlk, Bool.false_and] at hzk
        subst hzk
        go_wp2_with fail
        go_ret
        exact ⟨rfl, HE2.out.bel⟩
end Go.Proofs.Ytlknghghefiokaa
