/- Chapter 8: numbers of couples, parties, couples together, on both sides: spec.l8Couples, l4Order, l8Together, IsParty, CouplesTogether; impl.hasCouples, isParty, isCouple, IsParty, CouplesTogether. -/
import Derived.Test.YteabodhkgkffiaaParM8
import Derived.Test.YteabodhkgkffiaaIsOrd
import Derived.Test.YteabodhkgkffiaaHasS
import Derived.Test.YteabodhkgkffiaaIsRow
import Derived.Deep.DeepCutAuto
import Derived.StillTailTactics
namespace Go.Proofs.Yteabodhkgkffiaa
open Go.RowKit

/-- a number of couples -/
def couB (k : Int) (ring : Bool) : Bool := decide (1 ≤ k) && (decide (k ≤ 6) && (!ring || decide (1 < k)))
theorem couB_is {k : Int} {ring : Bool} (h : couB k ring = true) : ∃ n : Nat, k = n ∧ 1 ≤ n ∧ n ≤ 6 ∧ (ring = true → 2 ≤ n) := by
  unfold couB at h
  simp only [Bool.and_eq_true, decide_eq_true_eq, Bool.or_eq_true, Bool.not_eq_true'] at h
  refine ⟨k.toNat, by omega, by omega, by omega, fun hr => ?_⟩
  rcases h.2.2 with h' | h'
  · rw [hr] at h'; cases h'
  · omega

/-- operations of a drawn region that are not wanted, taken in one go (a goal at such an operation is never to be looked at: it unfolds to the end) -/
def skipsB (ops : Array Oper) : Nat → List Oper → Act → Bool
  | 0, _, _ => true
  | n + 1, o :: r, a => !Region.wanted o (yielded ops a.tmps) && skipsB ops n r (a.put o.dst undef)
  | _ + 1, [], _ => false
def undefs : Nat → List Oper → Act → Act
  | 0, _, a => a
  | n + 1, o :: r, a => undefs n r (a.put o.dst undef)
  | _ + 1, [], a => a
theorem still_skips0 {P : Program} {ops : Array Oper} {w : World} {Q : Act → Prop} : ∀ (n : Nat) (l : List Oper) (a : Act), skipsB ops n l a = true → wpStill P ops w Q (l.drop n) (undefs n l a) → wpStill P ops w Q l a
  | 0, _, _, _, h => h
  | n + 1, [], _, h, _ => by cases h
  | n + 1, o :: r, a, hs, h => by
    unfold skipsB at hs
    simp only [Bool.and_eq_true, Bool.not_eq_true'] at hs
    unfold wpStill
    rw [hs.1]
    exact still_skips0 n r _ hs.2 h
theorem still_skips {P : Program} {ops : Array Oper} {w : World} {Q : Act → Prop} {a : Act} {o : Oper} {rest : List Oper} (n : Nat) (x : Operand) (v : Value) (hw : Region.wanted o (yielded ops a.tmps) = true) (ho : o.op = .move x) (hv : a.eval x = v)
    (hs : skipsB ops n rest (a.put o.dst v) = true) (h : wpStill P ops w Q (rest.drop n) (undefs n rest (a.put o.dst v))) : wpStill P ops w Q (o :: rest) a := by
  refine wpStill_step (fun K hK => ?_)
  rw [if_pos hw]
  unfold Oper.still execOp
  simp only [ho, hv, Sem.run_pure, Sem.run_bind, Oper.stillUpon, Result.andThen_ok]
  exact ⟨trivial, hK _ (still_skips0 n rest _ hs h)⟩

set_option maxHeartbeats 400000 in
theorem l8Couples_any (k : Int) (ring : Bool) (w : World) :
    Calls Try.prog 28 #[.int .i64 k, .bool ring] w fun e w' => e = .returned (.bool (couB k ring)) ∧ w = w' := by
  have IN := fun w' => l1In_any k 1 6 w'
  by_cases h1 : 1 ≤ k
  · by_cases h2 : k ≤ 6
    · rw [decide_eq_true h1, decide_eq_true h2] at IN
      have IN2 := Lib.hid IN
      clear IN
      cases ring with
      | false =>
        go_enter Try.func28, Try.ntmps28
        go_wp2_with fail
        refine (IN2.out _).mono ?_
        rintro e w1 ⟨rfl, rfl⟩
        go_wp2_with fail
        go_ret
        exact ⟨ret_bool (by simp [couB, h1, h2]), rfl⟩
      | true =>
        by_cases h3 : 1 < k
        · go_enter Try.func28, Try.ntmps28
          go_wp2_with fail
          refine (IN2.out _).mono ?_
          rintro e w1 ⟨rfl, rfl⟩
          go_wp2_with fail
          go_ret
          exact ⟨ret_bool (by simp [couB, h1, h2, h3]), rfl⟩
        · go_enter Try.func28, Try.ntmps28
          go_wp2_with fail
          refine (IN2.out _).mono ?_
          rintro e w1 ⟨rfl, rfl⟩
          go_wp2_with fail
          go_ret
          exact ⟨ret_bool (by unfold couB; rw [decide_eq_true h1, decide_eq_true h2]; rfl), rfl⟩
    · rw [decide_eq_true h1, decide_eq_false h2] at IN
      have IN2 := Lib.hid IN
      clear IN
      go_enter Try.func28, Try.ntmps28
      go_wp2_with fail
      refine (IN2.out _).mono ?_
      rintro e w1 ⟨rfl, rfl⟩
      go_wp2_with fail
      go_ret
      exact ⟨ret_bool (by simp [couB]; intros; omega), rfl⟩
  · rw [decide_eq_false h1] at IN
    have IN2 := Lib.hid IN
    clear IN
    go_enter Try.func28, Try.ntmps28
    go_wp2_with fail
    refine (IN2.out _).mono ?_
    rintro e w1 ⟨rfl, rfl⟩
    go_wp2_with fail
    go_ret
    exact ⟨ret_bool (by simp [couB]; intros; omega), rfl⟩

set_option maxHeartbeats 400000 in
theorem hasCouples_any (k : Int) (ring : Bool) (w : World) :
    Calls Try.prog 31 #[.int .i64 k, .bool ring] w fun e w' => e = .returned (.bool (couB k ring)) ∧ w = w' := by
  by_cases h1 : k ≤ 6
  · by_cases h2 : 2 ≤ k
    · go_enter Try.func31, Try.ntmps31
      go_wp2_with fail
      go_ret
      exact ⟨ret_bool (by have e1 : 1 ≤ k := by omega
                          have e2 : 1 < k := by omega
                          simp [couB, h1, e1, e2]), rfl⟩
    · by_cases h3 : k = 1
      · cases ring with
        | false =>
          go_enter Try.func31, Try.ntmps31
          go_wp2_with fail
          go_ret
          exact ⟨ret_bool (by subst h3; rfl), rfl⟩
        | true =>
          go_enter Try.func31, Try.ntmps31
          go_wp2_with fail
          go_ret
          exact ⟨ret_bool (by subst h3; rfl), rfl⟩
      · go_enter Try.func31, Try.ntmps31
        go_wp2_with fail
        go_ret
        exact ⟨ret_bool (by have e1 : ¬ 1 ≤ k := by omega
                            simp [couB, e1]), rfl⟩
  · go_enter Try.func31, Try.ntmps31
    go_wp2_with fail
    go_ret
    exact ⟨ret_bool (by simp [couB]; intros; omega), rfl⟩

set_option maxHeartbeats 400000 in
theorem isCouple_any (a b : Nat) (ha : a ≤ 1000) (hb : b ≤ 1000) (w : World) :
    Calls Try.prog 33 #[.int .i64 (a : Nat), .int .i64 (b : Nat)] w fun e w' => e = .returned (.bool (decide (a / 2 = b / 2))) ∧ w = w' := by
  have q1 : (a : Int).tdiv 2 = ((a / 2 : Nat) : Int) := (Int.ofNat_tdiv a 2).symm
  have q2 : (b : Int).tdiv 2 = ((b / 2 : Nat) : Int) := (Int.ofNat_tdiv b 2).symm
  have l1 : a / 2 ≤ a := Nat.div_le_self _ _
  have l2 : b / 2 ≤ b := Nat.div_le_self _ _
  obtain ⟨x, hx⟩ : ∃ x, a / 2 = x := ⟨_, rfl⟩
  obtain ⟨y, hy⟩ : ∃ y, b / 2 = y := ⟨_, rfl⟩
  rw [hx] at q1 l1 ⊢
  rw [hy] at q2 l2 ⊢
  have w1 : IntKind.i64.wrap (x : Int) = (x : Int) := IntWalk.i64_in _ (by omega)
  have w2 : IntKind.i64.wrap (y : Int) = (y : Int) := IntWalk.i64_in _ (by omega)
  clear hx hy
  go_enter Try.func33, Try.ntmps33
  go_wp2_with fail
  go_ret
  exact ⟨ret_bool (decide_eq_decide.2 (by omega)), rfl⟩

set_option maxRecDepth 4000 in
set_option maxHeartbeats 1000000 in
theorem l4Order_any8 (p : Option Addr) (cap : Nat) (xs : List Int) (n : Nat) (w : World) (lo hi : Nat) (hin : Ri lo hi w p xs) (hl : xs.length ≤ 1048576) (hn : n ≤ 1000) :
    Calls Try.prog 29 #[.slice p xs.length cap, .int .i64 n] w fun e w' => e = .returned (.bool (orderB n xs)) ∧ w = w' := by

  rw [orderB_swap]
  have HS := Lib.hid (fun (x : Int) => l1Has_any p cap xs x w lo hi hin hl)
  obtain ⟨m, hm⟩ : ∃ m, xs.length = m := ⟨_, rfl⟩
  rw [hm] at hl HS ⊢
  clear hin hm
  go_enter Try.func29, Try.ntmps29
  go_wp2_with fail
  go_loop [5] (fun i => ∃ k : Nat, k ≤ n ∧ i = .int .i64 k ∧ Hid (∀ j : Nat, j < k → (j : Int) ∈ xs)) (fun i => n - (intOf i).toNat)
  case atStart => exact ⟨0, Nat.zero_le _, rfl, by show ∀ _, _; intro j hj; omega⟩
  case round =>
    obtain ⟨k, hk, rfl, HJ⟩ := hrel
    by_cases hlt : k < n
    · have hk1 : (k : Int) < (n : Int) := by omega
      by_cases hmem : (k : Int) ∈ xs
      · have H1 := HS.out (k : Int)
        rw [decide_eq_true hmem] at H1
        replace H1 := Lib.hid H1
        have HJ2 : Hid (∀ j : Nat, j < k + 1 → (j : Int) ∈ xs) := by
          show ∀ _, _
          intro j hj
          by_cases e : j = k
          · subst e; exact hmem
          · exact HJ.out j (by omega)
        clear hmem
        go_wp2_with fail
        refine H1.out.mono ?_
        rintro e w1 ⟨rfl, rfl⟩
        go_wp2_with fail
        go_round
        case rel => exact ⟨k + 1, by omega, by go_num, HJ2⟩
        case measure => simp [intOf]; omega
      · have H1 := HS.out (k : Int)
        rw [decide_eq_false hmem] at H1
        replace H1 := Lib.hid H1
        have HF : Hid ((List.range n).all (fun i => decide ((i : Int) ∈ xs)) = false) := by
          show _ = _
          rw [List.all_eq_false]
          exact ⟨k, List.mem_range.2 hlt, by simpa using hmem⟩
        clear hmem
        go_wp2_with fail
        refine H1.out.mono ?_
        rintro e w1 ⟨rfl, rfl⟩
        go_wp2_with fail
        go_ret
        exact ⟨by rw [HF.out]; rfl, rfl⟩
    · have hkn : k = n := by omega
      subst hkn
      have HF : Hid ((List.range k).all (fun i => decide ((i : Int) ∈ xs)) = true) := by
        show _ = _
        rw [List.all_eq_true]
        intro i hi
        exact decide_eq_true (HJ.out i (List.mem_range.1 hi))
      have hk1 : ¬ (k : Int) < (k : Int) := by omega
      go_wp2_with fail
      go_ret
      exact ⟨by rw [HF.out, Bool.true_and]; rfl, rfl⟩

set_option maxRecDepth 4000 in
set_option maxHeartbeats 1600000 in
theorem l8Together_any (ring : Bool) (p : Option Addr) (cap : Nat) (l : List Nat) (w : World) (lo hi : Nat) (hin : Ri lo hi w p (ints l)) (h0 : 1 ≤ l.length) (h12 : l.length ≤ 12) (hl : ∀ x ∈ l, x ≤ 1000) :
    Calls Try.prog 32 #[.bool ring, .slice p (ints l).length cap] w fun e w' => e = .returned (.int .i64 ((tog8 ring l : Nat) : Int)) ∧ w.heap = w'.heap ∧ Below w.heap.size w w' := by
  obtain ⟨b, off, rfl, -, -, -, hc⟩ := hin.int (by rw [ints_length]; omega)
  rw [ints_length] at hc ⊢
  have HC := Lib.hid (fun j (h : j < l.length) => (hc j h).trans (by rw [ints_get h]))
  have HL := Lib.hid (fun j (h : j < l.length) => hl _ (nat_mem h))
  have HA : Hid (∀ j, tgA ring l j = if ((decide (j + 1 < l.length) || ring) && decide (l[j]?.getD 0 / 2 = l[(j + 1) % l.length]?.getD 0 / 2)) = true then 1 else 0) := fun j => rfl
  have HN : Hid (∀ j, tgN ring l (j + 1) = tgN ring l j + tgA ring l j) := fun j => rfl
  have HB := Lib.hid (tgN_le ring l)
  have HR : Hid (tog8 ring l = tgN ring l l.length) := rfl
  obtain ⟨R, hR⟩ : ∃ R, tog8 ring l = R := ⟨_, rfl⟩
  rw [hR] at HR ⊢
  have HZ : Hid (tgN ring l 0 = 0) := rfl
  obtain ⟨T, hT⟩ : ∃ T, tgN ring l = T := ⟨_, rfl⟩
  rw [hT] at HN HR HB HZ
  obtain ⟨F, hF⟩ : ∃ F : Nat → Nat, (fun j => l[j]?.getD 0) = F := ⟨_, rfl⟩
  have HF : Hid (∀ j, l[j]?.getD 0 = F j) := fun j => by rw [← hF]
  obtain ⟨n, hn⟩ : ∃ n, l.length = n := ⟨_, rfl⟩
  rw [hn] at h0 h12 HC HL HA HR ⊢
  replace hR := hR
  clear hin hc hl hR hT hF hn
  go_enter Try.func32, Try.ntmps32
  go_wp2_with fail
  go_loopw [5, 7] (fun vc vi wr => ∃ j : Nat, j ≤ n ∧ vc = .int .i64 ((T j : Nat) : Int) ∧ vi = .int .i64 (j : Int) ∧ Hid (w.heap = wr.heap ∧ Below w.heap.size w wr)) (fun _ vi _ => n - (intOf vi).toNat)
  case atStart => exact ⟨0, Nat.zero_le _, by rw [HZ.out]; rfl, rfl, ⟨rfl, Below.refl _ _⟩⟩
  case round =>
    obtain ⟨j, hj, rfl, rfl, HW⟩ := hrel
    by_cases hlt : j < n
    · have hk1 : (j : Int) < (n : Int) := by omega
      have hm : (j + 1) % n < n := Nat.mod_lt _ (by omega)
      have hrm : ((j : Int) + 1).tmod (n : Int) = (((j + 1) % n : Nat) : Int) := by rw [show (j : Int) + 1 = ((j + 1 : Nat) : Int) by omega]; exact (Int.ofNat_tmod _ _).symm
      have hn0 : ¬ (n : Int) = 0 := by omega
      have hn00 : ¬ n = 0 := by omega
      have hwn : IntKind.i64.wrap ((j : Int) + 1) = (j : Int) + 1 := IntWalk.i64_in _ (by omega)
      have c1 := HC.out j hlt
      have c2 := HC.out _ hm
      have l1 := HL.out j hlt
      have l2 := HL.out _ hm
      have e1 := HN.out j
      rw [HA.out j] at e1
      obtain ⟨m, hmm⟩ : ∃ m, (j + 1) % n = m := ⟨_, rfl⟩
      rw [hmm] at hm hrm c2 l2 e1
      rw [HF.out] at c1 c2 l1 l2
      simp only [HF.out] at e1
      obtain ⟨x, hx⟩ : ∃ x, F j = x := ⟨_, rfl⟩
      obtain ⟨y, hy⟩ : ∃ y, F m = y := ⟨_, rfl⟩
      rw [hx] at c1 l1 e1
      rw [hy] at c2 l2 e1
      have q1 : (x : Int).tdiv 2 = ((x / 2 : Nat) : Int) := (Int.ofNat_tdiv x 2).symm
      have q2 : (y : Int).tdiv 2 = ((y / 2 : Nat) : Int) := (Int.ofNat_tdiv y 2).symm
      have d1 : x / 2 ≤ x := Nat.div_le_self _ _
      have d2 : y / 2 ≤ y := Nat.div_le_self _ _
      obtain ⟨u, hu⟩ : ∃ u, x / 2 = u := ⟨_, rfl⟩
      obtain ⟨v, hv⟩ : ∃ v, y / 2 = v := ⟨_, rfl⟩
      rw [hu] at q1 d1 e1
      rw [hv] at q2 d2 e1
      have w1 : IntKind.i64.wrap (u : Int) = (u : Int) := IntWalk.i64_in _ (by omega)
      have w2 : IntKind.i64.wrap (v : Int) = (v : Int) := IntWalk.i64_in _ (by omega)
      have hwm : IntKind.i64.wrap (m : Int) = (m : Int) := IntWalk.i64_in _ (by omega)
      have tl := HB.out j
      obtain ⟨t, ht⟩ : ∃ t, T j = t := ⟨_, rfl⟩
      rw [ht] at tl e1 ⊢
      have c1' : wr.cell? ⟨b, off + j, none⟩ = some (.int .i64 (x : Int)) := by rw [← c1]; simp only [World.cell?, HW.out.1]
      have c2' : wr.cell? ⟨b, off + m, none⟩ = some (.int .i64 (y : Int)) := by rw [← c2]; simp only [World.cell?, HW.out.1]
      clear hmm hx hy hu hv ht c1 c2
      by_cases hj1 : j + 1 < n
      · have hj1i : (j : Int) + 1 < (n : Int) := by omega
        by_cases huv0 : u = v
        · rw [if_pos (by simp [hj1, huv0])] at e1
          have huv : (u : Int) = (v : Int) := by omega
          have HE : Hid (T (j + 1) = t + 1) := e1
          clear e1
          have HW2 : Hid (w.heap = wr.drew.heap ∧ Below w.heap.size w wr.drew) := ⟨HW.out.1, HW.out.2.drew⟩
          go_wp2_with fail
          go_still (by kernel_rfl)
          go_wp2_with fail
          go_roundw
          case rel => exact ⟨j + 1, by omega, by rw [HE.out]; go_num, by go_num, HW2⟩
          case measure => simp [intOf]; omega
        · rw [if_neg (by simp [huv0])] at e1
          have huv : ¬ (u : Int) = (v : Int) := by omega
          have HE : Hid (T (j + 1) = t + 0) := e1
          clear e1
          have HW2 : Hid (w.heap = wr.drew.heap ∧ Below w.heap.size w wr.drew) := ⟨HW.out.1, HW.out.2.drew⟩
          go_wp2_with fail
          go_still (by kernel_rfl)
          go_wp2_with fail
          go_roundw
          case rel => exact ⟨j + 1, by omega, by rw [HE.out]; rfl, by go_num, HW2⟩
          case measure => simp [intOf]; omega
      · have hj1i : ¬ (j : Int) + 1 < (n : Int) := by omega
        cases ring with
        | true =>
          by_cases huv0 : u = v
          · rw [if_pos (by simp [huv0])] at e1
            have huv : (u : Int) = (v : Int) := by omega
            have HE : Hid (T (j + 1) = t + 1) := e1
            clear e1
            have HW2 : Hid (w.heap = wr.drew.heap ∧ Below w.heap.size w wr.drew) := ⟨HW.out.1, HW.out.2.drew⟩
            go_wp2_with fail
            go_still (by kernel_rfl)
            go_wp2_with fail
            go_roundw
            case rel => exact ⟨j + 1, by omega, by rw [HE.out]; go_num, by go_num, HW2⟩
            case measure => simp [intOf]; omega
          · rw [if_neg (by simp [huv0])] at e1
            have huv : ¬ (u : Int) = (v : Int) := by omega
            have HE : Hid (T (j + 1) = t + 0) := e1
            clear e1
            have HW2 : Hid (w.heap = wr.drew.heap ∧ Below w.heap.size w wr.drew) := ⟨HW.out.1, HW.out.2.drew⟩
            go_wp2_with fail
            go_still (by kernel_rfl)
            go_wp2_with fail
            go_roundw
            case rel => exact ⟨j + 1, by omega, by rw [HE.out]; rfl, by go_num, HW2⟩
            case measure => simp [intOf]; omega
        | false =>
          rw [if_neg (by simp [hj1])] at e1
          have hjd := Lib.hid (decide_eq_false hj1i)
          clear hj1i hrm hn0 hn00 c1' c2' q1 q2 d1 d2 w1 w2 hwm l1 l2 hm
          skip
          have HE : Hid (T (j + 1) = t + 0) := e1
          clear e1
          have HW2 : Hid (w.heap = wr.drew.heap ∧ Below w.heap.size w wr.drew) := ⟨HW.out.1, HW.out.2.drew⟩
          go_wp2_with fail
          refine wp_region_still_lit (by kernel_rfl) (by kernel_rfl) ?_
          iterate 4 still_step
          simp only [hjd.out]
          iterate 3 still_step
          refine still_skips 14 (.tmp 21) (.bool false) (by kernel_rfl) rfl (by kernel_rfl) (by kernel_rfl) ?_
          simp only [List.drop_succ_cons, List.drop_zero, undefs, Act.put, List.setIfInBounds_toArray, List.set_cons_zero, List.set_cons_succ]
          still_step
          refine wpStill_nil ?_
          go_wp2_with fail
          go_roundw
          case rel => exact ⟨j + 1, by omega, by rw [HE.out]; rfl, by go_num, HW2⟩
          case measure => simp [intOf]; omega
    · have hjn : j = n := by omega
      subst hjn
      have hk1 : ¬ (j : Int) < (j : Int) := by omega
      have hr := HR.out
      obtain ⟨x, hx⟩ : ∃ x, T j = x := ⟨_, rfl⟩
      rw [hx] at hr ⊢
      subst hr
      clear HR hx
      go_wp2_with fail
      go_ret
      exact ⟨rfl, HW.out⟩
end Go.Proofs.Yteabodhkgkffiaa
