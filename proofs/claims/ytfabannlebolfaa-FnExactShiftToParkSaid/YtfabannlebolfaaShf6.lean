/- Chapter 6, spec side: spec.l6List, ShiftToPark. -/
import Derived.Test.YtfabannlebolfaaPow6
import Derived.Test.YtfabannlebolfaaPrkM6
import Derived.Test.YtfabannlebolfaaHasS
namespace Go.Proofs.Ytfabannlebolfaa
open Go.RowKit

/-- a list of cars parks on a line of n free seats -/
def cntG (p : Nat) (m : List Nat) (j : Nat) : Nat := ((m.take j).filter (fun c => decide (p ≤ c))).length
def parkB (n : Nat) (m : List Nat) : Bool := (List.range n).all (fun p => decide (cntG p m m.length ≤ n - p)) && !decide (n ∈ m)
theorem cntG_succ {p : Nat} {m : List Nat} {j : Nat} (h : j < m.length) : cntG p m (j + 1) = cntG p m j + (if p ≤ m[j]?.getD 0 then 1 else 0) := by
  unfold cntG
  rw [List.take_succ_eq_append_getElem h, List.filter_append, List.length_append, List.getElem?_eq_getElem h]
  simp only [Option.getD_some, List.filter_cons, List.filter_nil, decide_eq_true_eq]
  split <;> rfl
theorem cntG_le (p : Nat) (m : List Nat) (j : Nat) : cntG p m j ≤ j := by
  unfold cntG
  exact Nat.le_trans (List.length_filter_le _ _) (by rw [List.length_take]; omega)
theorem ints_mem {m : List Nat} {n : Nat} : ((n : Int) ∈ ints m) ↔ n ∈ m := by
  unfold ints
  rw [List.mem_map]
  constructor
  · rintro ⟨x, hx, e⟩
    have : x = n := by omega
    rwa [← this]
  · intro h
    exact ⟨n, h, rfl⟩

set_option maxRecDepth 4000 in
set_option maxHeartbeats 2000000 in
theorem l6List_any (n : Nat) (q : Option Addr) (c : Nat) (m : List Nat) (w : World) (lo hi : Nat) (hin : Ri lo hi w q (ints m)) (hn : n ≤ 12) (hl : m.length ≤ 12) :
    Calls Try.prog 41 #[.int .i64 (n : Nat), .slice q (ints m).length c] w fun e w' => e = .returned (.bool (parkB n m)) ∧ w = w' := by
  have HI := Lib.hid hin
  have LH := l1Has_any q c (ints m) (n : Int) w lo hi hin (by rw [ints_length]; omega)
  rw [decide_eq_decide.2 (ints_mem (m := m) (n := n))] at LH
  have HNO : Hid (∀ p, p < n → ¬ cntG p m m.length ≤ n - p → parkB n m = false) := by
    show ∀ _, _
    intro p hp h
    cases hb : parkB n m with
    | false => rfl
    | true =>
      unfold parkB at hb
      rw [Bool.and_eq_true, List.all_eq_true] at hb
      exact absurd (of_decide_eq_true (hb.1 p (List.mem_range.2 hp))) h
  have HYE : Hid ((∀ p, p < n → cntG p m m.length ≤ n - p) → parkB n m = !decide (n ∈ m)) := by
    show _ → _
    intro h
    unfold parkB
    rw [List.all_eq_true.2 (fun p hp => decide_eq_true (h p (List.mem_range.1 hp))), Bool.true_and]
  obtain ⟨R, hR⟩ : ∃ R, parkB n m = R := ⟨_, rfl⟩
  rw [hR] at HNO HYE ⊢
  rw [ints_length] at LH ⊢
  obtain ⟨k, hk⟩ : ∃ k, m.length = k := ⟨_, rfl⟩
  rw [hk] at LH HNO HYE hl ⊢
  have HK := Lib.hid hk
  obtain ⟨D, hD⟩ : ∃ D, decide (n ∈ m) = D := ⟨_, rfl⟩
  rw [hD] at LH HYE
  replace LH := Lib.hid LH
  clear hin hR hk hD
  go_enter Try.func41, Try.ntmps41
  go_wp2_with fail
  go_loop [5, 6, 7] (fun pv _ _ => ∃ p : Nat, p ≤ n ∧ pv = .int .i64 (p : Int) ∧ Hid (∀ i, i < p → cntG i m k ≤ n - i)) (fun pv _ _ => n - (intOf pv).toNat)
  case atStart => exact ⟨0, Nat.zero_le _, rfl, Lib.hid (fun i h => absurd h (Nat.not_lt_zero _))⟩
  case round =>
    obtain ⟨p, hp, rfl, HS⟩ := hrel
    by_cases hlt : p < n
    · have hp1 : (p : Int) < (n : Int) := by omega
      go_wp2_with fail
      go_loop [6, 7] (fun cv iv' => ∃ j : Nat, j ≤ k ∧ iv' = .int .i64 (j : Int) ∧ cv = .int .i64 ((cntG p m j : Nat) : Int)) (fun _ iv' => k - (intOf iv').toNat)
      case atStart => exact ⟨0, Nat.zero_le _, rfl, rfl⟩
      case round =>
        obtain ⟨j, hj, rfl, rfl⟩ := hrel
        by_cases hjk : j < k
        · have hj1 : (j : Int) < (k : Int) := by omega
          have hj0 : (0 : Int) ≤ (j : Int) := by omega
          have hjl : j < m.length := by rw [HK.out]; exact hjk
          obtain ⟨b, off, rfl, -, -, -, hc⟩ := HI.out.int (by rw [ints_length]; omega)
          have h0 := hc j (by rw [ints_length]; exact hjl)
          rw [ints_get hjl] at h0
          have hst := cntG_succ (p := p) hjl
          have hle := cntG_le p m j
          obtain ⟨x, hx⟩ : ∃ x, m[j]?.getD 0 = x := ⟨_, rfl⟩
          rw [hx] at h0 hst
          obtain ⟨y, hy⟩ : ∃ y, cntG p m j = y := ⟨_, rfl⟩
          rw [hy] at hst hle ⊢
          by_cases hpx : p ≤ x
          · have hpx1 : (p : Int) ≤ (x : Int) := by omega
            rw [if_pos hpx] at hst
            have HST := Lib.hid hst
            have hwy : IntKind.i64.wrap ((y : Int) + 1) = (y : Int) + 1 := IntWalk.i64_in _ (by omega)
            clear hc hx hy hst
            go_wp2_with fail
            go_round
            case rel => exact ⟨j + 1, by omega, by go_num, by rw [HST.out]; rfl⟩
            case measure => simp [intOf]; omega
          · have hpx1 : ¬ (p : Int) ≤ (x : Int) := by omega
            rw [if_neg hpx] at hst
            have HST := Lib.hid hst
            clear hc hx hy hst
            go_wp2_with fail
            go_round
            case rel => exact ⟨j + 1, by omega, by go_num, by rw [HST.out]; rfl⟩
            case measure => simp [intOf]; omega
        · have hjk2 : j = k := by omega
          subst hjk2
          have hj1 : ¬ (j : Int) < (j : Int) := by omega
          have hno := HNO.out p hlt
          have hle := cntG_le p m j
          obtain ⟨y, hy⟩ : ∃ y, cntG p m j = y := ⟨_, rfl⟩
          have HY := Lib.hid hy
          rw [hy] at hno hle ⊢
          have hwn : IntKind.i64.wrap ((n : Int) - (p : Int)) = (n : Int) - (p : Int) := IntWalk.i64_in _ (by omega)
          by_cases hyn : y ≤ n - p
          · have hyn1 : ¬ (n : Int) - (p : Int) < (y : Int) := by omega
            have HS2 : Hid (∀ i, i < p + 1 → cntG i m j ≤ n - i) := by
              show ∀ _, _
              intro i hi'
              by_cases e : i = p
              · subst e; rw [HY.out]; exact hyn
              · exact HS.out i (by omega)
            clear hno hy HY HS
            go_wp2_with fail
            go_round
            case rel => exact ⟨p + 1, by omega, by go_num, HS2⟩
            case measure => simp [intOf]; omega
          · have hyn1 : (n : Int) - (p : Int) < (y : Int) := by omega
            have hR := hno hyn
            subst hR
            clear hno hy HY HS HNO HYE
            go_wp2_with fail
            go_ret
            exact ⟨rfl, rfl⟩
    · have hpn : p = n := by omega
      subst hpn
      have hp1 : ¬ (p : Int) < (p : Int) := by omega
      have hR := HYE.out HS.out
      subst hR
      clear HNO HYE HS
      go_wp2_with fail
      refine LH.out.mono ?_
      rintro e w1 ⟨rfl, rfl⟩
      go_wp2_with fail
      go_ret
      exact ⟨rfl, rfl⟩

/-- numbers of a list of preferences on a line of n free seats and a way out -/
def shfB (n : Int) (cs : List Int) : Bool := good6 n && (decide ((cs.length : Int) = n) && cs.all (fun x => decide (0 ≤ x) && decide (x ≤ n)))
theorem shfB_is {n : Int} {cs : List Int} (h : shfB n cs = true) : ∃ (a : Nat) (l : List Nat), n = a ∧ cs = ints l ∧ 1 ≤ a ∧ a ≤ 12 ∧ l.length = a ∧ ∀ x ∈ l, x ≤ a := by
  unfold shfB at h
  rw [Bool.and_eq_true, Bool.and_eq_true, decide_eq_true_eq, List.all_eq_true] at h
  obtain ⟨a, rfl, h1, h2⟩ := good6_is h.1
  have hc : ∀ x ∈ cs, ∃ k : Nat, x = k ∧ k ≤ a := by
    intro x hx
    have := h.2.2 x hx
    rw [Bool.and_eq_true, decide_eq_true_eq, decide_eq_true_eq] at this
    exact ⟨x.toNat, by omega, by omega⟩
  refine ⟨a, cs.map Int.toNat, rfl, ?_, h1, h2, by rw [List.length_map]; have := h.2.1; omega, ?_⟩
  · unfold ints
    rw [List.map_map]
    conv => lhs; rw [← List.map_id cs]
    apply List.map_congr_left
    intro x hx
    obtain ⟨k, rfl, _⟩ := hc x hx
    simp
  · intro x hx
    rw [List.mem_map] at hx
    obtain ⟨y, hy, rfl⟩ := hx
    obtain ⟨k, rfl, hk⟩ := hc y hy
    simpa using hk
def mvM (n : Nat) (l : List Nat) (s j : Nat) : List Nat := (l.take j).map (fun c => (c + s) % (n + 1))
theorem mv_succ {n : Nat} {l : List Nat} {s j : Nat} (h : j < l.length) : ints (mvM n l s (j + 1)) = ints (mvM n l s j) ++ [(((l[j]?.getD 0 + s) % (n + 1) : Nat) : Int)] := by
  unfold mvM
  rw [List.take_succ_eq_append_getElem h, List.map_append, List.getElem?_eq_getElem h]
  unfold ints
  rw [List.map_append]
  rfl
theorem mv_len {n : Nat} {l : List Nat} {s j : Nat} (h : j ≤ l.length) : (mvM n l s j).length = j := by
  unfold mvM
  rw [List.length_map, List.length_take]; omega
/-- the shift that parks -/
def shfM (n : Nat) (l : List Nat) : Option Nat := (List.range (n + 1)).find? (fun s => parkB n (mvM n l s l.length))
def shfR (n : Int) (cs : List Int) : Option Nat := if shfB n cs then shfM n.toNat (cs.map Int.toNat) else none
def optS : Option Nat → Int
  | none => 0
  | some s => (s : Int)
theorem shfR_is {n : Nat} {l : List Nat} (h : shfB n (ints l) = true) : shfR n (ints l) = shfM n l := by
  unfold shfR
  rw [if_pos h]
  have : (ints l).map Int.toNat = l := by
    unfold ints
    rw [List.map_map]
    conv => rhs; rw [← List.map_id l]
    apply List.map_congr_left
    intro x _
    simp
  rw [this]; simp

set_option maxRecDepth 4000 in
set_option maxHeartbeats 2000000 in
theorem shiftS_any (n : Int) (q : Option Addr) (c : Nat) (cs : List Int) (w : World) (lo hi : Nat) (hin : Ri lo hi w q cs) (_ : cs.length ≤ 1048576) :
    Calls Try.prog 23 #[.int .i64 n, .slice q cs.length c] w fun e w' => e = .returned (.tuple #[.int .i64 (optS (shfR n cs)), .bool (shfR n cs).isSome]) ∧ Below w.heap.size w w' := by
  obtain ⟨i0, hi0, hz0, hz1, hz2⟩ := info_parts infoInt
  have IN := fun w' => l1In_any n 1 12 w'
  have hg : (decide (1 ≤ n) && decide (n ≤ 12)) = good6 n := rfl
  rw [hg] at IN
  cases hg2 : good6 n with
  | false =>
    have hr : shfR n cs = none := by unfold shfR shfB; rw [hg2]; rfl
    rw [hr]
    rw [hg2] at IN
    replace IN := Lib.hid IN
    obtain ⟨m, hm⟩ : ∃ m, cs.length = m := ⟨_, rfl⟩
    rw [hm]
    clear hin hg hg2 hr
    go_enter Try.func23, Try.ntmps23
    go_wp2_with fail
    refine (IN.out _).mono ?_
    rintro e w1 ⟨rfl, rfl⟩
    go_wp2_with fail
    go_ret2
    exact ⟨rfl, Below.refl _ _⟩
  | true =>
    rw [hg2] at IN
    replace IN := Lib.hid IN
    obtain ⟨n, rfl, h1, h2⟩ := good6_is hg2
    by_cases hl : cs.length = n
    case neg =>
      have hr : shfR n cs = none := by unfold shfR shfB; rw [decide_eq_false (by omega : ¬ (cs.length : Int) = (n : Int))]; simp
      rw [hr]
      obtain ⟨m, hm⟩ : ∃ m, cs.length = m := ⟨_, rfl⟩
      rw [hm] at hl ⊢
      have hne : ¬ (m : Int) = (n : Int) := by omega
      clear hin hg hg2 hr
      go_enter Try.func23, Try.ntmps23
      go_wp2_with fail
      refine (IN.out _).mono ?_
      rintro e w1 ⟨rfl, rfl⟩
      go_wp2_with fail
      go_ret2
      exact ⟨rfl, Below.refl _ _⟩
    case pos =>
      have HNO : Hid (∀ j, j < n → (decide (0 ≤ cs[j]?.getD 0) && decide (cs[j]?.getD 0 ≤ (n : Int))) = false → shfR n cs = none) := by
        show ∀ _, _
        intro j hj h
        unfold shfR shfB
        have : cs.all (fun x => decide (0 ≤ x) && decide (x ≤ (n : Int))) = false := by
          cases hb : cs.all (fun x => decide (0 ≤ x) && decide (x ≤ (n : Int))) with
          | false => rfl
          | true =>
            rw [List.all_eq_true] at hb
            have := hb _ (List.getElem_mem (by omega : j < cs.length))
            rw [List.getElem?_eq_getElem (by omega)] at h
            simp only [Option.getD_some] at h
            rw [this] at h; cases h
        rw [this]; simp
      have HYE : Hid ((∀ j, j < n → (decide (0 ≤ cs[j]?.getD 0) && decide (cs[j]?.getD 0 ≤ (n : Int))) = true) → shfB n cs = true) := by
        show _ → _
        intro h
        unfold shfB
        rw [hg2, decide_eq_true (by omega : (cs.length : Int) = (n : Int)), Bool.true_and, Bool.true_and, List.all_eq_true]
        intro x hx
        obtain ⟨j, hj, rfl⟩ := List.getElem_of_mem hx
        have := h j (by omega)
        rw [List.getElem?_eq_getElem hj] at this
        exact this
      have IN2 := Lib.hid (fun (x : Int) w' => l1In_any x 0 (n : Int) w')
      have HI := Lib.hid (fun (w' : World) (h' : Below w.heap.size w w') => hin.below h' hin.top)
      obtain ⟨b, off, rfl, -, -, hbw, hc⟩ := hin.int (by omega)
      have HC := Lib.hid (fun (i : Nat) (hi' : i < n) (w' : World) (h' : Below w.heap.size w w') => (h'.cell (p := ⟨b, off + i, none⟩) hbw).trans (hc i (by omega)))
      have HLC := Lib.hid hl
      obtain ⟨R, hR⟩ : ∃ R, shfR n cs = R := ⟨_, rfl⟩
      have HR := Lib.hid hR
      rw [hR] at HNO ⊢
      rw [hl]
      clear hin hg hg2 hR hc hbw hl
      go_enter Try.func23, Try.ntmps23
      go_wp2_with fail
      refine (IN.out _).mono ?_
      rintro e w1 ⟨rfl, rfl⟩
      go_wp2_with fail
      go_loop [6] (fun i => ∃ j : Nat, j ≤ n ∧ i = .int .i64 (j : Int) ∧ Hid (∀ i, i < j → (decide (0 ≤ cs[i]?.getD 0) && decide (cs[i]?.getD 0 ≤ (n : Int))) = true)) (fun i => n - (intOf i).toNat)
      case atStart => exact ⟨0, Nat.zero_le _, rfl, Lib.hid (fun i h => absurd h (Nat.not_lt_zero _))⟩
      case round =>
        obtain ⟨j, hj, rfl, HS⟩ := hrel
        by_cases hlt : j < n
        · have hj1 : (j : Int) < (n : Int) := by omega
          have hj0 : (0 : Int) ≤ (j : Int) := by omega
          have h0 := HC.out j hlt _ (Below.refl _ _)
          have hno := HNO.out j hlt
          have I2 := IN2.out (cs[j]?.getD 0)
          obtain ⟨x, hx⟩ : ∃ x, cs[j]?.getD 0 = x := ⟨_, rfl⟩
          have HX := Lib.hid hx
          rw [hx] at h0 hno I2
          obtain ⟨B, hB⟩ : ∃ B, (decide (0 ≤ x) && decide (x ≤ (n : Int))) = B := ⟨_, rfl⟩
          have HB := Lib.hid hB
          rw [hB] at hno I2
          replace I2 := Lib.hid I2
          replace hno := Lib.hid hno
          clear hx hB
          go_wp2_with fail
          refine (I2.out _).mono ?_
          rintro e w2 ⟨rfl, rfl⟩
          cases B with
          | false =>
            have hr := hno.out rfl
            subst hr
            clear HYE HNO HR
            go_wp2_with fail
            go_ret2
            exact ⟨rfl, Below.refl _ _⟩
          | true =>
            have HS2 : Hid (∀ i, i < j + 1 → (decide (0 ≤ cs[i]?.getD 0) && decide (cs[i]?.getD 0 ≤ (n : Int))) = true) := by
              show ∀ _, _
              intro i hi'
              by_cases e : i = j
              · subst e; rw [HX.out]; exact HB.out
              · exact HS.out i (by omega)
            clear hno HX HB HS I2
            go_wp2_with fail
            go_round
            case rel => exact ⟨j + 1, by omega, by go_num, HS2⟩
            case measure => simp [intOf]; omega
        · have hjn : j = n := by omega
          subst hjn
          have hj1 : ¬ (j : Int) < (j : Int) := by omega
          have hB := HYE.out HS.out
          obtain ⟨a, l, e1, e2, -, -, hl, hle⟩ := shfB_is hB
          have e1' : a = j := by omega
          subst e1' e2
          have hr := HR.out
          rw [shfR_is hB] at hr
          have HSO : Hid (∀ s, s < a + 1 → parkB a (mvM a l s l.length) = true → (∀ t, t < s → parkB a (mvM a l t l.length) = false) → R = some s) := by
            show ∀ _, _
            intro s hs h1 h0
            rw [← hr]
            exact find_some hs h1 h0
          have HSN : Hid ((∀ s, s < a + 1 → parkB a (mvM a l s l.length) = false) → R = none) := by
            show _ → _
            intro h
            rw [← hr]
            exact find_none h
          rw [hl] at HSO HSN
          have HLL := Lib.hid hl
          have HLE := Lib.hid hle
          have HB0 := Lib.hid (Below.refl w.heap.size w)
          clear hB hr e1 hl hle HR HS HYE HNO HLC
          go_wp2_with fail
          go_loopw [7, 8, 9] (fun sv _ _ wr => ∃ t : Nat, t ≤ a + 1 ∧ sv = .int .i64 (t : Int) ∧ Hid (∀ s, s < t → parkB a (mvM a l s a) = false) ∧ Hid (Below w.heap.size w wr)) (fun sv _ _ _ => a + 1 - (intOf sv).toNat)
          case atStart => exact ⟨0, Nat.zero_le _, rfl, Lib.hid (fun i h => absurd h (Nat.not_lt_zero _)), HB0⟩
          case round =>
            obtain ⟨t, ht, rfl, HS, HB⟩ := hrel
            clear HB0
            by_cases hta : t ≤ a
            · have ht1 : (t : Int) ≤ (a : Int) := by omega
              have HO0 : Hid (Out wr.heap.size (wr.alloc (.cells #[] 3)) (.slice (some ⟨wr.heap.size, 0, none⟩) 0 0) (ints (mvM a l t 0))) := Out.nilLit wr
              have HB1 : Hid (Below wr.heap.size wr (wr.alloc (.cells #[] 3))) := (Below.refl _ _).alloc (Nat.le_refl _) _
              obtain ⟨wz, hwz⟩ : ∃ wz : World, wz = wr := ⟨_, rfl⟩
              subst hwz
              have hwa : IntKind.i64.wrap ((a : Int) + 1) = (a : Int) + 1 := IntWalk.i64_in _ (by omega)
              have ha0 : ¬ (a : Int) + 1 = 0 := by omega
              go_wp2_with fail
              go_loopw [8, 9] (fun v i wr => ∃ j : Nat, j ≤ a ∧ i = .int .i64 (j : Int) ∧ Hid (Out wz.heap.size wr v (ints (mvM a l t j))) ∧ Hid (Below wz.heap.size wz wr)) (fun _ i _ => a - (intOf i).toNat)
              case atStart => exact ⟨0, Nat.zero_le _, rfl, HO0, HB1⟩
              case round =>
                obtain ⟨j, hj, rfl, HO, HB2⟩ := hrel
                clear HO0 HB1
                have hBW := Lib.hid (HB.out.trans (HB2.out.mono HB.out.size))
                by_cases hja : j < a
                · have hj1 : (j : Int) < (a : Int) := by omega
                  have hj0 : (0 : Int) ≤ (j : Int) := by omega
                  have h0 := HC.out j hja _ hBW.out
                  have hjl : j < l.length := by rw [HLL.out]; exact hja
                  rw [ints_get hjl] at h0
                  have hxn := HLE.out _ (nat_mem hjl)
                  have hst := mv_succ (n := a) (s := t) hjl
                  have HL2 : Hid ((ints (mvM a l t j)).length ≤ j) := by show _ ≤ _; rw [ints_length, mv_len (by rw [HLL.out]; omega)]; exact Nat.le_refl _
                  obtain ⟨x, hx⟩ : ∃ x, l[j]?.getD 0 = x := ⟨_, rfl⟩
                  rw [hx] at h0 hst hxn
                  have hmod : ((x : Int) + (t : Int)).tmod ((a : Int) + 1) = (((x + t) % (a + 1) : Nat) : Int) := by rw [show (x : Int) + (t : Int) = ((x + t : Nat) : Int) by omega, show (a : Int) + 1 = ((a + 1 : Nat) : Int) by omega, Int.ofNat_tmod]
                  have hdl : (x + t) % (a + 1) < a + 1 := Nat.mod_lt _ (by omega)
                  obtain ⟨d, hd⟩ : ∃ d, (x + t) % (a + 1) = d := ⟨_, rfl⟩
                  rw [hd] at hmod hdl hst
                  have hwx : IntKind.i64.wrap ((x : Int) + (t : Int)) = (x : Int) + (t : Int) := IntWalk.i64_in _ (by omega)
                  have hwd : IntKind.i64.wrap (d : Int) = (d : Int) := IntWalk.i64_in _ (by omega)
                  have HST := Lib.hid hst
                  have hblk := Lib.hid (own_block HO.out)
                  have hsz := HB2.out.size
                  obtain ⟨l2, vs, hl2, hvs, hown⟩ := HO.out.open'
                  have hlk := HL2.out
                  rw [hl2] at hlk
                  replace hl2 := Lib.hid hl2
                  replace hvs := Lib.hid hvs
                  clear hst hx hd
                  go_wp2_with (at_builtin; refine wpList_append_own _ rfl _ _ 22 rfl wz.heap.size 3 i0 (.int .i64 0) 1 8 Try.underlying22 hi0 hz0 hz1 hz2 rfl (by decide) _ _ _ rfl (hown.alloc _) ⟨wr.heap.size, 0, none⟩ 1 1 [.int .i64 (d : Int)] rfl rfl (cell_one_new _ _ _) (fun x hx => by simp at hx; subst hx; rfl) (by unfold maxLen; omega) (by omega) (by simp; omega) ?_; intro v' w4 hown' hgrow4 hnil4)
                  have hG : Below wz.heap.size wr w4 := ((Below.refl wz.heap.size wr).alloc hsz _).grown hgrow4 (by simp; omega) hblk.out
                  have HB4 := Lib.hid (HB2.out.trans hG)
                  have HO4 : Hid (Out wz.heap.size w4 v' (ints (mvM a l t (j + 1)))) := by
                    show Out _ _ _ _
                    rw [HST.out]; exact Out.close hl2.out hvs.out hown'
                  clear hown' hgrow4 hnil4 hown hG
                  go_wp2
                  go_roundw
                  case rel => exact ⟨j + 1, by omega, by go_num, HO4, HB4⟩
                  case measure => simp [intOf]; omega
                · have hja2 : j = a := by omega
                  subst hja2
                  have hj1 : ¬ (j : Int) < (j : Int) := by omega
                  obtain ⟨qv, cv, rfl, -, -, hRv, -⟩ := HO.out.rd
                  have hml : (mvM j l t j).length = j := mv_len (by rw [HLL.out]; exact Nat.le_refl _)
                  have L6 := l6List_any j qv cv (mvM j l t j) wr _ _ hRv h2 (by omega)
                  rw [ints_length, hml] at L6 ⊢
                  have hso := HSO.out t (by omega)
                  obtain ⟨PB, hPB⟩ : ∃ PB, parkB j (mvM j l t j) = PB := ⟨_, rfl⟩
                  rw [hPB] at L6 hso
                  have HPB := Lib.hid hPB
                  have HSO2 := Lib.hid hso
                  replace L6 := Lib.hid L6
                  clear hRv hml hso hPB HO
                  go_wp2_with fail
                  refine L6.out.mono ?_
                  rintro e w5 ⟨rfl, rfl⟩
                  clear L6
                  cases PB with
                  | true =>
                    have hR := HSO2.out rfl HS.out
                    subst hR
                    clear HSO HSN HSO2 HPB
                    go_wp2_with fail
                    go_ret2
                    exact ⟨rfl, hBW.out⟩
                  | false =>
                    have HS2 : Hid (∀ s, s < t + 1 → parkB j (mvM j l s j) = false) := by
                      show ∀ _, _
                      intro s hs
                      by_cases e : s = t
                      · subst e; exact HPB.out
                      · exact HS.out s (by omega)
                    clear HSO2 HPB HS HB HB2
                    go_wp2_with fail
                    go_roundw
                    case rel => exact ⟨t + 1, by omega, by go_num, HS2, hBW⟩
                    case measure => simp [intOf]; omega
            · have hta2 : t = a + 1 := by omega
              have ht1 : ¬ (t : Int) ≤ (a : Int) := by omega
              have hR := HSN.out (by intro s hs; exact HS.out s (by omega))
              subst hR
              clear HSO HSN HS
              go_wp2_with fail
              go_ret2
              exact ⟨rfl, HB.out⟩
end Go.Proofs.Ytfabannlebolfaa
