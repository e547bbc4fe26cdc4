/- Chapter 6, spec side: spec.l6Places. -/
import Derived.Test.YtfabannlebolfaaBck6
import Derived.Test.YtfabannlebolfaaRowE6
import Derived.Deep.RegionHeld3
import Derived.BigGuard
namespace Go.Proofs.Ytfabannlebolfaa
open Go.RowKit

theorem take_at {P : Program} {md : Region.Mode} {ops : Array Oper} {Q : Exit → Act → World → Prop} {i d : Nat} {oi : Oper} {v : Value} {fuel : Nat} {listed : Array Bool} {a : Act} {w : World} (hi : ops[i]? = some oi) (hd : oi.dst = some d)
    (hs : Region.noSelect ops = true) (hf : Region.free md ops listed i = true) (hr : (Region.ready md ops listed).contains i = true)
    (hQ : ∀ c a w, Q (.panic c) (a.put oi.dst v) w → Q (.panic c) a w) (hy : Yields P ops oi v a)
    (h : wpAny P md ops Q fuel (listed.setIfInBounds i true) (a.put (some d) v) w) : wpAny P md ops Q (fuel + 1) listed a w :=
  wpAny_take hi hs hf hr hQ hy (hd ▸ h)

/-- a Row and a list of different free seats are valid -/
def plcP (xs cs : List Int) (i : Nat) : Bool := !decide (cs[i]?.getD 0 ∈ xs) && !decide (cs[i]?.getD 0 ∈ cs.take i)
def plcB (s : Int) (ring : Bool) (xs cs : List Int) : Bool := carsB s ring xs cs && (List.range cs.length).all (plcP xs cs)

set_option maxRecDepth 4000 in
set_option maxHeartbeats 2000000 in
theorem l6Places_any (s : Int) (ring : Bool) (p : Option Addr) (cap : Nat) (xs : List Int) (q : Option Addr) (c : Nat) (cs : List Int) (w : World) (lo hi lo2 hi2 : Nat) (hin : Ri lo hi w p xs) (hlen : xs.length ≤ 1048576) (hin2 : Ri lo2 hi2 w q cs) (hlen2 : cs.length ≤ 1048576) (hcap : cs.length ≤ c) (hcm : c ≤ maxLen) :
    Calls Try.prog 36 #[rowV s ring p xs.length cap, .slice q cs.length c] w fun e w' => e = .returned (.bool (plcB s ring xs cs)) ∧ Below w.heap.size w w' := by
  have hE := RowE.start w s ring p xs.length cap
  have CB := fun (w' : World) (h' : Below w.heap.size w w') => l6Cars_any s ring p cap xs q c cs w' lo hi lo2 hi2 (hin.below h' hin.top) hlen (hin2.below h' hin2.top) hlen2
  cases hc : carsB s ring xs cs with
  | false =>
    have hr : plcB s ring xs cs = false := by unfold plcB; rw [hc]; rfl
    rw [hr]
    rw [hc] at CB
    obtain ⟨m0, hm0⟩ : ∃ m, xs.length = m := ⟨_, rfl⟩
    obtain ⟨m, hm⟩ : ∃ m, cs.length = m := ⟨_, rfl⟩
    rw [hm0] at hE CB ⊢
    rw [hm] at CB ⊢
    have HE := Lib.hid hE
    replace CB := Lib.hid CB
    clear hin hin2 hE hm0 hm hc hr
    obtain ⟨c0, c1, c2, -⟩ := HE.out.row.three
    go_enter Try.func36, Try.ntmps36
    go_wp2_with fail
    refine (CB.out _ HE.out.bel).mono ?_
    rintro e w1 ⟨rfl, hb1⟩
    have HE1 := Lib.hid (HE.out.next hb1)
    clear hb1 c0 c1 c2 CB
    go_wp2_with fail
    go_ret
    exact ⟨rfl, HE1.out.bel⟩
  | true =>
    rw [hc] at CB
    have IS := Lib.hid (fun (x : Int) (w' : World) (h' : Below w.heap.size w w') => l2Is_any s ring p cap xs x w' lo hi (hin.below h' hin.top) hlen)
    have LH := Lib.hid (fun (j : Nat) (x : Int) (w' : World) (h' : Below w.heap.size w w') => l1Has_any q c (cs.take j) x w' lo2 hi2 ((hin2.below h' hin2.top).pfxK j) (by rw [List.length_take]; omega))
    have HI2 := Lib.hid (fun (w' : World) (h' : Below w.heap.size w w') => hin2.below h' hin2.top)
    have HNO : Hid (∀ j, j < cs.length → plcP xs cs j = false → plcB s ring xs cs = false) := by
      show ∀ _, _
      intro j hj h
      unfold plcB
      have : (List.range cs.length).all (plcP xs cs) = false := by
        cases hb : (List.range cs.length).all (plcP xs cs) with
        | false => rfl
        | true =>
          rw [List.all_eq_true] at hb
          rw [hb j (List.mem_range.2 hj)] at h; cases h
      rw [this, Bool.and_false]
    have HYE : Hid ((∀ j, j < cs.length → plcP xs cs j = true) → plcB s ring xs cs = true) := by
      show _ → _
      intro h
      unfold plcB
      rw [hc, Bool.true_and, List.all_eq_true]
      exact fun j hj => h j (List.mem_range.1 hj)
    obtain ⟨R, hR⟩ : ∃ R, plcB s ring xs cs = R := ⟨_, rfl⟩
    rw [hR] at HNO HYE ⊢
    obtain ⟨m0, hm0⟩ : ∃ m, xs.length = m := ⟨_, rfl⟩
    obtain ⟨m, hm⟩ : ∃ m, cs.length = m := ⟨_, rfl⟩
    rw [hm0] at hE CB IS ⊢
    rw [hm] at CB HNO HYE hlen2 hcap ⊢
    have HM := Lib.hid hm
    have HE := Lib.hid hE
    have hcm2 : c ≤ 9223372036854775807 := by unfold maxLen at hcm; omega
    replace CB := Lib.hid CB
    clear hin hin2 hE hm0 hm hc hR hlen
    obtain ⟨c0, c1, c2, -⟩ := HE.out.row.three
    go_enter Try.func36, Try.ntmps36
    go_wp2_with fail
    refine (CB.out _ HE.out.bel).mono ?_
    rintro e w1 ⟨rfl, hb1⟩
    have HE1 := Lib.hid (HE.out.next hb1)
    clear hb1 c0 c1 c2 CB HE
    go_wp2_with fail
    go_loopw [5] (fun i wr => ∃ (j : Nat), j ≤ m ∧ i = .int .i64 (j : Int) ∧ Hid (∀ i, i < j → plcP xs cs i = true) ∧ Hid (RowE w s ring p m0 cap wr)) (fun i _ => m - (intOf i).toNat)
    case atStart => exact ⟨0, Nat.zero_le _, rfl, Lib.hid (fun i h => absurd h (Nat.not_lt_zero _)), HE1⟩
    case round =>
      obtain ⟨j, hj, rfl, HS, HE⟩ := hrel
      clear HE1
      by_cases hlt : j < m
      · have hj1 : (j : Int) < (m : Int) := by omega
        have hj0 : (0 : Int) ≤ (j : Int) := by omega
        have hjc : (j : Int) ≤ (c : Int) := by omega
        have hjl : j < cs.length := by rw [HM.out]; exact hlt
        obtain ⟨b, off, rfl, -, -, hbw, hc⟩ := (HI2.out wr HE.out.bel).int (by omega)
        have h0 := hc j hjl
        have hno := HNO.out j hlt
        have hpd : plcP xs cs j = (!decide (cs[j]?.getD 0 ∈ xs) && !decide (cs[j]?.getD 0 ∈ cs.take j)) := rfl
        have I0 := IS.out (cs[j]?.getD 0) wr.drew HE.out.bel.drew
        have L0 := fun w' h' => LH.out j (cs[j]?.getD 0) w' h'
        rw [show (cs.take j).length = j by rw [List.length_take]; omega] at L0
        obtain ⟨x, hx⟩ : ∃ x, cs[j]?.getD 0 = x := ⟨_, rfl⟩
        rw [hx] at h0 hpd I0 L0
        obtain ⟨B1, hB1⟩ : ∃ B, decide (x ∈ xs) = B := ⟨_, rfl⟩
        obtain ⟨B2, hB2⟩ : ∃ B, decide (x ∈ cs.take j) = B := ⟨_, rfl⟩
        rw [hB1] at hpd I0
        rw [hB2] at hpd L0
        have HNP := Lib.hid hno
        have HPD := Lib.hid hpd
        replace I0 := Lib.hid I0
        replace L0 := Lib.hid L0
        have HEd := Lib.hid (HE.out.next ((Below.refl _ wr).drew))
        obtain ⟨c0, c1, c2, -⟩ := HE.out.row.three
        have h0d : wr.drew.cell? ⟨b, off + j, none⟩ = some (.int .i64 x) := h0
        have HBW := Lib.hid hbw
        clear hc hx hno hpd hB1 hB2 hbw
        obtain ⟨e0, e1, e2, -⟩ := HEd.out.row.three
        cases B1 with
        | true =>
          have hr := HNP.out (by rw [HPD.out]; rfl)
          subst hr
          clear HNP HNO HYE
          go_wp2_with fail
          go_region_with (go_at_call 30; refine I0.out.mono ?_; rintro e w2 ⟨rfl, hb2⟩; have HE2 := Lib.hid (HEd.out.next hb2); clear hb2; go_wp2_with fail; refine take_at (i := 6) (d := 22) (v := .bool true) rfl (by kernel_rfl) (by kernel_rfl) (by kernel_rfl) (by kernel_rfl) (fun _ _ _ h => h) (Or.inl ⟨by kernel_rfl, fun _ => rfl⟩) ?_; refine take_at (i := 7) (d := 23) (v := undef) rfl (by kernel_rfl) (by kernel_rfl) (by kernel_rfl) (by kernel_rfl) (fun _ _ _ h => h) (Or.inr ⟨by kernel_rfl, rfl⟩) ?_; refine take_at (i := 8) (d := 24) (v := undef) rfl (by kernel_rfl) (by kernel_rfl) (by kernel_rfl) (by kernel_rfl) (fun _ _ _ h => h) (Or.inr ⟨by kernel_rfl, rfl⟩) ?_; refine take_at (i := 9) (d := 25) (v := undef) rfl (by kernel_rfl) (by kernel_rfl) (by kernel_rfl) (by kernel_rfl) (fun _ _ _ h => h) (Or.inr ⟨by kernel_rfl, rfl⟩) ?_; refine take_at (i := 10) (d := 26) (v := undef) rfl (by kernel_rfl) (by kernel_rfl) (by kernel_rfl) (by kernel_rfl) (fun _ _ _ h => h) (Or.inr ⟨by kernel_rfl, rfl⟩) ?_; refine take_at (i := 11) (d := 27) (v := undef) rfl (by kernel_rfl) (by kernel_rfl) (by kernel_rfl) (by kernel_rfl) (fun _ _ _ h => h) (Or.inr ⟨by kernel_rfl, rfl⟩) ?_; refine take_at (i := 12) (d := 28) (v := undef) rfl (by kernel_rfl) (by kernel_rfl) (by kernel_rfl) (by kernel_rfl) (fun _ _ _ h => h) (Or.inr ⟨by kernel_rfl, rfl⟩) ?_; refine take_at (i := 13) (d := 29) (v := undef) rfl (by kernel_rfl) (by kernel_rfl) (by kernel_rfl) (by kernel_rfl) (fun _ _ _ h => h) (Or.inr ⟨by kernel_rfl, rfl⟩) ?_; refine take_at (i := 14) (d := 30) (v := undef) rfl (by kernel_rfl) (by kernel_rfl) (by kernel_rfl) (by kernel_rfl) (fun _ _ _ h => h) (Or.inr ⟨by kernel_rfl, rfl⟩) ?_; simp only [Act.put, List.setIfInBounds_toArray, List.set_cons_zero, List.set_cons_succ])
          all_goals
            go_wp2_with fail
            go_ret
            exact ⟨rfl, HE2.out.bel⟩
        | false =>
          cases B2 with
          | true =>
            have hr := HNP.out (by rw [HPD.out]; rfl)
            subst hr
            clear HNP HNO HYE
            go_wp2_with fail
            go_region_with (first | (go_at_call 30; refine I0.out.mono ?_; rintro e w2 ⟨rfl, hb2⟩; have HE2 := Lib.hid (HEd.out.next hb2); have h2 := (hb2.cell (p := ⟨b, off + j, none⟩) HBW.out).trans h0d; clear hb2) | (go_at_call 47; refine (L0.out _ HE2.out.bel).mono ?_; rintro e w3 ⟨rfl, rfl⟩))
            all_goals
              go_wp2_with fail
              go_ret
              exact ⟨rfl, HE2.out.bel⟩
          | false =>
            have HS2 : Hid (∀ i, i < j + 1 → plcP xs cs i = true) := by
              show ∀ _, _
              intro i hi'
              by_cases e : i = j
              · subst e; rw [HPD.out]; rfl
              · exact HS.out i (by omega)
            clear HNP HPD HS HE
            go_wp2_with fail
            go_region_with (first | (go_at_call 30; refine I0.out.mono ?_; rintro e w2 ⟨rfl, hb2⟩; have HE2 := Lib.hid (HEd.out.next hb2); have h2 := (hb2.cell (p := ⟨b, off + j, none⟩) HBW.out).trans h0d; clear hb2) | (go_at_call 47; refine (L0.out _ HE2.out.bel).mono ?_; rintro e w3 ⟨rfl, rfl⟩))
            all_goals
              go_wp2_with fail
              go_roundw
              case rel => exact ⟨j + 1, by omega, by go_num, HS2, HE2⟩
              case measure => simp [intOf]; omega
      · have hjm : j = m := by omega
        subst hjm
        have hj1 : ¬ (j : Int) < (j : Int) := by omega
        have hr := HYE.out HS.out
        subst hr
        clear HNO HYE
        go_wp2_with fail
        go_ret
        exact ⟨rfl, HE.out.bel⟩
end Go.Proofs.Ytfabannlebolfaa
