/- Chapter 9, spec side: spec.l9Fewest, spec.l9Few, spec.FewestGuards. -/
import Derived.Test.YtogdiahojbonaaaFewM9
import Derived.Test.YtogdiahojbonaaaGrdS9
import Derived.Test.YtogdiahojbonaaaGrpS9
import Derived.Test.YtogdiahojbonaaaOwnL
import Derived.Deep.RegionLaw
namespace Go.Proofs.Ytogdiahojbonaaa
open Go.RowKit

theorem grd_cov {n : Nat} {ring : Bool} {h : Nat} {b : List Nat} (h0 : 0 < b.length) : grdUp n ring b h n = true ↔ Cov n ring h b := by
  unfold grdUp Cov
  rw [List.all_eq_true]
  have hm : b[0]?.getD 0 ∈ b := nat_mem h0
  have key : ∀ p, nearG n ring b p = ((gapM n ring p (leastOf (gapM n ring p) (b[0]?.getD 0) b) : Nat) : Int) := by
    intro p
    unfold nearG nearP
    rw [if_neg (by omega)]
  have hmem : ∀ p, leastOf (gapM n ring p) (b[0]?.getD 0) b ∈ b := by
    intro p
    rcases leastOf_mem (gapM n ring p) b (b[0]?.getD 0) with e | e
    · rw [e]; exact hm
    · exact e
  constructor
  · intro h1 p hp
    have := h1 p (by simpa using hp)
    rw [key p, Bool.and_eq_true, decide_eq_true_eq, decide_eq_true_eq] at this
    exact ⟨_, hmem p, by omega⟩
  · intro h1 p hp
    obtain ⟨q, hq, hg⟩ := h1 p (by simpa using hp)
    have := (leastOf_le (gapM n ring p) b (b[0]?.getD 0)).2 q hq
    rw [key p, Bool.and_eq_true, decide_eq_true_eq, decide_eq_true_eq]
    omega

theorem l9Fewest_any (n : Nat) (ring : Bool) (p : Option Addr) (m cap : Nat) (h : Nat) (w : World) (hn : n ≤ 24) (hh : h ≤ 24) :
    Calls Try.prog 34 #[rowV n ring p m cap, .int .i64 (h : Int)] w fun e w' => e = .returned (.int .i64 (gdK n h : Nat)) ∧ Below w.heap.size w w' := by
  have HB := Lib.hid (box_below w n ring p m cap 28)
  obtain ⟨T, hT⟩ : ∃ T, 2 * h = T := ⟨_, rfl⟩
  have hTi : 2 * (h : Int) = (T : Int) := by omega
  obtain ⟨A, hA⟩ : ∃ A, n + T = A := ⟨_, rfl⟩
  have hAi : (n : Int) + (T : Int) = (A : Int) := by omega
  obtain ⟨B, hB⟩ : ∃ B, T + 1 = B := ⟨_, rfl⟩
  have hBi : (T : Int) + 1 = (B : Int) := by omega
  have w1 : IntKind.i64.wrap (T : Int) = (T : Int) := IntWalk.i64_in _ (by omega)
  have w2 : IntKind.i64.wrap (A : Int) = (A : Int) := IntWalk.i64_in _ (by omega)
  have w3 : IntKind.i64.wrap (B : Int) = (B : Int) := IntWalk.i64_in _ (by omega)
  have hB0 : ¬ B = 0 := by omega
  have hB0i : ¬ (B : Int) = 0 := by omega
  obtain ⟨K, hK⟩ : ∃ K, gdK n h = K := ⟨_, rfl⟩
  have hq : (A : Int).tdiv (B : Int) = (K : Int) := by
    rw [← hK]
    unfold gdK
    rw [hT, hA, hB]
    exact (Int.ofNat_tdiv A B).symm
  have hKA : K ≤ A := by
    rw [← hK]
    unfold gdK
    rw [hT, hA, hB]
    exact Nat.div_le_self _ _
  have w4 : IntKind.i64.wrap (K : Int) = (K : Int) := IntWalk.i64_in _ (by omega)
  rw [hK]
  clear hK hT hA hB
  go_enter Try.func34, Try.ntmps34
  go_wp2_with fail
  go_ret
  exact ⟨rfl, HB.out⟩

/-- what the search gives -/
def resF (n : Nat) (ring : Bool) (h : Nat) (G : List Nat → Bool) (j : Nat) (b : List Nat) : List Nat := (fewM n ring h G j b).getD (if j = 0 then b else [])
def okF (n : Nat) (ring : Bool) (h : Nat) (G : List Nat → Bool) (j : Nat) (b : List Nat) : Bool := (fewM n ring h G j b).isSome
theorem resF_zero (n : Nat) (ring : Bool) (h : Nat) (G : List Nat → Bool) (b : List Nat) : resF n ring h G 0 b = b ∧ okF n ring h G 0 b = G b := by
  unfold resF okF fewM
  by_cases hg : G b = true
  · rw [if_pos hg, hg]; exact ⟨rfl, rfl⟩
  · rw [if_neg hg]
    have : G b = false := by simpa using hg
    rw [this]; exact ⟨rfl, rfl⟩
theorem resF_hit {n : Nat} {ring : Bool} {h : Nat} {G : List Nat → Bool} {j : Nat} {b : List Nat} {x : Nat} (h1 : frG9 b ≤ x) (h2 : x ≤ ltM n ring h b) (h3 : ∀ q, frG9 b ≤ q → q < x → okF n ring h G j (b ++ [q]) = false) (h4 : okF n ring h G j (b ++ [x]) = true) :
    resF n ring h G (j + 1) b = resF n ring h G j (b ++ [x]) ∧ okF n ring h G (j + 1) b = true := by
  unfold okF at h4
  cases e : fewM n ring h G j (b ++ [x]) with
  | none => rw [e] at h4; cases h4
  | some y =>
    have hh : fewM n ring h G (j + 1) b = some y := by
      unfold fewM
      refine scan_hit (fun q q1 q2 => ?_) e h1 (by omega)
      have := h3 q q1 q2
      unfold okF at this
      cases e2 : fewM n ring h G j (b ++ [q]) with
      | none => rfl
      | some z => rw [e2] at this; cases this
    unfold resF okF
    rw [hh, e]
    exact ⟨rfl, rfl⟩
theorem resF_none {n : Nat} {ring : Bool} {h : Nat} {G : List Nat → Bool} {j : Nat} {b : List Nat} (h3 : ∀ q, frG9 b ≤ q → q ≤ ltM n ring h b → okF n ring h G j (b ++ [q]) = false) :
    resF n ring h G (j + 1) b = [] ∧ okF n ring h G (j + 1) b = false := by
  have hh : fewM n ring h G (j + 1) b = none := by
    unfold fewM
    refine scan_none (fun q q1 q2 => ?_)
    have := h3 q q1 (by omega)
    unfold okF at this
    cases e2 : fewM n ring h G j (b ++ [q]) with
    | none => rfl
    | some z => rw [e2] at this; cases this
  unfold resF okF
  rw [hh]
  exact ⟨rfl, rfl⟩
theorem ints_snoc9 (l : List Nat) (k : Nat) : ints (l ++ [k]) = ints l ++ [(k : Int)] := by unfold ints; rw [List.map_append]; rfl

set_option maxRecDepth 4000 in
set_option maxHeartbeats 10000000 in
theorem l9Few_any (n : Nat) (ring : Bool) (p : Option Addr) (m cap : Nat) (h K : Nat) (hn1 : 1 ≤ n) (hn : n ≤ 24) (hh : h ≤ 24) (hK : K ≤ 24) : ∀ (j : Nat) (b : List Nat) (B : Nat) (v : Value) (w : World), b.length + j = K → b.Pairwise (· < ·) → (∀ x ∈ b, x < n) → Out B w v (ints b) → B ≤ w.heap.size →
    Calls Try.prog 33 #[rowV n ring p m cap, v, .int .i64 (K : Int), .int .i64 (h : Int)] w fun e w' => ∃ v', e = .returned (.tuple #[v', .bool (okF n ring h (fun b => grdUp n ring b h n) j b)]) ∧ Out B w' v' (ints (resF n ring h (fun b => grdUp n ring b h n) j b)) ∧ Below w.heap.size w w' := by
  intro j
  induction j with
  | zero =>
    intro b B v w hbj hs hb hO hB
    obtain ⟨q, c, rfl, -, -, hR, -⟩ := Out.rd hO
    have HX := Lib.hid (OwnArr.made w 28 [.int .i64 n, .bool ring, .slice p m cap])
    have HB := Lib.hid (box_below w n ring p m cap 28)
    have GD := Lib.hid (guardsS_any n ring p m cap q c b h _ B w.heap.size (hR.bel HB.out) hb (by omega) hn)
    obtain ⟨z1, z2⟩ := resF_zero n ring h (fun b => grdUp n ring b h n) b
    rw [z1, z2]
    have HO := Lib.hid (hO.below HB.out)
    have hlK : (ints b).length = K := by rw [ints_length]; omega
    have hlK2 : b.length = K := by omega
    rw [hlK] at HO ⊢
    rw [hlK2] at GD
    obtain ⟨R, hR2⟩ : ∃ R, grdUp n ring b h n = R := ⟨_, rfl⟩
    rw [hR2] at GD
    simp only [hR2]
    obtain ⟨c0, c1, c2, -⟩ := HX.out.three
    clear hO hR hs hb hR2 z1 z2 hlK hlK2 hbj
    go_enter Try.func33, Try.ntmps33
    go_wp2_with fail
    refine GD.out.mono ?_
    rintro e w2 ⟨rfl, hb2⟩
    have HO2 := Lib.hid (HO.out.below hb2)
    have HB2 := Lib.hid (HB.out.trans (hb2.mono HB.out.size))
    clear hb2
    go_wp2_with fail
    go_ret2
    exact ⟨_, rfl, HO2.out, HB2.out⟩
  | succ j ih =>
    intro b B v w hbj hs hb hO hB
    obtain ⟨q, c, rfl, hlc, -, hR, -⟩ := Out.rd hO
    have HX := Lib.hid (OwnArr.made w 28 [.int .i64 n, .bool ring, .slice p m cap])
    have HB := Lib.hid (box_below w n ring p m cap 28)
    have HO := Lib.hid (fun (w' : World) (h' : Below w.heap.size w w') => hO.below h')
    have hmi : (ints b).length = b.length := ints_length b
    have OWN := Lib.hid (fun (w' : World) (h' : Below w.heap.size w w') => l1Own_any q c (ints b) w' B w.heap.size (hR.below h' hR.top) (by omega))
    have hHIT := fun x h1 h2 h3 h4 => resF_hit (n := n) (ring := ring) (h := h) (G := fun b => grdUp n ring b h n) (j := j) (b := b) (x := x) h1 h2 h3 h4
    have hNON := fun h3 => resF_none (n := n) (ring := ring) (h := h) (G := fun b => grdUp n ring b h n) (j := j) (b := b) h3
    have hLT := ltM_lt (n := n) (ring := ring) (h := h) (b := b) hn1
    have hIH := fun (x : Nat) (hx : frG9 b ≤ x) (hx2 : x < n) (v' : Value) (w' : World) (B' : Nat) (h1 : Out B' w' v' (ints b ++ [(x : Int)])) (h2 : B' ≤ w'.heap.size) => ih (b ++ [x]) B' v' w' (by rw [List.length_append]; simp; omega) (snoc_ok hs hb hx hx2).1 (snoc_ok hs hb hx hx2).2 (by rw [ints_snoc9]; exact h1) h2
    have HLC := Lib.hid (fun (w' : World) (h' : Below w.heap.size w w') (h0 : 0 < b.length) => by
      obtain ⟨bb, off, e, -, -, -, hc⟩ := (hR.below h' hR.top).int (by rw [ints_length]; exact h0)
      have := hc (b.length - 1) (by rw [ints_length]; omega)
      rw [ints_get (by omega)] at this
      exact (⟨bb, off, e, this⟩ : ∃ bb off, q = some ⟨bb, off, none⟩ ∧ w'.cell? ⟨bb, off + (b.length - 1), none⟩ = some (.int .i64 ((b[b.length - 1]?.getD 0 : Nat) : Int))))
    have hLST : 0 < b.length → frG9 b = b[b.length - 1]?.getD 0 + 1 ∧ ltM n ring h b = min (n - 1) (b[b.length - 1]?.getD 0 + 1 + 2 * h) ∧ b[b.length - 1]?.getD 0 < n := by
      intro h0
      have hne : b ≠ [] := fun e => by rw [e] at h0; cases h0
      have hl := List.getLast?_eq_some_getLast hne
      have e2 : b.getLast hne = b[b.length - 1]?.getD 0 := by
        rw [List.getLast_eq_getElem, List.getElem?_eq_getElem (by omega)]; rfl
      refine ⟨?_, ?_, hb _ (nat_mem (by omega))⟩
      · unfold frG9; rw [hl, e2]
      · unfold ltM; rw [hl, e2]
    have hEMP : b.length = 0 → frG9 b = 0 ∧ ltM n ring h b = if ring then n - 1 else min h (n - 1) := by
      intro h0
      have : b = [] := List.length_eq_zero_iff.1 h0
      subst this
      exact ⟨rfl, rfl⟩
    obtain ⟨R, hRR⟩ : ∃ R, resF n ring h (fun b => grdUp n ring b h n) (j + 1) b = R := ⟨_, rfl⟩
    obtain ⟨D, hDD⟩ : ∃ D, okF n ring h (fun b => grdUp n ring b h n) (j + 1) b = D := ⟨_, rfl⟩
    simp only [hRR, hDD] at hHIT hNON ⊢
    obtain ⟨F, hF⟩ : ∃ F, frG9 b = F := ⟨_, rfl⟩
    obtain ⟨L, hL⟩ : ∃ L, ltM n ring h b = L := ⟨_, rfl⟩
    simp only [hF, hL] at hHIT hNON hIH hLT hLST hEMP
    obtain ⟨OK, hOK⟩ : ∃ f : Nat → Bool, f = fun x => okF n ring h (fun b => grdUp n ring b h n) j (b ++ [x]) := ⟨_, rfl⟩
    obtain ⟨RS, hRS⟩ : ∃ f : Nat → List Nat, f = fun x => resF n ring h (fun b => grdUp n ring b h n) j (b ++ [x]) := ⟨_, rfl⟩
    have hok : ∀ x, okF n ring h (fun b => grdUp n ring b h n) j (b ++ [x]) = OK x := fun x => by rw [hOK]
    have hrs : ∀ x, resF n ring h (fun b => grdUp n ring b h n) j (b ++ [x]) = RS x := fun x => by rw [hRS]
    simp only [hok, hrs] at hHIT hNON hIH
    have HIT := Lib.hid hHIT
    have NON := Lib.hid hNON
    obtain ⟨mb, hmb⟩ : ∃ k, b.length = k := ⟨_, rfl⟩
    rw [hmb] at hmi hLST hEMP HLC
    rw [hmi] at HO OWN ⊢
    have IH : Hid (∀ (x : Nat), F ≤ x → x < n → ∀ (p3 : Option Addr) (c3 : Nat) (w' : World) (B' : Nat), Out B' w' (.slice p3 (mb + 1) c3) (ints b ++ [(x : Int)]) → B' ≤ w'.heap.size → Calls Try.prog 33 #[rowV n ring p m cap, .slice p3 (mb + 1) c3, .int .i64 (K : Int), .int .i64 (h : Int)] w' fun e w'' => ∃ v', e = .returned (.tuple #[v', .bool (OK x)]) ∧ Out B' w'' v' (ints (RS x)) ∧ Below w'.heap.size w' w'') := fun x h1 h2 p3 c3 w' B' h3 h4 => hIH x h1 h2 _ w' B' h3 h4
    have HMI := Lib.hid hmi
    have hmbK : mb + 1 ≤ 24 := by omega
    have hne : ¬ (mb : Int) = (K : Int) := by omega
    have hne2 : ¬ mb = K := by omega
    have LS := Lib.hid (fun a b w' => least9_any a b w')
    have hn1i : (n : Int) - 1 = ((n - 1 : Nat) : Int) := by omega
    have hw1 : IntKind.i64.wrap ((n : Int) - 1) = ((n - 1 : Nat) : Int) := by rw [hn1i]; exact IntWalk.i64_in _ (by omega)
    obtain ⟨N1, hN1⟩ : ∃ N, n - 1 = N := ⟨_, rfl⟩
    rw [hN1] at hn1i hw1 hLST hEMP
    have hwN : IntKind.i64.wrap (N1 : Int) = (N1 : Int) := IntWalk.i64_in _ (by omega)
    have hFL : F ≤ L + 1 := by
      rcases Nat.eq_zero_or_pos mb with e | e
      · have := hEMP e; omega
      · have := hLST e
        omega
    clear hO hR hs hb ih hHIT hNON hIH hok hrs hRR hDD hF hL hOK hRS hmi hmb hlc hw1
    obtain ⟨c0, c1, c2, -⟩ := HX.out.three
    by_cases hmb0 : 0 < mb
    · obtain ⟨h1, h2, h3⟩ := hLST hmb0
      obtain ⟨bb, off, rfl, cl⟩ := HLC.out _ HB.out hmb0
      obtain ⟨y, hy⟩ : ∃ y, b[mb - 1]?.getD 0 = y := ⟨_, rfl⟩
      rw [hy] at h1 h2 h3 cl
      have hmi0 : (0 : Int) < (mb : Int) := by omega
      obtain ⟨t, htm⟩ : ∃ t, mb - 1 = t := ⟨_, rfl⟩
      rw [htm] at cl
      have ht1 : (mb : Int) - 1 = (t : Int) := by omega
      have hwt : IntKind.i64.wrap (t : Int) = (t : Int) := IntWalk.i64_in _ (by omega)
      have htt : (t : Int) < (mb : Int) := by omega
      have ht0 : (0 : Int) ≤ (t : Int) := by omega
      have hy1 : (y : Int) + 1 = (F : Int) := by omega
      have hwF : IntKind.i64.wrap (F : Int) = (F : Int) := IntWalk.i64_in _ (by omega)
      obtain ⟨T, hT⟩ : ∃ T, 2 * h = T := ⟨_, rfl⟩
      have hTi : 2 * (h : Int) = (T : Int) := by omega
      have hwT : IntKind.i64.wrap (T : Int) = (T : Int) := IntWalk.i64_in _ (by omega)
      obtain ⟨U, hU⟩ : ∃ U, F + T = U := ⟨_, rfl⟩
      have hUi : (F : Int) + (T : Int) = (U : Int) := by omega
      have hwU : IntKind.i64.wrap (U : Int) = (U : Int) := IntWalk.i64_in _ (by omega)
      have hLm : L = min N1 U := by omega
      have LS1 := LS.out (h : Int) (N1 : Int)
      have LS2 := LS.out (N1 : Int) (U : Int)
      rw [show (if (N1 : Int) < (U : Int) then (N1 : Int) else (U : Int)) = (L : Int) from by split <;> omega] at LS2
      obtain ⟨L0, hL0⟩ : ∃ L0, (if (h : Int) < (N1 : Int) then (h : Int) else (N1 : Int)) = L0 := ⟨_, rfl⟩
      rw [hL0] at LS1
      replace LS1 := Lib.hid LS1
      replace LS2 := Lib.hid LS2
      clear hLST hEMP HLC hy htm h1 h2 h3 hT hU hLm LS hL0
      go_enter Try.func33, Try.ntmps33
      go_wp2_with fail
      refine (LS1.out _).mono ?_
      rintro e w2 ⟨rfl, rfl⟩
      go_wp2_with fail
      refine (LS2.out _).mono ?_
      rintro e w2 ⟨rfl, rfl⟩
      go_wp2_with fail
      clear c0 c1 c2
      go_loopw [12, 13, 14] (fun i _ _ wr => ∃ (x : Nat), F ≤ x ∧ x ≤ L + 1 ∧ i = .int .i64 (x : Int) ∧ Hid (∀ q, F ≤ q → q < x → OK q = false) ∧ Hid (OwnArr wr w.heap.size 28 [.int .i64 n, .bool ring, .slice p m cap]) ∧ Hid (Below w.heap.size w wr)) (fun i _ _ _ => L + 1 - (intOf i).toNat)
      case atStart => exact ⟨F, Nat.le_refl _, hFL, rfl, Lib.hid (fun q h1 h2 => absurd h1 (by omega)), HX, HB⟩
      case round =>
        obtain ⟨x, hx1, hx2, rfl, HN, HX', HB'⟩ := hrel
        clear HX HB
        obtain ⟨c0, c1, c2, -⟩ := HX'.out.three
        have hsz := HB'.out.size
        by_cases hlt : x ≤ L
        · have hk1 : (x : Int) ≤ (L : Int) := by omega
          have hwx : IntKind.i64.wrap ((x : Int) + 1) = (x : Int) + 1 := IntWalk.i64_in _ (by omega)
          have RWC : Hid (∀ w2, Below wr.heap.size wr w2 → w2.cell? ⟨w.heap.size, 0, none⟩ = some (.int .i64 n) ∧ w2.cell? ⟨w.heap.size, 1, none⟩ = some (.bool ring) ∧ w2.cell? ⟨w.heap.size, 2, none⟩ = some (.slice p m cap)) := fun w2 h2 => by
            obtain ⟨k0, k1, k2, -⟩ := (HX'.out.below h2 HX'.out.lt).three
            exact ⟨k0, k1, k2⟩
          obtain ⟨k3, k4, k5⟩ := RWC.out (wr.alloc (.cells #[.int .i64 (x : Int)] 3)) ((Below.refl _ wr).alloc (Nat.le_refl _) _)
          have HBd := Lib.hid HB'.out.drew
          have HBa : Hid (Below w.heap.size w (wr.alloc (.cells #[.int .i64 (x : Int)] 3)).drew) := by show Below _ _ _; exact (HB'.out.alloc hsz _).drew
          have AFd : Hid (∀ w2 g c2, Out wr.drew.heap.size w2 (.slice (some ⟨g, 0, none⟩) mb c2) (ints b) → Below wr.drew.heap.size wr.drew w2 → Hid (Out wr.heap.size w2 (.slice (some ⟨g, 0, none⟩) mb c2) (ints b)) ∧ Hid (Below wr.heap.size wr w2) ∧ Hid True ∧ (w2.cell? ⟨w.heap.size, 0, none⟩ = some (.int .i64 n) ∧ w2.cell? ⟨w.heap.size, 1, none⟩ = some (.bool ring) ∧ w2.cell? ⟨w.heap.size, 2, none⟩ = some (.slice p m cap))) := by
            show ∀ _, _
            intro w2 g c2 h1 h2
            exact ⟨h1, (Below.refl _ wr).drew.trans h2, True.intro, RWC.out w2 ((Below.refl _ wr).drew.trans h2)⟩
          have AFa : Hid (∀ w2 g c2, Out (wr.alloc (.cells #[.int .i64 (x : Int)] 3)).drew.heap.size w2 (.slice (some ⟨g, 0, none⟩) mb c2) (ints b) → Below (wr.alloc (.cells #[.int .i64 (x : Int)] 3)).drew.heap.size (wr.alloc (.cells #[.int .i64 (x : Int)] 3)).drew w2 → Hid (Out wr.heap.size w2 (.slice (some ⟨g, 0, none⟩) mb c2) (ints b)) ∧ Hid (Below wr.heap.size wr w2) ∧ Hid (OwnArr w2 wr.heap.size 3 [.int .i64 (x : Int)]) ∧ (w2.cell? ⟨w.heap.size, 0, none⟩ = some (.int .i64 n) ∧ w2.cell? ⟨w.heap.size, 1, none⟩ = some (.bool ring) ∧ w2.cell? ⟨w.heap.size, 2, none⟩ = some (.slice p m cap))) := by
            show ∀ _, _
            intro w2 g c2 h1 h2
            have hs : (wr.alloc (.cells #[.int .i64 (x : Int)] 3)).drew.heap.size = wr.heap.size + 1 := by simp
            have h2' : Below wr.heap.size wr w2 := (((Below.refl _ wr).alloc (Nat.le_refl _) _).drew).trans (h2.mono (by omega))
            refine ⟨Out.mono h1 (by omega), h2', ?_, RWC.out w2 h2'⟩
            show OwnArr _ _ _ _
            have h5 : OwnArr (wr.alloc (.cells #[.int .i64 (x : Int)] 3)).drew wr.heap.size 3 [.int .i64 (x : Int)] := OwnArr.made wr _ [_]
            exact h5.below h2 (by omega)
          have HC0 := Lib.hid (fun p3 c3 w' h1 h2 => IH.out x hx1 (by omega) p3 c3 w' wr.heap.size h1 h2)
          have HIT2 := Lib.hid (fun h4 => HIT.out x hx1 hlt HN.out h4)
          have HNX : Hid (OK x = false → ∀ q, F ≤ q → q < x + 1 → OK q = false) := by
            show _ → _
            intro h q h1 h2
            by_cases e : q = x
            · subst e; exact h
            · exact HN.out q h1 (by omega)
          obtain ⟨K2, hK2⟩ : ∃ K2, OK x = K2 := ⟨_, rfl⟩
          obtain ⟨R2, hR2⟩ : ∃ R2, RS x = R2 := ⟨_, rfl⟩
          rw [hK2] at HC0 HIT2 HNX
          rw [hR2] at HC0 HIT2
          have hl6 : (ints b).length + 1 ≤ 100000 := by have := HMI.out; omega
          have HL1 : Hid ((ints b ++ [(x : Int)]).length = mb + 1) := by show _ = _; rw [List.length_append, HMI.out]; rfl
          clear hK2 hR2 HN
          go_wp2_with fail
          go_region_law (first
            | (go_simp; go_at_call 49; refine (OWN.out _ HBd.out).mono ?_; rintro e w2 ⟨g, c2, rfl, hg, hc21, hc22, hO, hb2⟩; obtain ⟨HO1, HB2, HLT, d0, d1, d2⟩ := AFd.out _ _ _ hO hb2; obtain ⟨d3, d4, d5⟩ := RWC.out (w2.alloc (.cells #[.int .i64 (x : Int)] 3)) (HB2.out.alloc HB2.out.size _); clear hO hb2)
            | (go_simp; go_at_call 49; refine (OWN.out _ HBa.out).mono ?_; rintro e w2 ⟨g, c2, rfl, hg, hc21, hc22, hO, hb2⟩; obtain ⟨HO1, HB2, HLT, d0, d1, d2⟩ := AFa.out _ _ _ hO hb2; clear hO hb2)
            | (refine step_app rfl (.tmp 61) (.tmp 63) rfl wr.heap.size (.slice (some ⟨g, 0, none⟩) mb c2) (ints b) (by simp [Act.eval]) (World.ownsRow.alloc HO1.out _) _ 1 1 0 (w2.heap.size + 1) [(x : Int)] (by simp [Act.eval]) (lit_one (OwnArr.made w2 _ [_]) _ (Nat.lt_succ_self _) (by simp)) rfl hl6 (by have := HB2.out.size; simp; omega) ?_; intro v3 w3 hO3 hg3 hn3; have HB3 := Lib.hid ((HB2.out.alloc HB2.out.size (.cells #[.int .i64 (x : Int)] 3)).grown hg3 (by have := HB2.out.size; simp; omega) (own_block HO1.out)); obtain ⟨p3, c3, e3, -, -, -, -⟩ := hO3.rd; rw [HL1.out] at e3; rw [e3] at hO3 ⊢; have HO3 := Lib.hid hO3; obtain ⟨e0, e1, e2⟩ := RWC.out w3 HB3.out; clear hO3 hg3 hn3 e3)
            | (refine step_app rfl (.tmp 61) (.tmp 63) rfl wr.heap.size (.slice (some ⟨g, 0, none⟩) mb c2) (ints b) (by simp [Act.eval]) HO1.out _ 1 1 0 w2.heap.size [(x : Int)] (by simp [Act.eval]) (lit_one HLT.out _ HLT.out.lt (Nat.le_refl _)) rfl hl6 HB2.out.size ?_; intro v3 w3 hO3 hg3 hn3; have HB3 := Lib.hid (HB2.out.grown hg3 HB2.out.size (own_block HO1.out)); obtain ⟨p3, c3, e3, -, -, -, -⟩ := hO3.rd; rw [HL1.out] at e3; rw [e3] at hO3 ⊢; have HO3 := Lib.hid hO3; obtain ⟨e0, e1, e2⟩ := RWC.out w3 HB3.out; clear hO3 hg3 hn3 e3)
            | (go_simp; go_at_call 33; refine (HC0.out _ _ _ HO3.out HB3.out.size).mono ?_; rintro e w4 ⟨v4, rfl, hO4, hb4⟩; have HB4 := Lib.hid (HB3.out.trans (hb4.mono HB3.out.size)); have HO4 := Lib.hid (hO4.mono (Nat.le_trans hB hsz)); clear hO4 hb4))
          all_goals
            have HX4 := Lib.hid (HX'.out.below HB4.out HX'.out.lt)
            have HB5 := Lib.hid (HB'.out.trans (HB4.out.mono hsz))
            clear HB2 HB3 HO1 HO3 HLT HBd HBa AFd AFa HC0 HX' HB' HB4 d0 d1 d2 e0 e1 e2 RWC k3 k4 k5
            try clear d3 d4 d5
            cases K2 with
            | true =>
              obtain ⟨rfl, rfl⟩ := HIT2.out rfl
              clear HIT2 HNX
              go_wp2_with fail
              go_ret2
              exact ⟨_, rfl, HO4.out, HB5.out⟩
            | false =>
              have HN4 := Lib.hid (HNX.out rfl)
              clear HIT2 HNX
              go_wp2_with fail
              go_roundw
              case rel => exact ⟨x + 1, by omega, by omega, by go_num, HN4, HX4, HB5⟩
              case measure => simp [intOf]; omega
        · have hk1 : ¬ (x : Int) ≤ (L : Int) := by omega
          obtain ⟨rfl, rfl⟩ := NON.out (fun q h1 h2 => HN.out q h1 (by omega))
          have HOZ := Lib.hid ((Out.nilLit wr).mono (Nat.le_trans hB hsz))
          have HBZ := Lib.hid (HB'.out.alloc hsz (.cells #[] 3))
          go_wp2_with fail
          go_ret2
          exact ⟨_, rfl, HOZ.out, HBZ.out⟩
    · have hm0 : mb = 0 := by omega
      obtain ⟨h1, h2⟩ := hEMP hm0
      have hmi0 : ¬ (0 : Int) < (mb : Int) := by omega
      have LS1 := LS.out (h : Int) (N1 : Int)
      subst h1
      cases ring with
      | true =>
        simp only [if_true] at h2
        subst h2
        obtain ⟨L0, hL0⟩ : ∃ L0, (if (h : Int) < (L : Int) then (h : Int) else (L : Int)) = L0 := ⟨_, rfl⟩
        rw [hL0] at LS1
        replace LS1 := Lib.hid LS1
        clear hLST hEMP HLC hm0 LS hL0
        go_enter Try.func33, Try.ntmps33
        go_wp2_with fail
        refine (LS1.out _).mono ?_
        rintro e w2 ⟨rfl, rfl⟩
        go_wp2_with fail
        clear c0 c1 c2
        go_loopw [12, 13, 14] (fun i _ _ wr => ∃ (x : Nat), 0 ≤ x ∧ x ≤ L + 1 ∧ i = .int .i64 (x : Int) ∧ Hid (∀ q, 0 ≤ q → q < x → OK q = false) ∧ Hid (OwnArr wr w.heap.size 28 [.int .i64 n, .bool true, .slice p m cap]) ∧ Hid (Below w.heap.size w wr)) (fun i _ _ _ => L + 1 - (intOf i).toNat)
        case atStart => exact ⟨0, Nat.le_refl _, hFL, rfl, Lib.hid (fun q h1 h2 => absurd h2 (Nat.not_lt_zero _)), HX, HB⟩
        case round =>
          obtain ⟨x, hx1, hx2, rfl, HN, HX', HB'⟩ := hrel
          clear HX HB
          obtain ⟨c0, c1, c2, -⟩ := HX'.out.three
          have hsz := HB'.out.size
          by_cases hlt : x ≤ L
          · have hk1 : (x : Int) ≤ (L : Int) := by omega
            have hwx : IntKind.i64.wrap ((x : Int) + 1) = (x : Int) + 1 := IntWalk.i64_in _ (by omega)
            have RWC : Hid (∀ w2, Below wr.heap.size wr w2 → w2.cell? ⟨w.heap.size, 0, none⟩ = some (.int .i64 n) ∧ w2.cell? ⟨w.heap.size, 1, none⟩ = some (.bool true) ∧ w2.cell? ⟨w.heap.size, 2, none⟩ = some (.slice p m cap)) := fun w2 h2 => by
              obtain ⟨k0, k1, k2, -⟩ := (HX'.out.below h2 HX'.out.lt).three
              exact ⟨k0, k1, k2⟩
            obtain ⟨k3, k4, k5⟩ := RWC.out (wr.alloc (.cells #[.int .i64 (x : Int)] 3)) ((Below.refl _ wr).alloc (Nat.le_refl _) _)
            have HBd := Lib.hid HB'.out.drew
            have HBa : Hid (Below w.heap.size w (wr.alloc (.cells #[.int .i64 (x : Int)] 3)).drew) := by show Below _ _ _; exact (HB'.out.alloc hsz _).drew
            have AFd : Hid (∀ w2 g c2, Out wr.drew.heap.size w2 (.slice (some ⟨g, 0, none⟩) mb c2) (ints b) → Below wr.drew.heap.size wr.drew w2 → Hid (Out wr.heap.size w2 (.slice (some ⟨g, 0, none⟩) mb c2) (ints b)) ∧ Hid (Below wr.heap.size wr w2) ∧ Hid True ∧ (w2.cell? ⟨w.heap.size, 0, none⟩ = some (.int .i64 n) ∧ w2.cell? ⟨w.heap.size, 1, none⟩ = some (.bool true) ∧ w2.cell? ⟨w.heap.size, 2, none⟩ = some (.slice p m cap))) := by
              show ∀ _, _
              intro w2 g c2 h1 h2
              exact ⟨h1, (Below.refl _ wr).drew.trans h2, True.intro, RWC.out w2 ((Below.refl _ wr).drew.trans h2)⟩
            have AFa : Hid (∀ w2 g c2, Out (wr.alloc (.cells #[.int .i64 (x : Int)] 3)).drew.heap.size w2 (.slice (some ⟨g, 0, none⟩) mb c2) (ints b) → Below (wr.alloc (.cells #[.int .i64 (x : Int)] 3)).drew.heap.size (wr.alloc (.cells #[.int .i64 (x : Int)] 3)).drew w2 → Hid (Out wr.heap.size w2 (.slice (some ⟨g, 0, none⟩) mb c2) (ints b)) ∧ Hid (Below wr.heap.size wr w2) ∧ Hid (OwnArr w2 wr.heap.size 3 [.int .i64 (x : Int)]) ∧ (w2.cell? ⟨w.heap.size, 0, none⟩ = some (.int .i64 n) ∧ w2.cell? ⟨w.heap.size, 1, none⟩ = some (.bool true) ∧ w2.cell? ⟨w.heap.size, 2, none⟩ = some (.slice p m cap))) := by
              show ∀ _, _
              intro w2 g c2 h1 h2
              have hs : (wr.alloc (.cells #[.int .i64 (x : Int)] 3)).drew.heap.size = wr.heap.size + 1 := by simp
              have h2' : Below wr.heap.size wr w2 := (((Below.refl _ wr).alloc (Nat.le_refl _) _).drew).trans (h2.mono (by omega))
              refine ⟨Out.mono h1 (by omega), h2', ?_, RWC.out w2 h2'⟩
              show OwnArr _ _ _ _
              have h5 : OwnArr (wr.alloc (.cells #[.int .i64 (x : Int)] 3)).drew wr.heap.size 3 [.int .i64 (x : Int)] := OwnArr.made wr _ [_]
              exact h5.below h2 (by omega)
            have HC0 := Lib.hid (fun p3 c3 w' h1 h2 => IH.out x hx1 (by omega) p3 c3 w' wr.heap.size h1 h2)
            have HIT2 := Lib.hid (fun h4 => HIT.out x hx1 hlt HN.out h4)
            have HNX : Hid (OK x = false → ∀ q, 0 ≤ q → q < x + 1 → OK q = false) := by
              show _ → _
              intro h q h1 h2
              by_cases e : q = x
              · subst e; exact h
              · exact HN.out q h1 (by omega)
            obtain ⟨K2, hK2⟩ : ∃ K2, OK x = K2 := ⟨_, rfl⟩
            obtain ⟨R2, hR2⟩ : ∃ R2, RS x = R2 := ⟨_, rfl⟩
            rw [hK2] at HC0 HIT2 HNX
            rw [hR2] at HC0 HIT2
            have hl6 : (ints b).length + 1 ≤ 100000 := by have := HMI.out; omega
            have HL1 : Hid ((ints b ++ [(x : Int)]).length = mb + 1) := by show _ = _; rw [List.length_append, HMI.out]; rfl
            clear hK2 hR2 HN
            go_wp2_with fail
            go_region_law (first
              | (go_simp; go_at_call 49; refine (OWN.out _ HBd.out).mono ?_; rintro e w2 ⟨g, c2, rfl, hg, hc21, hc22, hO, hb2⟩; obtain ⟨HO1, HB2, HLT, d0, d1, d2⟩ := AFd.out _ _ _ hO hb2; obtain ⟨d3, d4, d5⟩ := RWC.out (w2.alloc (.cells #[.int .i64 (x : Int)] 3)) (HB2.out.alloc HB2.out.size _); clear hO hb2)
              | (go_simp; go_at_call 49; refine (OWN.out _ HBa.out).mono ?_; rintro e w2 ⟨g, c2, rfl, hg, hc21, hc22, hO, hb2⟩; obtain ⟨HO1, HB2, HLT, d0, d1, d2⟩ := AFa.out _ _ _ hO hb2; clear hO hb2)
              | (refine step_app rfl (.tmp 61) (.tmp 63) rfl wr.heap.size (.slice (some ⟨g, 0, none⟩) mb c2) (ints b) (by simp [Act.eval]) (World.ownsRow.alloc HO1.out _) _ 1 1 0 (w2.heap.size + 1) [(x : Int)] (by simp [Act.eval]) (lit_one (OwnArr.made w2 _ [_]) _ (Nat.lt_succ_self _) (by simp)) rfl hl6 (by have := HB2.out.size; simp; omega) ?_; intro v3 w3 hO3 hg3 hn3; have HB3 := Lib.hid ((HB2.out.alloc HB2.out.size (.cells #[.int .i64 (x : Int)] 3)).grown hg3 (by have := HB2.out.size; simp; omega) (own_block HO1.out)); obtain ⟨p3, c3, e3, -, -, -, -⟩ := hO3.rd; rw [HL1.out] at e3; rw [e3] at hO3 ⊢; have HO3 := Lib.hid hO3; obtain ⟨e0, e1, e2⟩ := RWC.out w3 HB3.out; clear hO3 hg3 hn3 e3)
              | (refine step_app rfl (.tmp 61) (.tmp 63) rfl wr.heap.size (.slice (some ⟨g, 0, none⟩) mb c2) (ints b) (by simp [Act.eval]) HO1.out _ 1 1 0 w2.heap.size [(x : Int)] (by simp [Act.eval]) (lit_one HLT.out _ HLT.out.lt (Nat.le_refl _)) rfl hl6 HB2.out.size ?_; intro v3 w3 hO3 hg3 hn3; have HB3 := Lib.hid (HB2.out.grown hg3 HB2.out.size (own_block HO1.out)); obtain ⟨p3, c3, e3, -, -, -, -⟩ := hO3.rd; rw [HL1.out] at e3; rw [e3] at hO3 ⊢; have HO3 := Lib.hid hO3; obtain ⟨e0, e1, e2⟩ := RWC.out w3 HB3.out; clear hO3 hg3 hn3 e3)
              | (go_simp; go_at_call 33; refine (HC0.out _ _ _ HO3.out HB3.out.size).mono ?_; rintro e w4 ⟨v4, rfl, hO4, hb4⟩; have HB4 := Lib.hid (HB3.out.trans (hb4.mono HB3.out.size)); have HO4 := Lib.hid (hO4.mono (Nat.le_trans hB hsz)); clear hO4 hb4))
            all_goals
              have HX4 := Lib.hid (HX'.out.below HB4.out HX'.out.lt)
              have HB5 := Lib.hid (HB'.out.trans (HB4.out.mono hsz))
              clear HB2 HB3 HO1 HO3 HLT HBd HBa AFd AFa HC0 HX' HB' HB4 d0 d1 d2 e0 e1 e2 RWC k3 k4 k5
              try clear d3 d4 d5
              cases K2 with
              | true =>
                obtain ⟨rfl, rfl⟩ := HIT2.out rfl
                clear HIT2 HNX
                go_wp2_with fail
                go_ret2
                exact ⟨_, rfl, HO4.out, HB5.out⟩
              | false =>
                have HN4 := Lib.hid (HNX.out rfl)
                clear HIT2 HNX
                go_wp2_with fail
                go_roundw
                case rel => exact ⟨x + 1, by omega, by omega, by go_num, HN4, HX4, HB5⟩
                case measure => simp [intOf]; omega
          · have hk1 : ¬ (x : Int) ≤ (L : Int) := by omega
            obtain ⟨rfl, rfl⟩ := NON.out (fun q h1 h2 => HN.out q h1 (by omega))
            have HOZ := Lib.hid ((Out.nilLit wr).mono (Nat.le_trans hB hsz))
            have HBZ := Lib.hid (HB'.out.alloc hsz (.cells #[] 3))
            go_wp2_with fail
            go_ret2
            exact ⟨_, rfl, HOZ.out, HBZ.out⟩
      | false =>
        simp only [Bool.false_eq_true, if_false] at h2
        rw [show (if (h : Int) < (N1 : Int) then (h : Int) else (N1 : Int)) = (L : Int) from by split <;> omega] at LS1
        replace LS1 := Lib.hid LS1
        clear hLST hEMP HLC hm0 LS
        go_enter Try.func33, Try.ntmps33
        go_wp2_with fail
        refine (LS1.out _).mono ?_
        rintro e w2 ⟨rfl, rfl⟩
        go_wp2_with fail
        clear c0 c1 c2
        go_loopw [12, 13, 14] (fun i _ _ wr => ∃ (x : Nat), 0 ≤ x ∧ x ≤ L + 1 ∧ i = .int .i64 (x : Int) ∧ Hid (∀ q, 0 ≤ q → q < x → OK q = false) ∧ Hid (OwnArr wr w.heap.size 28 [.int .i64 n, .bool false, .slice p m cap]) ∧ Hid (Below w.heap.size w wr)) (fun i _ _ _ => L + 1 - (intOf i).toNat)
        case atStart => exact ⟨0, Nat.le_refl _, hFL, rfl, Lib.hid (fun q h1 h2 => absurd h2 (Nat.not_lt_zero _)), HX, HB⟩
        case round =>
          obtain ⟨x, hx1, hx2, rfl, HN, HX', HB'⟩ := hrel
          clear HX HB
          obtain ⟨c0, c1, c2, -⟩ := HX'.out.three
          have hsz := HB'.out.size
          by_cases hlt : x ≤ L
          · have hk1 : (x : Int) ≤ (L : Int) := by omega
            have hwx : IntKind.i64.wrap ((x : Int) + 1) = (x : Int) + 1 := IntWalk.i64_in _ (by omega)
            have RWC : Hid (∀ w2, Below wr.heap.size wr w2 → w2.cell? ⟨w.heap.size, 0, none⟩ = some (.int .i64 n) ∧ w2.cell? ⟨w.heap.size, 1, none⟩ = some (.bool false) ∧ w2.cell? ⟨w.heap.size, 2, none⟩ = some (.slice p m cap)) := fun w2 h2 => by
              obtain ⟨k0, k1, k2, -⟩ := (HX'.out.below h2 HX'.out.lt).three
              exact ⟨k0, k1, k2⟩
            obtain ⟨k3, k4, k5⟩ := RWC.out (wr.alloc (.cells #[.int .i64 (x : Int)] 3)) ((Below.refl _ wr).alloc (Nat.le_refl _) _)
            have HBd := Lib.hid HB'.out.drew
            have HBa : Hid (Below w.heap.size w (wr.alloc (.cells #[.int .i64 (x : Int)] 3)).drew) := by show Below _ _ _; exact (HB'.out.alloc hsz _).drew
            have AFd : Hid (∀ w2 g c2, Out wr.drew.heap.size w2 (.slice (some ⟨g, 0, none⟩) mb c2) (ints b) → Below wr.drew.heap.size wr.drew w2 → Hid (Out wr.heap.size w2 (.slice (some ⟨g, 0, none⟩) mb c2) (ints b)) ∧ Hid (Below wr.heap.size wr w2) ∧ Hid True ∧ (w2.cell? ⟨w.heap.size, 0, none⟩ = some (.int .i64 n) ∧ w2.cell? ⟨w.heap.size, 1, none⟩ = some (.bool false) ∧ w2.cell? ⟨w.heap.size, 2, none⟩ = some (.slice p m cap))) := by
              show ∀ _, _
              intro w2 g c2 h1 h2
              exact ⟨h1, (Below.refl _ wr).drew.trans h2, True.intro, RWC.out w2 ((Below.refl _ wr).drew.trans h2)⟩
            have AFa : Hid (∀ w2 g c2, Out (wr.alloc (.cells #[.int .i64 (x : Int)] 3)).drew.heap.size w2 (.slice (some ⟨g, 0, none⟩) mb c2) (ints b) → Below (wr.alloc (.cells #[.int .i64 (x : Int)] 3)).drew.heap.size (wr.alloc (.cells #[.int .i64 (x : Int)] 3)).drew w2 → Hid (Out wr.heap.size w2 (.slice (some ⟨g, 0, none⟩) mb c2) (ints b)) ∧ Hid (Below wr.heap.size wr w2) ∧ Hid (OwnArr w2 wr.heap.size 3 [.int .i64 (x : Int)]) ∧ (w2.cell? ⟨w.heap.size, 0, none⟩ = some (.int .i64 n) ∧ w2.cell? ⟨w.heap.size, 1, none⟩ = some (.bool false) ∧ w2.cell? ⟨w.heap.size, 2, none⟩ = some (.slice p m cap))) := by
              show ∀ _, _
              intro w2 g c2 h1 h2
              have hs : (wr.alloc (.cells #[.int .i64 (x : Int)] 3)).drew.heap.size = wr.heap.size + 1 := by simp
              have h2' : Below wr.heap.size wr w2 := (((Below.refl _ wr).alloc (Nat.le_refl _) _).drew).trans (h2.mono (by omega))
              refine ⟨Out.mono h1 (by omega), h2', ?_, RWC.out w2 h2'⟩
              show OwnArr _ _ _ _
              have h5 : OwnArr (wr.alloc (.cells #[.int .i64 (x : Int)] 3)).drew wr.heap.size 3 [.int .i64 (x : Int)] := OwnArr.made wr _ [_]
              exact h5.below h2 (by omega)
            have HC0 := Lib.hid (fun p3 c3 w' h1 h2 => IH.out x hx1 (by omega) p3 c3 w' wr.heap.size h1 h2)
            have HIT2 := Lib.hid (fun h4 => HIT.out x hx1 hlt HN.out h4)
            have HNX : Hid (OK x = false → ∀ q, 0 ≤ q → q < x + 1 → OK q = false) := by
              show _ → _
              intro h q h1 h2
              by_cases e : q = x
              · subst e; exact h
              · exact HN.out q h1 (by omega)
            obtain ⟨K2, hK2⟩ : ∃ K2, OK x = K2 := ⟨_, rfl⟩
            obtain ⟨R2, hR2⟩ : ∃ R2, RS x = R2 := ⟨_, rfl⟩
            rw [hK2] at HC0 HIT2 HNX
            rw [hR2] at HC0 HIT2
            have hl6 : (ints b).length + 1 ≤ 100000 := by have := HMI.out; omega
            have HL1 : Hid ((ints b ++ [(x : Int)]).length = mb + 1) := by show _ = _; rw [List.length_append, HMI.out]; rfl
            clear hK2 hR2 HN
            go_wp2_with fail
            go_region_law (first
              | (go_simp; go_at_call 49; refine (OWN.out _ HBd.out).mono ?_; rintro e w2 ⟨g, c2, rfl, hg, hc21, hc22, hO, hb2⟩; obtain ⟨HO1, HB2, HLT, d0, d1, d2⟩ := AFd.out _ _ _ hO hb2; obtain ⟨d3, d4, d5⟩ := RWC.out (w2.alloc (.cells #[.int .i64 (x : Int)] 3)) (HB2.out.alloc HB2.out.size _); clear hO hb2)
              | (go_simp; go_at_call 49; refine (OWN.out _ HBa.out).mono ?_; rintro e w2 ⟨g, c2, rfl, hg, hc21, hc22, hO, hb2⟩; obtain ⟨HO1, HB2, HLT, d0, d1, d2⟩ := AFa.out _ _ _ hO hb2; clear hO hb2)
              | (refine step_app rfl (.tmp 61) (.tmp 63) rfl wr.heap.size (.slice (some ⟨g, 0, none⟩) mb c2) (ints b) (by simp [Act.eval]) (World.ownsRow.alloc HO1.out _) _ 1 1 0 (w2.heap.size + 1) [(x : Int)] (by simp [Act.eval]) (lit_one (OwnArr.made w2 _ [_]) _ (Nat.lt_succ_self _) (by simp)) rfl hl6 (by have := HB2.out.size; simp; omega) ?_; intro v3 w3 hO3 hg3 hn3; have HB3 := Lib.hid ((HB2.out.alloc HB2.out.size (.cells #[.int .i64 (x : Int)] 3)).grown hg3 (by have := HB2.out.size; simp; omega) (own_block HO1.out)); obtain ⟨p3, c3, e3, -, -, -, -⟩ := hO3.rd; rw [HL1.out] at e3; rw [e3] at hO3 ⊢; have HO3 := Lib.hid hO3; obtain ⟨e0, e1, e2⟩ := RWC.out w3 HB3.out; clear hO3 hg3 hn3 e3)
              | (refine step_app rfl (.tmp 61) (.tmp 63) rfl wr.heap.size (.slice (some ⟨g, 0, none⟩) mb c2) (ints b) (by simp [Act.eval]) HO1.out _ 1 1 0 w2.heap.size [(x : Int)] (by simp [Act.eval]) (lit_one HLT.out _ HLT.out.lt (Nat.le_refl _)) rfl hl6 HB2.out.size ?_; intro v3 w3 hO3 hg3 hn3; have HB3 := Lib.hid (HB2.out.grown hg3 HB2.out.size (own_block HO1.out)); obtain ⟨p3, c3, e3, -, -, -, -⟩ := hO3.rd; rw [HL1.out] at e3; rw [e3] at hO3 ⊢; have HO3 := Lib.hid hO3; obtain ⟨e0, e1, e2⟩ := RWC.out w3 HB3.out; clear hO3 hg3 hn3 e3)
              | (go_simp; go_at_call 33; refine (HC0.out _ _ _ HO3.out HB3.out.size).mono ?_; rintro e w4 ⟨v4, rfl, hO4, hb4⟩; have HB4 := Lib.hid (HB3.out.trans (hb4.mono HB3.out.size)); have HO4 := Lib.hid (hO4.mono (Nat.le_trans hB hsz)); clear hO4 hb4))
            all_goals
              have HX4 := Lib.hid (HX'.out.below HB4.out HX'.out.lt)
              have HB5 := Lib.hid (HB'.out.trans (HB4.out.mono hsz))
              clear HB2 HB3 HO1 HO3 HLT HBd HBa AFd AFa HC0 HX' HB' HB4 d0 d1 d2 e0 e1 e2 RWC k3 k4 k5
              try clear d3 d4 d5
              cases K2 with
              | true =>
                obtain ⟨rfl, rfl⟩ := HIT2.out rfl
                clear HIT2 HNX
                go_wp2_with fail
                go_ret2
                exact ⟨_, rfl, HO4.out, HB5.out⟩
              | false =>
                have HN4 := Lib.hid (HNX.out rfl)
                clear HIT2 HNX
                go_wp2_with fail
                go_roundw
                case rel => exact ⟨x + 1, by omega, by omega, by go_num, HN4, HX4, HB5⟩
                case measure => simp [intOf]; omega
          · have hk1 : ¬ (x : Int) ≤ (L : Int) := by omega
            obtain ⟨rfl, rfl⟩ := NON.out (fun q h1 h2 => HN.out q h1 (by omega))
            have HOZ := Lib.hid ((Out.nilLit wr).mono (Nat.le_trans hB hsz))
            have HBZ := Lib.hid (HB'.out.alloc hsz (.cells #[] 3))
            go_wp2_with fail
            go_ret2
            exact ⟨_, rfl, HOZ.out, HBZ.out⟩
end Go.Proofs.Ytogdiahojbonaaa
