/- spec.TouchingPairs and impl.TouchingPairs, for every Row. -/
import Derived.Test.YtpgabblmnpbajaaSeatNb
import Derived.StillTailTactics
import Derived.Test.YtpgabblmnpbajaaHasI
namespace Go.Proofs.Ytpgabblmnpbajaa
open Go.RowKit

theorem sum_take {f : Nat → Nat} {l : List Nat} {j : Nat} (h : j < l.length) : sumOf f (l.take (j + 1)) = sumOf f (l.take j) + f (l[j]?.getD 0) := by
  rw [List.take_succ_eq_append_getElem h, sumOf_snoc, List.getElem?_eq_getElem h]; rfl
/-- the pairs with a lesser seat, counted up to the seat itself -/
theorem below_same {l : List Nat} (hs : l.Pairwise (· < ·)) {i : Nat} (hi : i < l.length) (g : Nat → Nat) :
    sumOf (fun q => if q < l[i]?.getD 0 then g q else 0) l = sumOf g (l.take i) := by
  have hp : l[i]?.getD 0 = l[i] := by rw [List.getElem?_eq_getElem hi]; rfl
  rw [hp]
  have key : sumOf (fun q => if q < l[i] then g q else 0) l = sumOf (fun q => if q < l[i] then g q else 0) (l.take i) + sumOf (fun q => if q < l[i] then g q else 0) (l.drop i) := by
    unfold sumOf
    rw [← List.sum_append, ← List.map_append, List.take_append_drop]
  rw [key]
  have h1 : sumOf (fun q => if q < l[i] then g q else 0) (l.take i) = sumOf g (l.take i) := by
    apply sumOf_congr
    intro q hq
    obtain ⟨k, hk, he⟩ := List.getElem_of_mem hq
    rw [List.length_take] at hk
    rw [List.getElem_take] at he
    have := List.pairwise_iff_getElem.1 hs k i (by omega) hi (by omega)
    rw [he] at this
    rw [if_pos this]
  have h2 : sumOf (fun q => if q < l[i] then g q else 0) (l.drop i) = 0 := by
    have e := sumOf_congr (f := fun q => if q < l[i] then g q else 0) (g := fun _ => 0) (l := l.drop i) (fun q hq => by
      obtain ⟨k, hk, he⟩ := List.getElem_of_mem hq
      rw [List.length_drop] at hk
      rw [List.getElem_drop] at he
      have : ¬ q < l[i] := by
        rcases Nat.eq_zero_or_pos k with h0 | h0
        · subst h0
          simp only [Nat.add_zero] at he
          omega
        · have := List.pairwise_iff_getElem.1 hs i (i + k) hi (by omega) (by omega)
          omega
      show (if q < l[i] then g q else 0) = 0
      rw [if_neg this])
    rw [e, sumOf_zero]
  omega

set_option maxHeartbeats 800000 in
theorem touchS_bad (s : Int) (ring : Bool) (p : Option Addr) (cap : Nat) (xs : List Int) (w : World) (lo hi : Nat) (hin : Ri lo hi w p xs) (hlen : xs.length ≤ 1048576) (hr : rowB s ring xs = false) :
    Calls Try.prog 27 #[rowV s ring p xs.length cap] w fun e w' => e = .returned (.tuple #[.int .i64 0, .bool false]) ∧ Below w.heap.size w w' := by
  have hb := box_below w s ring p xs.length cap 28
  have R := Lib.hid (l2Row_any s ring p cap xs _ lo hi (hin.bel hb) hlen)
  rw [hr] at R
  have HB := Lib.hid hb
  clear hb hin hr
  go_enter Try.func27, Try.ntmps27
  go_wp2_with fail
  refine R.out.mono ?_
  rintro e w1 ⟨rfl, hb1⟩
  go_wp2_with fail
  go_ret2
  exact ⟨rfl, HB.out.trans (hb1.mono HB.out.size)⟩
set_option maxHeartbeats 800000 in
theorem touchI_bad (s : Int) (ring : Bool) (p : Option Addr) (cap : Nat) (xs : List Int) (w : World) (lo hi : Nat) (hin : Ri lo hi w p xs) (hlen : xs.length ≤ 1048576) (hr : rowB s ring xs = false) :
    Calls Try.prog 28 #[rowV s ring p xs.length cap] w fun e w' => e = .returned (.tuple #[.int .i64 0, .bool false]) ∧ Below w.heap.size w w' := by
  have hb := box_below w s ring p xs.length cap 28
  have R := Lib.hid (isRow_any s ring p cap xs _ lo hi (hin.bel hb) hlen)
  rw [hr] at R
  have HB := Lib.hid hb
  clear hb hin hr
  go_enter Try.func28, Try.ntmps28
  go_wp2_with fail
  refine R.out.mono ?_
  rintro e w1 ⟨rfl, hb1⟩
  go_wp2_with fail
  go_ret2
  exact ⟨rfl, HB.out.trans (hb1.mono HB.out.size)⟩

set_option maxRecDepth 4000 in
set_option maxHeartbeats 2000000 in
theorem touchS_any (n : Nat) (ring : Bool) (p : Option Addr) (cap : Nat) (S : Nat → Bool) (w : World) (lo hi : Nat) (hin : Ri lo hi w p (ints (tk n S))) (h2 : 2 ≤ n) (hn : n ≤ 24) (h3 : ring = true → 3 ≤ n) :
    Calls Try.prog 27 #[rowV n ring p (ints (tk n S)).length cap] w fun e w' => e = .returned (.tuple #[.int .i64 (touchM' n ring S : Nat), .bool true]) ∧ Below w.heap.size w w' := by
  have hlen := ints_tk_len n S
  have hb := box_below w n ring p (ints (tk n S)).length cap 28
  have R := Lib.hid (fun (w' : World) (h' : Below w.heap.size w w') => l2Row_any n ring p cap (ints (tk n S)) w' lo hi (hin.below h' hin.top) (by omega))
  rw [rowB_of h2 hn h3] at R
  have HL : Hid (∀ x ∈ tk n S, x < n) := by show ∀ _, _; exact fun x hx => (mem_tk.1 hx).1
  have HS : Hid ((tk n S).Pairwise (· < ·)) := tk_sorted n S
  have hT0 : touchM' n ring S = sumOf (fun p => sumOf (fun q => if decide (q < p) && decide (gapM n ring p q = 1) then 1 else 0) (tk n S)) (tk n S) := rfl
  rw [hT0]
  obtain ⟨l, hl⟩ : ∃ l, tk n S = l := ⟨_, rfl⟩
  rw [hl] at hin hlen R HL HS hb ⊢
  obtain ⟨m, hm⟩ : ∃ m, l.length = m := ⟨_, rfl⟩
  have hml : (ints l).length = m := by rw [ints_length, hm]
  rw [hml] at hlen R hb ⊢
  obtain ⟨A, hA⟩ : ∃ A : Nat → Nat, (fun p => sumOf (fun q => if decide (q < p) && decide (gapM n ring p q = 1) then 1 else 0) l) = A := ⟨_, rfl⟩
  rw [hA]
  have HAI : Hid (∀ i, i < m → sumOf (fun q => if gapM n ring (l[i]?.getD 0) q = 1 then 1 else 0) (l.take i) = A (l[i]?.getD 0)) := by
    show ∀ _, _
    intro i hi
    rw [← hA]
    show _ = sumOf (fun q => if decide (q < l[i]?.getD 0) && decide (gapM n ring (l[i]?.getD 0) q = 1) then 1 else 0) l
    rw [← below_same HS.out (by omega : i < l.length) (fun q => if gapM n ring (l[i]?.getD 0) q = 1 then 1 else 0)]
    apply sumOf_congr
    intro q _
    by_cases h1 : q < l[i]?.getD 0 <;> by_cases h2 : gapM n ring (l[i]?.getD 0) q = 1 <;> simp [h1, h2]
  have HI := Lib.hid hin
  have HX := Lib.hid (OwnArr.made w 28 [.int .i64 n, .bool ring, .slice p m cap])
  have HB := Lib.hid hb
  replace hm := Lib.hid hm
  clear hb hin hl hml hA hT0 h3
  go_enter Try.func27, Try.ntmps27
  go_wp2_with fail
  refine (R.out _ HB.out).mono ?_
  rintro e w1 ⟨rfl, hb1⟩
  have HX1 := Lib.hid (HX.out.below hb1 HX.out.lt)
  have HB1 := Lib.hid (HB.out.trans (hb1.mono HB.out.size))
  clear HX HB hb1 R
  go_wp2_with fail
  go_loopw [4, 5, 6] (fun c i _ wr => ∃ (d j : Nat), j ≤ m ∧ d ≤ 24 * j ∧ i = .int .i64 j ∧ c = .int .i64 d ∧ Hid (d = sumOf A (l.take j)) ∧ Hid (OwnArr wr w.heap.size 28 [.int .i64 n, .bool ring, .slice p m cap]) ∧ Hid (Below w.heap.size w wr)) (fun _ i _ _ => m - (intOf i).toNat)
  case atStart => exact ⟨0, 0, Nat.zero_le _, Nat.zero_le _, rfl, rfl, rfl, HX1, HB1⟩
  case round =>
    obtain ⟨d, j, hj, hd, rfl, rfl, HD, HX, HB⟩ := hrel
    clear HX1 HB1
    obtain ⟨c0, c1, c2, -⟩ := HX.out.three
    by_cases hlt : j < m
    · have hj1 : (j : Int) < (m : Int) := by omega
      have hjl : j < l.length := by have := hm.out; omega
      have HA2 := Lib.hid (HAI.out j hlt)
      have HST := Lib.hid (sum_take (f := A) hjl)
      have hxn := HL.out _ (nat_mem hjl)
      obtain ⟨b, off, rfl, -, -, hbw, hc⟩ := HI.out.int (by rw [ints_length]; omega)
      have HXJ : Hid (∀ w', Below w.heap.size w w' → w'.cell? ⟨b, off + j, none⟩ = some (.int .i64 ((l[j]?.getD 0 : Nat) : Int))) := by
        show ∀ _, _
        intro w' hb
        have := (hb.cell (p := ⟨b, off + j, none⟩) hbw).trans (hc j (by rw [ints_length]; exact hjl))
        rwa [ints_get hjl] at this
      have HCQ : Hid (∀ k, k < m → ∀ w', Below w.heap.size w w' → w'.cell? ⟨b, off + k, none⟩ = some (.int .i64 ((l[k]?.getD 0 : Nat) : Int))) := by
        show ∀ _, _
        intro k hk w' hb
        have hkl : k < l.length := by have := hm.out; omega
        have := (hb.cell (p := ⟨b, off + k, none⟩) hbw).trans (hc k (by rw [ints_length]; exact hkl))
        rwa [ints_get hkl] at this
      obtain ⟨x, hx⟩ : ∃ x, l[j]?.getD 0 = x := ⟨_, rfl⟩
      rw [hx] at HA2 HST hxn HXJ
      clear hc hx
      have hd0 : d ≤ 576 := by omega
      go_wp2_with fail
      go_loopw [4, 6] (fun c i wr2 => ∃ (d2 k : Nat), k ≤ j ∧ d2 ≤ d + k ∧ i = .int .i64 k ∧ c = .int .i64 d2 ∧ Hid (d2 = d + sumOf (fun q => if gapM n ring x q = 1 then 1 else 0) (l.take k)) ∧ Hid (OwnArr wr2 w.heap.size 28 [.int .i64 n, .bool ring, .slice (some ⟨b, off, none⟩) m cap]) ∧ Hid (Below w.heap.size w wr2)) (fun _ i _ => j - (intOf i).toNat)
      case atStart => exact ⟨d, 0, Nat.zero_le _, Nat.le_refl _, rfl, rfl, by show _ = _; simp [sumOf], HX, HB⟩
      case round =>
        obtain ⟨d2, k, hk, hd2, rfl, rfl, HD2, HX2, HB2⟩ := hrel
        clear HX HB c0 c1 c2
        obtain ⟨c0, c1, c2, -⟩ := HX2.out.three
        by_cases hkt : k < j
        · have hk1 : (k : Int) < (j : Int) := by omega
          have hk2 : (k : Int) < (m : Int) := by omega
          have hk0 : (0 : Int) ≤ (k : Int) := by omega
          have hj0 : (0 : Int) ≤ (j : Int) := by omega
          have hkl : k < l.length := by omega
          have x1 := HXJ.out _ HB2.out
          have x2 := HCQ.out k (by omega) _ HB2.out
          have hyn := HL.out _ (nat_mem hkl)
          have HST2 := Lib.hid (sum_take (f := fun q => if gapM n ring x q = 1 then 1 else 0) hkl)
          obtain ⟨y, hy⟩ : ∃ y, l[k]?.getD 0 = y := ⟨_, rfl⟩
          rw [hy] at x2 hyn HST2
          have G := Lib.hid (fun w' => gapS_any n ring (some ⟨b, off, none⟩) m cap x y w' hn hxn hyn)
          obtain ⟨g, hg⟩ : ∃ g, gapM n ring x y = g := ⟨_, rfl⟩
          rw [hg] at G
          have HST3 : Hid (sumOf (fun q => if gapM n ring x q = 1 then 1 else 0) (l.take (k + 1)) = sumOf (fun q => if gapM n ring x q = 1 then 1 else 0) (l.take k) + if g = 1 then 1 else 0) := by
            show _ = _
            rw [HST2.out, hg]
          have HXD : Hid (OwnArr wr.drew w.heap.size 28 [.int .i64 n, .bool ring, .slice (some ⟨b, off, none⟩) m cap]) := HX2.out
          have HBD : Hid (Below w.heap.size w wr.drew) := HB2.out.drew
          clear hy hg HST2 HX2 HB2
          go_wp2_with fail
          go_still_tail 11, (by kernel_rfl)
          change wpList _ _ _ _ _ wr.drew
          go_wp2_with fail
          refine (G.out _).mono ?_
          rintro e w5 ⟨rfl, hb5⟩
          have HX5 := Lib.hid (HXD.out.below hb5 HXD.out.lt)
          have HB5 := Lib.hid (HBD.out.trans (hb5.mono HBD.out.size))
          clear HXD HBD hb5 c0 c1 c2 x1 x2 G
          by_cases hg1 : g = 1
          · have HD5 : Hid (d2 + 1 = d + sumOf (fun q => if gapM n ring x q = 1 then 1 else 0) (l.take (k + 1))) := by
              show _ = _
              rw [HST3.out, if_pos hg1]
              have := HD2.out
              omega
            subst hg1
            clear HST3 HD2
            go_wp2_with fail
            go_roundw
            case rel => exact ⟨d2 + 1, k + 1, by omega, by omega, by go_num, by go_num, HD5, HX5, HB5⟩
            case measure => simp [intOf]; omega
          · have HD5 : Hid (d2 = d + sumOf (fun q => if gapM n ring x q = 1 then 1 else 0) (l.take (k + 1))) := by
              show _ = _
              rw [HST3.out, if_neg hg1]
              have := HD2.out
              omega
            have hg2 : ¬ (g : Int) = 1 := by omega
            clear HST3 HD2
            go_wp2_with fail
            go_roundw
            case rel => exact ⟨d2, k + 1, by omega, by omega, by go_num, rfl, HD5, HX5, HB5⟩
            case measure => simp [intOf]; omega
        · have hkj : k = j := by omega
          subst hkj
          have HD6 : Hid (d2 = sumOf A (l.take (k + 1))) := by
            show _ = _
            rw [HST.out, ← HA2.out]
            have := HD.out
            have := HD2.out
            omega
          clear HD HD2 HST HA2 HXJ HCQ
          go_wp2_with fail
          go_roundw
          case rel => exact ⟨d2, k + 1, by omega, by omega, by go_num, rfl, HD6, HX2, HB2⟩
          case measure => simp [intOf]; omega
    · have hjm : l.take j = l := List.take_of_length_le (by have := hm.out; omega)
      have hF := HD.out
      rw [hjm] at hF
      replace hF := Lib.hid hF
      clear HD hjm
      go_wp2_with fail
      go_ret2
      exact ⟨by rw [← hF.out]; rfl, HB.out⟩

set_option maxRecDepth 4000 in
set_option maxHeartbeats 2000000 in
theorem touchI_any (n : Nat) (ring : Bool) (p : Option Addr) (cap : Nat) (S : Nat → Bool) (w : World) (lo hi : Nat) (hin : Ri lo hi w p (ints (tk n S))) (h2 : 2 ≤ n) (hn : n ≤ 24) (h3 : ring = true → 3 ≤ n) :
    Calls Try.prog 28 #[rowV n ring p (ints (tk n S)).length cap] w fun e w' => e = .returned (.tuple #[.int .i64 (touchM n ring S : Nat), .bool true]) ∧ Below w.heap.size w w' := by
  have hlen := ints_tk_len n S
  have hb := box_below w n ring p (ints (tk n S)).length cap 28
  have R := Lib.hid (fun (w' : World) (h' : Below w.heap.size w w') => isRow_any n ring p cap (ints (tk n S)) w' lo hi (hin.below h' hin.top) (by omega))
  rw [rowB_of h2 hn h3] at R
  have TK := fun (q : Nat) (hq : q < n) (w' : World) (h' : Below w.heap.size w w') => isTaken_any n ring p cap (ints (tk n S)) q w' lo hi (hin.below h' hin.top) (by omega)
  have TK2 : ∀ (q : Nat) (hq : q < n), decide ((q : Int) ∈ ints (tk n S)) = S q := fun q hq => has_tk hq
  have HL : Hid (∀ x ∈ tk n S, x < n) := by show ∀ _, _; exact fun x hx => (mem_tk.1 hx).1
  have hT0 : touchM n ring S = sumOf (fun p => sumOf (fun q => if decide (p < q) && S q then 1 else 0) (nearM n ring p)) (tk n S) := rfl
  rw [hT0]
  have NB := Lib.hid (fun (m : Nat) (x : Nat) (hx : x < n) w' => nearI_any n ring p m cap x w' h2 hn h3 hx)
  obtain ⟨l, hl⟩ : ∃ l, tk n S = l := ⟨_, rfl⟩
  rw [hl] at hin hlen R HL hb TK TK2 ⊢
  obtain ⟨m, hm⟩ : ∃ m, l.length = m := ⟨_, rfl⟩
  have hml : (ints l).length = m := by rw [ints_length, hm]
  rw [hml] at hlen R hb TK ⊢
  obtain ⟨A, hA⟩ : ∃ A : Nat → Nat, (fun p => sumOf (fun q => if decide (p < q) && S q then 1 else 0) (nearM n ring p)) = A := ⟨_, rfl⟩
  rw [hA]
  have HAI : Hid (∀ x, sumOf (fun q => if decide (x < q) && S q then 1 else 0) (nearM n ring x) = A x) := by
    show ∀ _, _
    intro x
    rw [← hA]
  have HI := Lib.hid hin
  have HX := Lib.hid (OwnArr.made w 28 [.int .i64 n, .bool ring, .slice p m cap])
  have HB := Lib.hid hb
  replace hm := Lib.hid hm
  replace TK := Lib.hid TK
  replace TK2 := Lib.hid TK2
  clear hb hin hl hml hA hT0 h3
  go_enter Try.func28, Try.ntmps28
  go_wp2_with fail
  refine (R.out _ HB.out).mono ?_
  rintro e w1 ⟨rfl, hb1⟩
  have HX1 := Lib.hid (HX.out.below hb1 HX.out.lt)
  have HB1 := Lib.hid (HB.out.trans (hb1.mono HB.out.size))
  clear HX HB hb1 R
  obtain ⟨c0, c1, c2, -⟩ := HX1.out.three
  go_wp2_with fail
  clear c0 c1 c2
  go_loopw [4, 6, 8, 15] (fun c _ _ i wr => ∃ (d j : Nat), j ≤ m ∧ d ≤ 24 * j ∧ i = .int .i64 j ∧ c = .int .i64 d ∧ Hid (d = sumOf A (l.take j)) ∧ Hid (OwnArr wr w.heap.size 28 [.int .i64 n, .bool ring, .slice p m cap]) ∧ Hid (Below w.heap.size w wr)) (fun _ _ _ i _ => m - (intOf i).toNat)
  case atStart => exact ⟨0, 0, Nat.zero_le _, Nat.zero_le _, rfl, rfl, rfl, HX1, HB1⟩
  case round =>
    obtain ⟨d, j, hj, hd, rfl, rfl, HD, HX, HB⟩ := hrel
    clear HX1 HB1
    obtain ⟨c0, c1, c2, -⟩ := HX.out.three
    by_cases hlt : j < m
    · have hj1 : (j : Int) < (m : Int) := by omega
      have hjl : j < l.length := by have := hm.out; omega
      have HA2 := Lib.hid (HAI.out (l[j]?.getD 0))
      have HST := Lib.hid (sum_take (f := A) hjl)
      have hxn := HL.out _ (nat_mem hjl)
      obtain ⟨b, off, rfl, -, -, hbw, hc⟩ := HI.out.int (by rw [ints_length]; omega)
      have h0 := (HB.out.cell (p := ⟨b, off + j, none⟩) hbw).trans (hc j (by rw [ints_length]; exact hjl))
      rw [ints_get hjl] at h0
      obtain ⟨x, hx⟩ : ∃ x, l[j]?.getD 0 = x := ⟨_, rfl⟩
      rw [hx] at HA2 HST hxn h0
      clear hc hx
      have hd0 : d ≤ 576 := by omega
      go_wp2_with fail
      refine (NB.out _ x hxn _).mono ?_
      rintro e w3 ⟨v, rfl, hO, hb3⟩
      obtain ⟨qv, qc, rfl, -, -, hR, -⟩ := hO.rd
      have hnl : ∀ y ∈ nearM n ring x, y < n := fun y hy => (mem_tk.1 hy).1
      have hnlen := tk_length_le n (fun q => decide (gapM n ring x q = 1))
      have hnlen2 : (nearM n ring x).length ≤ n := hnlen
      obtain ⟨nl, hnlE⟩ : ∃ nl, nearM n ring x = nl := ⟨_, rfl⟩
      rw [hnlE] at hR hnl hnlen2 HA2 ⊢
      obtain ⟨nm, hnm⟩ : ∃ nm, nl.length = nm := ⟨_, rfl⟩
      have hnm2 : (ints nl).length = nm := by rw [ints_length, hnm]
      rw [hnm2]
      rw [hnm] at hnlen2
      have HN := Lib.hid hnl
      have HR := Lib.hid hR
      have HX3 := Lib.hid (HX.out.below hb3 HX.out.lt)
      have HB3 := Lib.hid (HB.out.trans (hb3.mono HB.out.size))
      replace hnm := Lib.hid hnm
      clear hO hb3 hR hnl hnlen hnlE hnm2 HX HB c0 c1 c2 h0
      go_wp2_with fail
      go_loopw [4, 8, 23] (fun c _ i wr => ∃ (d2 k : Nat), k ≤ nm ∧ d2 ≤ d + k ∧ i = .int .i64 k ∧ c = .int .i64 d2 ∧ Hid (d2 = d + sumOf (fun q => if decide (x < q) && S q then 1 else 0) (nl.take k)) ∧ Hid (OwnArr wr w.heap.size 28 [.int .i64 n, .bool ring, .slice (some ⟨b, off, none⟩) m cap]) ∧ Hid (Below w.heap.size w wr) ∧ Hid (Below w3.heap.size w3 wr)) (fun _ _ i _ => nm - (intOf i).toNat)
      case atStart => exact ⟨d, 0, Nat.zero_le _, Nat.le_refl _, rfl, rfl, by show _ = _; simp [sumOf], HX3, HB3, Below.refl _ _⟩
      case round =>
        obtain ⟨d2, k, hk, hd2, rfl, rfl, HD2, HX, HB, HW⟩ := hrel
        clear HX3 HB3
        obtain ⟨c0, c1, c2, -⟩ := HX.out.three
        by_cases hkt : k < nm
        · have hk1 : (k : Int) < (nm : Int) := by omega
          have hkl : k < nl.length := by have := hnm.out; omega
          obtain ⟨bv', offv, rfl, -, -, hbw', hc'⟩ := HR.out.int (by rw [ints_length]; omega)
          have h0' := (HW.out.cell (p := ⟨bv', offv + k, none⟩) hbw').trans (hc' k (by rw [ints_length]; exact hkl))
          rw [ints_get hkl] at h0'
          have hyn := HN.out _ (nat_mem hkl)
          have HST2 := Lib.hid (sum_take (f := fun q => if decide (x < q) && S q then 1 else 0) hkl)
          obtain ⟨y, hy⟩ : ∃ y, nl[k]?.getD 0 = y := ⟨_, rfl⟩
          rw [hy] at h0' hyn HST2
          have tk1 := TK.out y hyn
          rw [TK2.out y hyn] at tk1
          obtain ⟨t, ht⟩ : ∃ t, S y = t := ⟨_, rfl⟩
          rw [ht] at tk1
          have TK3 := Lib.hid tk1
          have HST3 : Hid (sumOf (fun q => if decide (x < q) && S q then 1 else 0) (nl.take (k + 1)) = sumOf (fun q => if decide (x < q) && S q then 1 else 0) (nl.take k) + if decide (x < y) && t then 1 else 0) := by
            show _ = _
            rw [HST2.out, ht]
          clear hy ht HST2 tk1 hc'
          by_cases hxy : x < y
          · have hxy1 : (x : Int) < (y : Int) := by omega
            cases t with
            | true =>
              have HD5 : Hid (d2 + 1 = d + sumOf (fun q => if decide (x < q) && S q then 1 else 0) (nl.take (k + 1))) := by
                show _ = _
                have e : (if decide (x < y) && true then 1 else 0 : Nat) = 1 := by simp [hxy]
                rw [HST3.out, e]
                have := HD2.out
                omega
              clear HST3 HD2
              go_wp2_with fail
              refine (TK3.out _ HB.out).mono ?_
              rintro e w5 ⟨rfl, hb5⟩
              have HX5 := Lib.hid (HX.out.below hb5 HX.out.lt)
              have HB5 := Lib.hid (HB.out.trans (hb5.mono HB.out.size))
              have HW5 := Lib.hid (HW.out.trans (hb5.mono HW.out.size))
              clear HX HB HW hb5 c0 c1 c2 h0' TK3
              go_wp2_with fail
              go_roundw
              case rel => exact ⟨d2 + 1, k + 1, by omega, by omega, by go_num, by go_num, HD5, HX5, HB5, HW5⟩
              case measure => simp [intOf]; omega
            | false =>
              have HD5 : Hid (d2 = d + sumOf (fun q => if decide (x < q) && S q then 1 else 0) (nl.take (k + 1))) := by
                show _ = _
                have e : (if decide (x < y) && false then 1 else 0 : Nat) = 0 := by simp
                rw [HST3.out, e]
                have := HD2.out
                omega
              clear HST3 HD2
              go_wp2_with fail
              refine (TK3.out _ HB.out).mono ?_
              rintro e w5 ⟨rfl, hb5⟩
              have HX5 := Lib.hid (HX.out.below hb5 HX.out.lt)
              have HB5 := Lib.hid (HB.out.trans (hb5.mono HB.out.size))
              have HW5 := Lib.hid (HW.out.trans (hb5.mono HW.out.size))
              clear HX HB HW hb5 c0 c1 c2 h0' TK3
              go_wp2_with fail
              go_roundw
              case rel => exact ⟨d2, k + 1, by omega, by omega, by go_num, rfl, HD5, HX5, HB5, HW5⟩
              case measure => simp [intOf]; omega
          · have hxy1 : ¬ (x : Int) < (y : Int) := by omega
            have HD5 : Hid (d2 = d + sumOf (fun q => if decide (x < q) && S q then 1 else 0) (nl.take (k + 1))) := by
              show _ = _
              have e : (if decide (x < y) && t then 1 else 0 : Nat) = 0 := by simp [hxy]
              rw [HST3.out, e]
              have := HD2.out
              omega
            clear HST3 HD2
            go_wp2_with fail
            go_roundw
            case rel => exact ⟨d2, k + 1, by omega, by omega, by go_num, rfl, HD5, HX, HB, HW⟩
            case measure => simp [intOf]; omega
        · have hkj : k = nm := by omega
          have hto : nl.take k = nl := List.take_of_length_le (by have := hnm.out; omega)
          have HD6 : Hid (d2 = sumOf A (l.take (j + 1))) := by
            show _ = _
            rw [HST.out, ← HA2.out]
            have h1 := HD.out
            have h2 := HD2.out
            rw [hto] at h2
            omega
          clear HD HD2 HST HA2 hto
          go_wp2_with fail
          go_roundw
          case rel => exact ⟨d2, j + 1, by omega, by omega, by go_num, rfl, HD6, HX, HB⟩
          case measure => simp [intOf]; omega
    · have hjm : l.take j = l := List.take_of_length_le (by have := hm.out; omega)
      have hF := HD.out
      rw [hjm] at hF
      replace hF := Lib.hid hF
      clear HD hjm
      go_wp2_with fail
      go_ret2
      exact ⟨by rw [← hF.out]; rfl, HB.out⟩

theorem touchingPairs_both (s : Int) (ring : Bool) (xs : List Int) : ∃ (t : Int) (B : Bool),
    (∀ (p : Option Addr) (cap : Nat) (w : World) (lo hi : Nat), Ri lo hi w p xs → xs.length ≤ 1048576 → Calls Try.prog 27 #[rowV s ring p xs.length cap] w fun e w' => e = .returned (.tuple #[.int .i64 t, .bool B]) ∧ Below w.heap.size w w') ∧
    (∀ (p : Option Addr) (cap : Nat) (w : World) (lo hi : Nat), Ri lo hi w p xs → xs.length ≤ 1048576 → Calls Try.prog 28 #[rowV s ring p xs.length cap] w fun e w' => e = .returned (.tuple #[.int .i64 t, .bool B]) ∧ Below w.heap.size w w') := by
  cases hr : rowB s ring xs with
  | true =>
    obtain ⟨n, S, rfl, rfl, h2, hn, h3⟩ := rowB_is hr
    refine ⟨(touchM n ring S : Nat), true, fun p cap w lo hi hin _ => ?_, fun p cap w lo hi hin _ => touchI_any n ring p cap S w lo hi hin h2 hn h3⟩
    rw [touch_same]
    exact touchS_any n ring p cap S w lo hi hin h2 hn h3
  | false =>
    exact ⟨_, _, fun p cap w lo hi hin hl => touchS_bad s ring p cap xs w lo hi hin hl hr, fun p cap w lo hi hin hl => touchI_bad s ring p cap xs w lo hi hin hl hr⟩
end Go.Proofs.Ytpgabblmnpbajaa
