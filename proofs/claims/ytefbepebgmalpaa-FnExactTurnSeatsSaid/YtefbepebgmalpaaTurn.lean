/- spec.TurnSeats, for every Row and all numbers. -/
import Derived.Test.YtefbepebgmalpaaTake
import Derived.StillTailTactics
namespace Go.Proofs.Ytefbepebgmalpaa
open Go.RowKit

theorem turnL_len (n b : Nat) (l : List Nat) : (turnL n b l).length = l.length := by
  have key : ∀ (l : List Nat), (turnL n b l.reverse).length = l.length := by
    intro l
    induction l with
    | nil => rfl
    | cons x l ih => rw [List.reverse_cons, turnL_snoc, putM_length, ih]; rfl
  have := key l.reverse
  rwa [List.reverse_reverse, List.length_reverse] at this

set_option maxHeartbeats 1600000 in
/-- it fails: a Row that is not valid, a line, no seat -/
theorem turnS_bad (s : Int) (ring : Bool) (p : Option Addr) (cap : Nat) (xs : List Int) (k : Int) (w : World) (lo hi : Nat) (hin : Ri lo hi w p xs) (hlen : xs.length ≤ 1048576) (h : (seatB s ring xs k && ring) = false) :
    Calls Try.prog 18 #[rowV s ring p xs.length cap, .int .i64 k] w (MadeRow w 0 false [] false) := by
  have hE := Beg.start w s ring p xs.length cap
  have R := fun (w' : World) (h' : Below w.heap.size w w') => l2Row_any s ring p cap xs w' lo hi (hin.below h' hin.top) hlen
  have HE := Lib.hid hE
  replace R := Lib.hid R
  clear hE hin
  unfold MadeRow
  cases hr : rowB s ring xs with
  | false =>
    rw [hr] at R
    clear h hr
    go_enter Try.func18, Try.ntmps18
    go_wp2_with fail
    refine (R.out _ HE.out.bel).mono ?_
    rintro e w1 ⟨rfl, hb1⟩
    have HE1 := Lib.hid (HE.out.next hb1)
    obtain ⟨z0, z1, z2, y0, y1, y2⟩ := HE1.out.res.three
    clear HE hb1 R
    go_wp2_with fail
    exact ret_row2 Try.results18 rfl rfl (HE1.out.out _ _ _).1 rfl ⟨_, rfl, Out.none _ _, (HE1.out.out _ _ _).2⟩
  | true =>
    rw [hr] at R
    cases ring with
    | false =>
      clear h hr
      go_enter Try.func18, Try.ntmps18
      go_wp2_with fail
      refine (R.out _ HE.out.bel).mono ?_
      rintro e w1 ⟨rfl, hb1⟩
      have HE1 := Lib.hid (HE.out.next hb1)
      obtain ⟨z0, z1, z2, y0, y1, y2⟩ := HE1.out.res.three
      obtain ⟨c0, c1, c2, -⟩ := HE1.out.row.three
      clear HE hb1 R
      go_wp2_with fail
      exact ret_row2 Try.results18 rfl rfl (HE1.out.out _ _ _).1 rfl ⟨_, rfl, Out.none _ _, (HE1.out.out _ _ _).2⟩
    | true =>
      have hs : 2 ≤ s ∧ s ≤ 24 := by
        obtain ⟨n, S, rfl, _, h1, h2, _⟩ := rowB_is hr
        omega
      obtain ⟨hs1, hs2⟩ := hs
      have e1 : IntKind.i64.wrap (s - 1) = s - 1 := IntWalk.i64_in _ (by omega)
      have IN := fun w' => l1In_any k 0 (s - 1) w'
      have hC : (decide (0 ≤ k) && decide (k ≤ s - 1)) = false := by
        unfold seatB at h
        rw [hr] at h
        simp only [Bool.true_and, Bool.and_true] at h
        rw [← h]
        congr 1
        exact decide_eq_decide.2 (by omega)
      rw [hC] at IN
      replace IN := Lib.hid IN
      clear h hr hC
      go_enter Try.func18, Try.ntmps18
      go_wp2_with fail
      refine (R.out _ HE.out.bel).mono ?_
      rintro e w1 ⟨rfl, hb1⟩
      have HE1 := Lib.hid (HE.out.next hb1)
      obtain ⟨z0, z1, z2, y0, y1, y2⟩ := HE1.out.res.three
      obtain ⟨c0, c1, c2, -⟩ := HE1.out.row.three
      clear HE hb1 R
      go_wp2_with fail
      refine (IN.out _).mono ?_
      rintro e w2 ⟨rfl, rfl⟩
      go_wp2_with fail
      exact ret_row2 Try.results18 rfl rfl (HE1.out.out _ _ _).1 rfl ⟨_, rfl, Out.none _ _, (HE1.out.out _ _ _).2⟩

set_option maxRecDepth 4000 in
set_option maxHeartbeats 4000000 in
theorem turnS_any (n : Nat) (p : Option Addr) (cap : Nat) (S : Nat → Bool) (b : Nat) (w : World) (lo hi : Nat) (hin : Ri lo hi w p (ints (tk n S))) (h2 : 2 ≤ n) (hn : n ≤ 24) (h3 : 3 ≤ n) (hb : b < n) :
    Calls Try.prog 18 #[rowV n true p (ints (tk n S)).length cap, .int .i64 b] w (MadeRow w n true (ints (tk n fun i => S ((i + n - b) % n))) true) := by
  have hlen := ints_tk_len n S
  have hE := Beg.start w n true p (ints (tk n S)).length cap
  have R := fun (w' : World) (h' : Below w.heap.size w w') => l2Row_any n true p cap (ints (tk n S)) w' lo hi (hin.below h' hin.top) (by omega)
  rw [rowB_of h2 hn (fun _ => h3)] at R
  have IN := fun w' => l1In_any (b : Int) 0 ((n : Int) - 1) w'
  have hC : (decide (0 ≤ (b : Int)) && decide ((b : Int) ≤ (n : Int) - 1)) = true := by simp; omega
  rw [hC] at IN
  have HL : Hid (∀ x ∈ tk n S, x < n) := by show ∀ _, _; exact fun x hx => (mem_tk.1 hx).1
  have HS : Hid ((tk n S).Pairwise (· < ·)) := tk_sorted n S
  rw [← turn_spec hb]
  obtain ⟨l, hl⟩ : ∃ l, tk n S = l := ⟨_, rfl⟩
  rw [hl] at hin hlen R HL HS hE ⊢
  obtain ⟨m, hm⟩ : ∃ m, l.length = m := ⟨_, rfl⟩
  have hml : (ints l).length = m := by rw [ints_length, hm]
  rw [hml] at hlen R hE ⊢
  have PU := Lib.hid (fun (w' : World) (g c : Nat) (xs : List Int) (x : Int) (h1 : xs.length ≤ c) (h2 : c ≤ maxLen) (h3 : Out (w.heap.size + 1) w' (.slice (some ⟨g, 0, none⟩) xs.length c) xs) (h4 : xs.length ≤ 24) (h5 : x ∉ xs) => l1Put_any g 0 c xs x w' (w.heap.size + 1) w'.heap.size (by obtain ⟨p', c', e, -, -, h, -⟩ := h3.rd; simp only [Value.slice.injEq, true_and] at e; obtain ⟨rfl, -⟩ := e; exact h) (by omega) h1 h2 h5)
  replace HI := Lib.hid hin
  have HE := Lib.hid hE
  replace R := Lib.hid R
  replace IN := Lib.hid IN
  replace hm := Lib.hid hm
  have e1 : IntKind.i64.wrap ((n : Int) - 1) = (n : Int) - 1 := IntWalk.i64_in _ (by omega)
  clear hE hin hl hml hC
  unfold MadeRow
  go_enter Try.func18, Try.ntmps18
  go_wp2_with fail
  refine (R.out _ HE.out.bel).mono ?_
  rintro e w1 ⟨rfl, hb1⟩
  have HE1 := Lib.hid (HE.out.next hb1)
  clear HE R hb1
  obtain ⟨c0, c1, c2, -⟩ := HE1.out.row.three
  go_wp2_with fail
  refine (IN.out _).mono ?_
  rintro e w2 ⟨rfl, rfl⟩
  have hO := Out.nilLit w1
  have hE2 := HE1.out.next ((Below.refl _ w1).alloc (Nat.le_refl _) (.cells #[] 3))
  have HO1 := Lib.hid (hO.mono (Nat.le_of_lt HE1.out.res.lt))
  have HE2 := Lib.hid hE2
  clear HE1 hO hE2 c0 c1 c2 IN
  obtain ⟨c0, c1, c2, -⟩ := HE2.out.row.three
  go_wp2_with fail
  clear c0 c1 c2
  go_loopw [6, 7] (fun v i wr => ∃ (j : Nat), j ≤ m ∧ i = .int .i64 j ∧ ¬ v = .slice none 0 0 ∧ Hid (Beg w n true p m cap wr) ∧ Hid (Out (w.heap.size + 1) wr v (turnL n b (l.take j)))) (fun _ i _ => m - (intOf i).toNat)
  case atStart => exact ⟨0, Nat.zero_le _, rfl, by simp, HE2, HO1⟩
  case round =>
    obtain ⟨j, hj, rfl, hv, HE, HO⟩ := hrel
    clear HE2 HO1
    obtain ⟨c0, c1, c2, -⟩ := HE.out.row.three
    have htl : (turnL n b (l.take j)).length = j := by rw [turnL_len, List.length_take, hm.out]; omega
    obtain ⟨g, c, e, -, -, hgc, hcm⟩ := HO.out.some' hv
    rw [htl] at e hgc
    subst e
    by_cases hlt : j < m
    · have hjl : j < l.length := by have := hm.out; omega
      obtain ⟨b', off, rfl, -, -, hbw, hc⟩ := HI.out.int (by rw [ints_length]; omega)
      have h0 := (HE.out.bel.cell (p := ⟨b', off + j, none⟩) hbw).trans (hc j (by rw [ints_length]; exact hjl))
      rw [ints_get hjl] at h0
      have hyn := HL.out _ (nat_mem hjl)
      have hst : l.take (j + 1) = l.take j ++ [l[j]?.getD 0] := by
        rw [List.take_succ_eq_append_getElem hjl, List.getElem?_eq_getElem hjl]; rfl
      have hni : l[j]?.getD 0 ∉ l.take j := by
        intro hmem
        have hp := HS.out
        rw [List.getElem?_eq_getElem hjl] at hmem
        obtain ⟨i, hi, he⟩ := List.getElem_of_mem hmem
        rw [List.length_take] at hi
        rw [List.getElem_take] at he
        have := List.pairwise_iff_getElem.1 hp i j (by omega) hjl (by omega)
        rw [he] at this
        exact Nat.lt_irrefl _ this
      obtain ⟨y, hy⟩ : ∃ y, l[j]?.getD 0 = y := ⟨_, rfl⟩
      rw [hy] at h0 hyn hst hni
      have hnt := turnL_notin hb (l := l.take j) (t := y) (fun t ht => HL.out t (List.mem_of_mem_take ht)) (HS.out.sublist (List.take_sublist _ _)) hyn hni
      obtain ⟨z, hz⟩ : ∃ z, (y + b) % n = z := ⟨_, rfl⟩
      rw [hz] at hnt
      have PU2 := PU.out
      have hPU := fun (w' : World) (h : Out (w.heap.size + 1) w' (.slice (some ⟨g, 0, none⟩) j c) (turnL n b (l.take j))) => PU.out w' g c (turnL n b (l.take j)) (z : Int) (by rw [htl]; exact hgc) hcm (by rw [htl]; exact h) (by rw [htl]; omega) hnt
      rw [htl] at hPU
      have HPU := Lib.hid hPU
      have HT : Hid (turnL n b (l.take (j + 1)) = putM (z : Int) (turnL n b (l.take j))) := by show _ = _; rw [hst, turnL_snoc, hz]
      have hz1 : ((y : Int) + (b : Int)) % (n : Int) = (z : Int) := by rw [← hz]; push_cast; rfl
      have hz2 : ((y : Int) + (b : Int)).tmod (n : Int) = (z : Int) := by rw [Int.tmod_eq_emod_of_nonneg (by omega)]; exact hz1
      have hn0 : ¬ n = 0 := by omega
      have e2 : IntKind.i64.wrap ((y : Int) + (b : Int)) = (y : Int) + (b : Int) := IntWalk.i64_in _ (by omega)
      have hzn : z < n := by rw [← hz]; exact Nat.mod_lt _ (by omega)
      have e3 : IntKind.i64.wrap (z : Int) = (z : Int) := IntWalk.i64_in _ (by omega)
      have ht1 : (j : Int) < (m : Int) := by omega
      have HO2 : Hid (Out (w.heap.size + 1) wr.drew (.slice (some ⟨g, 0, none⟩) j c) (turnL n b (l.take j))) := HO.out
      have HE2 : Hid (Beg w n true (some ⟨b', off, none⟩) m cap wr.drew) := by show Beg _ _ _ _ _ _ _; exact HE.out.next ((Below.refl _ _).drew)
      clear hc hy hst hni hnt hPU PU2 htl hgc hcm HO HE
      go_wp2_with fail
      go_still_tail 11, (by kernel_rfl)
      change wpList _ _ _ _ _ wr.drew
      go_wp2_with fail
      refine (HPU.out _ HO2.out).mono ?_
      rintro e w3 ⟨g3, c3, rfl, -, -, -, hO3, hb3⟩
      have HE3 := Lib.hid (HE2.out.next hb3)
      have ho3 := hO3.mono (Nat.le_of_lt HE2.out.res.lt)
      rw [← HT.out] at ho3
      have HO3 := Lib.hid ho3
      clear ho3 hO3 hb3 HO2 HE2 HPU c0 c1 c2 h0
      go_wp2_with fail
      go_roundw
      case rel => exact ⟨j + 1, by omega, by go_num, by simp, HE3, HO3⟩
      case measure => simp [intOf]; omega
    · have hto : l.take j = l := List.take_of_length_le (by have := hm.out; omega)
      have hjm : j = m := by omega
      subst hjm
      have hO := HO.out
      rw [hto] at hO
      have HO2 := Lib.hid hO
      clear hO HO hto htl hgc hcm
      go_wp2_with fail
      refine (l2Made_any _ _ _ _ _ _ _ _ _).mono ?_
      rintro e w3 ⟨rfl, hb3⟩
      have HE3 := Lib.hid (HE.out.next hb3)
      have HO3 := Lib.hid (HO2.out.below hb3)
      clear HE HO2 hb3 c0 c1 c2
      obtain ⟨z0, z1, z2, y0, y1, y2⟩ := HE3.out.res.three
      go_wp2_with fail
      exact ret_row2 Try.results18 rfl rfl (HE3.out.out _ _ _).1 rfl ⟨_, rfl, (HO3.out.boxed HE3.out.res _ _ _).mono (Nat.le_succ _), (HE3.out.out _ _ _).2⟩
end Go.Proofs.Ytefbepebgmalpaa
