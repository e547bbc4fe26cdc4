/- Chapter 7: boarding times of all enterings: what is counted; spec.l7Few, CountBest, WorstTime. -/
import Derived.Test.YtlhnejjciondeaaAll7
import Derived.Test.YtlhnejjciondeaaBrd7
import Derived.Test.YtlhnejjciondeaaBrdB7
namespace Go.Proofs.Ytlhnejjciondeaa
open Go.RowKit

theorem runs_uniq {n : Nat} {s : Int} {l : List Nat} {U V : Nat} (hU : runs7 n s (-1) l U) (hV : runs7 n s (-1) l V) : U = V := by
  have key : ∀ {U V : Nat}, runs7 n s (-1) l U → runs7 n s (-1) l V → U < V → False := by
    intro U V h1 h2 hlt
    have a := (h2.go U hlt).2
    rcases h1.stop with b | b
    · exact b (.inl (by omega))
    · rw [a] at b; cases b
  rcases Nat.lt_trichotomy U V with h | h | h
  · exact (key hU hV h).elim
  · exact h
  · exact (key hV hU h).elim
/-- the boarding time of an entering -/
noncomputable def tmM (n : Nat) (s : Int) (x : List Int) : Nat := open Classical in if h : ∃ U, runs7 n s (-1) (x.map Int.toNat) U then Classical.choose h else 0
theorem ints_back (l : List Nat) : (ints l).map Int.toNat = l := by
  unfold ints
  rw [List.map_map]
  conv => rhs; rw [← List.map_id l]
  apply List.map_congr_left
  intro a _
  show ((a : Int)).toNat = a
  omega
theorem tm_is {n : Nat} {s : Int} {l : List Nat} {U : Nat} (hU : runs7 n s (-1) l U) : tmM n s (ints l) = U := by
  have h : ∃ U, runs7 n s (-1) ((ints l).map Int.toNat) U := ⟨U, by rw [ints_back]; exact hU⟩
  unfold tmM
  rw [dif_pos h]
  have h2 := Classical.choose_spec h
  generalize Classical.choose h = V at h2 ⊢
  rw [ints_back] at h2
  exact runs_uniq h2 hU
theorem tm_ent {n : Nat} {s : Int} {x : List Int} (h2 : n ≤ 10) (h3 : 1 ≤ s) (h4 : s ≤ 5) (hx : x ∈ entM n) : ∃ l : List Nat, x = ints l ∧ l.length = n ∧ (∀ y ∈ l, y < n) ∧ (∀ r, r < n → r ∈ l) ∧ (∀ j k, j < n → k < n → j ≠ k → lrow l j ≠ lrow l k) ∧ runs7 n s (-1) l (tmM n s x) := by
  obtain ⟨l, rfl, q1, q2, q3, q4⟩ := ent_is hx
  obtain ⟨U, hU⟩ := runs_all h2 h3 h4 q2 q3
  exact ⟨l, rfl, q1, q2, q3, q4, by rw [tm_is hU]; exact hU⟩
theorem timeS_ent {n : Nat} {s : Int} {x : List Int} (h1 : 1 ≤ n) (h2 : n ≤ 10) (h3 : 1 ≤ s) (h4 : s ≤ 5) (hx : x ∈ entM n) (w : World) (B b c : Nat) (hO : Out B w (.slice (some ⟨b, 0, none⟩) n c) x) :
    Calls Try.prog 30 #[.int .i64 (n : Nat), .int .i64 s, .slice (some ⟨b, 0, none⟩) n c] w fun e w' => e = .returned (.int .i64 (tmM n s x : Nat)) ∧ Below w.heap.size w w' := by
  obtain ⟨l, rfl, q1, q2, q3, -, hU⟩ := tm_ent h2 h3 h4 hx
  obtain ⟨p, c', e, -, -, hr, -⟩ := hO.rd
  simp only [Value.slice.injEq] at e
  obtain ⟨rfl, -, rfl⟩ := e
  have h := l7Time_any start7_ok n s (some ⟨b, 0, none⟩) c l _ w B w.heap.size hr h1 h2 h3 h4 q2 q1 hU
  rw [time_is h1 h3 q2 hU] at h
  exact h
theorem timeI_ent {n : Nat} {s : Int} {x : List Int} (h1 : 1 ≤ n) (h2 : n ≤ 10) (h3 : 1 ≤ s) (h4 : s ≤ 5) (hx : x ∈ entM n) (w : World) (lo hi : Nat) (p : Option Addr) (c : Nat) (hr : Ri lo hi w p x) :
    Calls Try.prog 33 #[.int .i64 s, .slice p n c] w fun e w' => e = .returned (.int .i64 (tmM n s x : Nat)) ∧ Below w.heap.size w w' := by
  obtain ⟨l, rfl, q1, q2, q3, q4, hU⟩ := tm_ent h2 h3 h4 hx
  exact boardTime_any s n p c l _ w lo hi hr h1 h2 h3 h4 q1 q2 q3 q4 hU
theorem tm_le {n : Nat} {s : Int} {x : List Int} (h2 : n ≤ 10) (h3 : 1 ≤ s) (h4 : s ≤ 5) (hx : x ∈ entM n) : tmM n s x ≤ 151 := by
  obtain ⟨l, rfl, q1, q2, q3, -, hU⟩ := tm_ent h2 h3 h4 hx
  exact hU.few
theorem ent_xlen {n : Nat} {x : List Int} (hx : x ∈ entM n) : x.length = n := by
  obtain ⟨l, rfl, q1, -⟩ := ent_is hx
  rw [ints_length, q1]

def few7 (n s : Int) : Bool := rows7 n s && decide (n ≤ 6)
theorem few_is {n s : Int} (h : few7 n s = true) : ∃ m : Nat, n = m ∧ 1 ≤ m ∧ m ≤ 6 ∧ 1 ≤ s ∧ s ≤ 5 := by
  unfold few7 rows7 at h
  rw [Bool.and_eq_true, Bool.and_eq_true, Bool.and_eq_true, decide_eq_true_eq, decide_eq_true_eq, decide_eq_true_eq] at h
  obtain ⟨m, rfl, h1, h2⟩ := rowsB_is h.1.1
  exact ⟨m, rfl, h1, by omega, h.1.2.1, h.1.2.2⟩
set_option maxRecDepth 4000 in
set_option maxHeartbeats 1000000 in
theorem l7Few_any (n s : Int) (w : World) :
    Calls Try.prog 28 #[.int .i64 n, .int .i64 s] w fun e w' => e = .returned (.bool (few7 n s)) ∧ w = w' := by
  have IN := l7Rows_any n s w
  unfold few7
  cases hg : rows7 n s with
  | false =>
    rw [hg] at IN
    replace IN := Lib.hid IN
    clear hg
    go_enter Try.func28, Try.ntmps28
    go_wp2_with fail
    refine IN.out.mono ?_
    rintro e w1 ⟨rfl, rfl⟩
    go_wp2_with fail
    go_ret
    exact ⟨rfl, rfl⟩
  | true =>
    rw [hg] at IN
    replace IN := Lib.hid IN
    rw [Bool.true_and]
    clear hg
    by_cases h6 : n ≤ 6
    · go_enter Try.func28, Try.ntmps28
      go_wp2_with fail
      refine IN.out.mono ?_
      rintro e w1 ⟨rfl, rfl⟩
      go_wp2_with fail
      go_ret
      exact ⟨ret_bool (by simp <;> omega), rfl⟩
    · go_enter Try.func28, Try.ntmps28
      go_wp2_with fail
      refine IN.out.mono ?_
      rintro e w1 ⟨rfl, rfl⟩
      go_wp2_with fail
      go_ret
      exact ⟨ret_bool (by simp <;> omega), rfl⟩

noncomputable def cntM (n : Nat) (s : Int) (xs : List (List Int)) : Nat := (xs.filter (fun x => decide ((tmM n s x : Int) = (n : Int) + s))).length
theorem cnt_snoc (n : Nat) (s : Int) (xs : List (List Int)) (x : List Int) : cntM n s (xs ++ [x]) = cntM n s xs + (if (tmM n s x : Int) = (n : Int) + s then 1 else 0) := by
  unfold cntM
  rw [List.filter_append, List.length_append]
  by_cases h : (tmM n s x : Int) = (n : Int) + s
  · simp [h]
  · simp [h]
theorem cnt_le (n : Nat) (s : Int) (xs : List (List Int)) : cntM n s xs ≤ xs.length := List.length_filter_le _ _
theorem take_snoc {α : Type} {l : List α} {i : Nat} {x : α} (hx : l[i]? = some x) : l.take (i + 1) = l.take i ++ [x] := by
  obtain ⟨hi, e⟩ := List.getElem?_eq_some_iff.1 hx
  rw [List.take_succ_eq_append_getElem hi, e]

set_option maxRecDepth 4000 in
set_option maxHeartbeats 1000000 in
theorem countS_bad (n s : Int) (w : World) (h : few7 n s = false) :
    Calls Try.prog 16 #[.int .i64 n, .int .i64 s] w fun e w' => e = .returned (.tuple #[.int .i64 0, .bool false]) ∧ Below w.heap.size w w' := by
  have F := l7Few_any n s w
  rw [h] at F
  replace F := Lib.hid F
  clear h
  go_enter Try.func16, Try.ntmps16
  go_wp2_with fail
  refine F.out.mono ?_
  rintro e w1 ⟨rfl, rfl⟩
  go_wp2_with fail
  go_ret2
  exact ⟨rfl, Below.refl _ _⟩

set_option maxRecDepth 4000 in
set_option maxHeartbeats 4000000 in
theorem countS_any (n : Nat) (s : Int) (w : World) (h1 : 1 ≤ n) (h6 : n ≤ 6) (h3 : 1 ≤ s) (h4 : s ≤ 5) (h : few7 n s = true) :
    Calls Try.prog 16 #[.int .i64 (n : Nat), .int .i64 s] w fun e w' => e = .returned (.tuple #[.int .i64 (cntM n s (entM n) : Nat), .bool true]) ∧ Below w.heap.size w w' := by
  have F := l7Few_any n s w
  rw [h] at F
  replace F := Lib.hid F
  have AL := Lib.hid (l7All_any n h1 (by omega) n [] (some ⟨w.heap.size, 0, none⟩) 0 w.heap.size (w.alloc (.cells #[] 3)) (by simp) (Out.nilLit w) (by simp))
  have hb0 : Below w.heap.size w (w.alloc (.cells #[] 3)) := (Below.refl _ _).alloc (Nat.le_refl _) _
  have TM := Lib.hid (fun x (hx : x ∈ entM n) (w' : World) (B b c : Nat) hO => timeS_ent (n := n) (s := s) h1 (by omega) h3 h4 hx w' B b c hO)
  have XL := Lib.hid (fun x (hx : x ∈ entM n) => ent_xlen hx)
  obtain ⟨-, -, hlen⟩ := ent_len n h6 h1
  have hEN : seatM n n n [] = entM n := rfl
  rw [hEN] at AL
  obtain ⟨EN, hE⟩ : ∃ EN, entM n = EN := ⟨_, rfl⟩
  rw [hE] at AL TM XL hlen ⊢
  have HB0 := Lib.hid hb0
  have hw : IntKind.i64.wrap ((n : Int) + s) = (n : Int) + s := IntWalk.i64_in _ (by omega)
  clear hb0 h hEN hE
  go_enter Try.func16, Try.ntmps16
  go_wp2_with fail
  refine F.out.mono ?_
  rintro e w1 ⟨rfl, rfl⟩
  go_wp2_with fail
  refine AL.out.mono ?_
  rintro e w2 ⟨v, rfl, hLL, hb⟩
  obtain ⟨g, c, vs, rfl, -, -, -, -, hg⟩ := hLL.parts
  obtain ⟨m, hm⟩ : ∃ m, EN.length = m := ⟨_, rfl⟩
  have HLL := Lib.hid hLL
  rw [hm] at hlen ⊢
  have HM := Lib.hid hm
  have HB := Lib.hid (HB0.out.trans (hb.mono (by simp)))
  clear hLL hm hb HB0 F AL
  go_wp2_with fail
  go_loopw [6, 8] (fun cv iv wr => ∃ (i : Nat), i ≤ m ∧ iv = .int .i64 (i : Int) ∧ cv = .int .i64 ((cntM n s (EN.take i) : Nat) : Int) ∧ Hid (Below w2.heap.size w2 wr)) (fun _ iv _ => m - (intOf iv).toNat)
  case atStart => exact ⟨0, Nat.zero_le _, rfl, by simp [cntM], Lib.hid (Below.refl _ _)⟩
  case round =>
    obtain ⟨i, hi, rfl, rfl, HBr⟩ := hrel
    by_cases hlt : i < m
    · have hi1 : (i : Int) < (m : Int) := by omega
      have hi0 : (0 : Int) ≤ (i : Int) := by omega
      have hil : i < EN.length := by have := HM.out; omega
      obtain ⟨x, hx⟩ : ∃ x, EN[i]? = some x := ⟨_, List.getElem?_eq_getElem hil⟩
      have hmem : x ∈ EN := List.mem_of_getElem? hx
      obtain ⟨g', c', u, e', hcell, ⟨b, cu, rfl, -⟩, hO⟩ := (HLL.out.below HBr.out).cell hx
      simp only [Value.slice.injEq, Option.some.injEq, Addr.mk.injEq, and_true] at e'
      obtain ⟨rfl, -⟩ := e'
      rw [XL.out x hmem] at hcell hO
      have T := Lib.hid (TM.out x hmem wr _ b cu hO)
      have hsn := cnt_snoc n s (EN.take i) x
      rw [← take_snoc hx] at hsn
      have hle := cnt_le n s (EN.take i)
      rw [List.length_take] at hle
      obtain ⟨cc, hcc⟩ : ∃ cc, cntM n s (EN.take i) = cc := ⟨_, rfl⟩
      rw [hcc] at hsn hle ⊢
      obtain ⟨t, ht⟩ : ∃ t, tmM n s x = t := ⟨_, rfl⟩
      rw [ht] at T hsn
      clear hO hx hmem hcc ht
      by_cases hts : (t : Int) = (n : Int) + s
      · rw [if_pos hts] at hsn
        have HSN := Lib.hid hsn
        clear hsn
        go_wp2_with fail
        refine T.out.mono ?_
        rintro e w3 ⟨rfl, hb3⟩
        have HB3 := Lib.hid (HBr.out.trans (hb3.mono HBr.out.size))
        clear hb3 T hcell
        go_wp2_with fail
        go_roundw
        case rel => exact ⟨i + 1, by omega, by go_num, by rw [HSN.out]; go_num, HB3⟩
        case measure => simp [intOf]; omega
      · rw [if_neg hts, Nat.add_zero] at hsn
        have HSN := Lib.hid hsn
        clear hsn
        go_wp2_with fail
        refine T.out.mono ?_
        rintro e w3 ⟨rfl, hb3⟩
        have HB3 := Lib.hid (HBr.out.trans (hb3.mono HBr.out.size))
        clear hb3 T hcell
        go_wp2_with fail
        go_roundw
        case rel => exact ⟨i + 1, by omega, by go_num, by rw [HSN.out]; rfl, HB3⟩
        case measure => simp [intOf]; omega
    · have him : i = m := by omega
      subst him
      have hi1 : ¬ (i : Int) < (i : Int) := by omega
      have hall : EN.take i = EN := List.take_of_length_le (by rw [HM.out]; exact Nat.le_refl _)
      rw [hall]
      clear hall
      go_wp2_with fail
      go_ret2
      exact ⟨rfl, HB.out.trans (HBr.out.mono HB.out.size)⟩
end Go.Proofs.Ytlhnejjciondeaa
