/- Chapter 7, spec side: spec.WorstTime. -/
import Derived.Test.YtlhnejjciondeaaCnt7
namespace Go.Proofs.Ytlhnejjciondeaa
open Go.RowKit

/-- the longest time so far, and the first entering that takes it -/
noncomputable def wstStep (n : Nat) (s : Int) (p : Nat × List Int) (x : List Int) : Nat × List Int := if p.1 < tmM n s x then (tmM n s x, x) else p
noncomputable def wstM (n : Nat) (s : Int) (xs : List (List Int)) : Nat × List Int := xs.foldl (wstStep n s) (0, [])
theorem wst_snoc (n : Nat) (s : Int) (xs : List (List Int)) (x : List Int) : wstM n s (xs ++ [x]) = wstStep n s (wstM n s xs) x := by
  unfold wstM
  rw [List.foldl_append]
  rfl
theorem wst_one {n : Nat} {s : Int} : ∀ (xs : List (List Int)) (p : Nat × List Int), (xs.foldl (wstStep n s) p).2 = p.2 ∨ (xs.foldl (wstStep n s) p).2 ∈ xs
  | [], _ => .inl rfl
  | x :: xs, p => by
    rw [List.foldl_cons]
    rcases wst_one xs (wstStep n s p x) with h | h
    · by_cases h2 : p.1 < tmM n s x
      · right
        rw [h]
        unfold wstStep
        rw [if_pos h2]
        exact List.mem_cons_self ..
      · left
        rw [h]
        unfold wstStep
        rw [if_neg h2]
    · exact .inr (List.mem_cons_of_mem _ h)
theorem wst_len {n : Nat} {s : Int} : (wstM n s (entM n)).2.length ≤ n := by
  rcases wst_one (n := n) (s := s) (entM n) (0, []) with h | h
  · have h' : (wstM n s (entM n)).2 = [] := h
    rw [h']; simp
  · have h' : (wstM n s (entM n)).2 ∈ entM n := h
    exact Nat.le_of_eq (ent_xlen h')

set_option maxRecDepth 4000 in
set_option maxHeartbeats 1000000 in
theorem worstS_bad (n s : Int) (w : World) (h : few7 n s = false) :
    Calls Try.prog 8 #[.int .i64 n, .int .i64 s] w fun e w' => ∃ v, e = .returned (.tuple #[.int .i64 0, v, .bool false]) ∧ Out w.heap.size w' v [] ∧ Below w.heap.size w w' := by
  have F := l7Few_any n s w
  rw [h] at F
  replace F := Lib.hid F
  have HO := Lib.hid (Out.nilLit w)
  have HB : Hid (Below w.heap.size w (w.alloc (.cells #[] 3))) := (Below.refl _ _).alloc (Nat.le_refl _) _
  clear h
  go_enter Try.func8, Try.ntmps8
  go_wp2_with fail
  refine F.out.mono ?_
  rintro e w1 ⟨rfl, rfl⟩
  go_wp2_with fail
  go_ret3
  exact ⟨_, rfl, HO.out, HB.out⟩

set_option maxRecDepth 4000 in
set_option maxHeartbeats 4000000 in
theorem worstS_any (n : Nat) (s : Int) (w : World) (h1 : 1 ≤ n) (h6 : n ≤ 6) (h3 : 1 ≤ s) (h4 : s ≤ 5) (h : few7 n s = true) :
    Calls Try.prog 8 #[.int .i64 (n : Nat), .int .i64 s] w fun e w' => ∃ v, e = .returned (.tuple #[.int .i64 ((wstM n s (entM n)).1 : Nat), v, .bool true]) ∧ Out w.heap.size w' v (wstM n s (entM n)).2 ∧ Below w.heap.size w w' := by
  have F := l7Few_any n s w
  rw [h] at F
  replace F := Lib.hid F
  obtain ⟨w0, hw0⟩ : ∃ w0, w.alloc (.cells #[] 3) = w0 := ⟨_, rfl⟩
  have hO0 : Out w.heap.size w0 (.slice (some ⟨w.heap.size, 0, none⟩) 0 0) [] := by rw [← hw0]; exact Out.nilLit w
  have hB0 : Below w.heap.size w w0 := by rw [← hw0]; exact (Below.refl _ _).alloc (Nat.le_refl _) _
  have AL := Lib.hid (l7All_any n h1 (by omega) n [] (some ⟨w0.heap.size, 0, none⟩) 0 w0.heap.size (w0.alloc (.cells #[] 3)) (by simp) (Out.nilLit w0) (by simp))
  have hb1 : Below w0.heap.size w0 (w0.alloc (.cells #[] 3)) := (Below.refl _ _).alloc (Nat.le_refl _) _
  have HB1 := Lib.hid (hB0.trans (hb1.mono hB0.size))
  have HO1 := Lib.hid (hO0.below hb1)
  have HZ := Lib.hid hB0.size
  have TM := Lib.hid (fun x (hx : x ∈ entM n) (w' : World) (B b c : Nat) hO => timeS_ent (n := n) (s := s) h1 (by omega) h3 h4 hx w' B b c hO)
  have XL := Lib.hid (fun x (hx : x ∈ entM n) => ent_xlen hx)
  obtain ⟨-, -, hlen⟩ := ent_len n h6 h1
  have hEN : seatM n n n [] = entM n := rfl
  rw [hEN] at AL
  obtain ⟨EN, hE⟩ : ∃ EN, entM n = EN := ⟨_, rfl⟩
  rw [hE] at AL TM XL hlen ⊢
  have HW := Lib.hid hw0
  clear hb1 h hEN hE hB0 hO0 hw0
  go_enter Try.func8, Try.ntmps8
  go_wp2_with fail
  refine F.out.mono ?_
  rintro e w1 ⟨rfl, rfl⟩
  go_upto_region 4 with fail
  rw [HW.out]
  go_wp2_with fail
  refine AL.out.mono ?_
  rintro e w2 ⟨v, rfl, hLL, hb⟩
  obtain ⟨g, c, vs, rfl, -, -, -, -, hg⟩ := hLL.parts
  obtain ⟨m, hm⟩ : ∃ m, EN.length = m := ⟨_, rfl⟩
  have HLL := Lib.hid hLL
  rw [hm] at hlen ⊢
  have HM := Lib.hid hm
  have HB := Lib.hid (HB1.out.trans (hb.mono (by have := HB1.out.size; have := HZ.out; simp at *; omega)))
  have HO2 := Lib.hid (HO1.out.below hb)
  clear hLL hm hb HB1 HO1 F AL
  go_wp2_with fail
  go_loopw [7, 8, 10] (fun cv bv iv wr => ∃ (i : Nat), i ≤ m ∧ iv = .int .i64 (i : Int) ∧ cv = .int .i64 (((wstM n s (EN.take i)).1 : Nat) : Int) ∧ Hid (Out w.heap.size wr bv (wstM n s (EN.take i)).2) ∧ Hid (Below w2.heap.size w2 wr)) (fun _ _ iv _ => m - (intOf iv).toNat)
  case atStart => exact ⟨0, Nat.zero_le _, rfl, by simp [wstM], HO2, Lib.hid (Below.refl _ _)⟩
  case round =>
    obtain ⟨i, hi, rfl, rfl, HOr, HBr⟩ := hrel
    by_cases hlt : i < m
    · have hi1 : (i : Int) < (m : Int) := by omega
      have hi0 : (0 : Int) ≤ (i : Int) := by omega
      have hil : i < EN.length := by have := HM.out; omega
      obtain ⟨x, hx⟩ : ∃ x, EN[i]? = some x := ⟨_, List.getElem?_eq_getElem hil⟩
      have hmem : x ∈ EN := List.mem_of_getElem? hx
      obtain ⟨g', c', u, e', hcell, ⟨b, cu, rfl, -⟩, hO⟩ := (HLL.out.below HBr.out).cell hx
      simp only [Value.slice.injEq, Option.some.injEq, Addr.mk.injEq, and_true] at e'
      obtain ⟨rfl, -⟩ := e'
      rw [XL.out x hmem] at hcell hO
      have T := Lib.hid (TM.out x hmem wr _ b cu hO)
      have hsn := wst_snoc n s (EN.take i) x
      rw [← take_snoc hx] at hsn
      unfold wstStep at hsn
      obtain ⟨cc, hcc⟩ : ∃ cc, (wstM n s (EN.take i)).1 = cc := ⟨_, rfl⟩
      rw [hcc] at hsn ⊢
      obtain ⟨t, ht⟩ : ∃ t, tmM n s x = t := ⟨_, rfl⟩
      rw [ht] at T hsn
      have HX := Lib.hid hx
      have HCC := Lib.hid hcc
      clear hO hx hmem hcc ht
      by_cases hts : cc < t
      · rw [if_pos hts] at hsn
        have HSN := Lib.hid hsn
        have hts1 : (cc : Int) < (t : Int) := by omega
        clear hsn
        go_wp2_with fail
        refine T.out.mono ?_
        rintro e w3 ⟨rfl, hb3⟩
        have HB3 := Lib.hid (HBr.out.trans (hb3.mono HBr.out.size))
        obtain ⟨g3, c3, u3, e3, hcell3, ⟨b3, cu3, rfl, -⟩, hO3⟩ := (HLL.out.below HB3.out).cell HX.out
        simp only [Value.slice.injEq, Option.some.injEq, Addr.mk.injEq, and_true] at e3
        obtain ⟨rfl, -⟩ := e3
        have HO3 := Lib.hid hO3
        clear hb3 T hcell hO3 HOr
        go_wp2_with fail
        go_roundw
        case rel => exact ⟨i + 1, by omega, by go_num, by rw [HSN.out], by rw [HSN.out]; exact Lib.hid (HO3.out.mono (by have := HZ.out; omega)), HB3⟩
        case measure => simp [intOf]; omega
      · rw [if_neg hts] at hsn
        have HSN := Lib.hid hsn
        have hts1 : ¬ (cc : Int) < (t : Int) := by omega
        clear hsn
        go_wp2_with fail
        refine T.out.mono ?_
        rintro e w3 ⟨rfl, hb3⟩
        have HB3 := Lib.hid (HBr.out.trans (hb3.mono HBr.out.size))
        have HO3 := Lib.hid (HOr.out.below hb3)
        clear hb3 T hcell HOr
        go_wp2_with fail
        go_roundw
        case rel => exact ⟨i + 1, by omega, by go_num, by rw [HSN.out, HCC.out], by rw [HSN.out]; exact HO3, HB3⟩
        case measure => simp [intOf]; omega
    · have him : i = m := by omega
      subst him
      have hi1 : ¬ (i : Int) < (i : Int) := by omega
      have hall : EN.take i = EN := List.take_of_length_le (by rw [HM.out]; exact Nat.le_refl _)
      rw [hall] at HOr ⊢
      clear hall
      go_wp2_with fail
      go_ret3
      exact ⟨_, rfl, HOr.out, HB.out.trans (HBr.out.mono HB.out.size)⟩
end Go.Proofs.Ytlhnejjciondeaa
