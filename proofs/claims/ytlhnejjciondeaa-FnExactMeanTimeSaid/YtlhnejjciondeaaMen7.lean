/- Chapter 7, spec side: spec.MeanTime. -/
import Derived.Test.YtlhnejjciondeaaCnt7
import Derived.Test.YtlhnejjciondeaaOwnP
namespace Go.Proofs.Ytlhnejjciondeaa
open Go.RowKit

/-- the units that all these enterings take together -/
noncomputable def totM (n : Nat) (s : Int) (xs : List (List Int)) : Nat := (xs.map (tmM n s)).sum
theorem tot_snoc (n : Nat) (s : Int) (xs : List (List Int)) (x : List Int) : totM n s (xs ++ [x]) = totM n s xs + tmM n s x := by
  unfold totM
  rw [List.map_append, List.sum_append]
  simp
theorem tot_le (n : Nat) (s : Int) : ∀ (xs : List (List Int)), (∀ x ∈ xs, tmM n s x ≤ 151) → totM n s xs ≤ xs.length * 151
  | [], _ => by simp [totM]
  | x :: xs, h => by
    have h1 := tot_le n s xs (fun y hy => h y (List.mem_cons_of_mem _ hy))
    have h2 := h x (List.mem_cons_self ..)
    unfold totM at *
    rw [List.map_cons, List.sum_cons, List.length_cons]
    omega
/-- the mean of the units -/
noncomputable def meanR (n : Nat) (s : Int) : Rat := mkRat ((totM n s (entM n) : Nat) : Int) (entM n).length

set_option maxRecDepth 4000 in
set_option maxHeartbeats 1000000 in
theorem meanS_bad (n s : Int) (w : World) (h : few7 n s = false) :
    Calls Try.prog 13 #[.int .i64 n, .int .i64 s] w (MadeFr w 0 0 false) := by
  have F := fun w' => l7Few_any n s w'
  rw [h] at F
  replace F := Lib.hid F
  have HZ1 : Hid (OwnArr (w.alloc (.cells #[.int .i64 0, .int .i64 0] 28)) w.heap.size 28 [.int .i64 0, .int .i64 0]) := OwnArr.made w _ [_, _]
  have HB1 : Hid (Below w.heap.size w (w.alloc (.cells #[.int .i64 0, .int .i64 0] 28))) := (Below.refl _ _).alloc (Nat.le_refl _) _
  unfold MadeFr
  clear h
  obtain ⟨z0, z1, y0, y1⟩ := boxed_fr HZ1.out
  go_enter Try.func13, Try.ntmps13
  go_wp2_with fail
  refine (F.out _).mono ?_
  rintro e w1 ⟨rfl, rfl⟩
  go_wp2_with fail
  exact ret_fr2 Try.results13 rfl rfl HZ1.out rfl ⟨rfl, HB1.out⟩

set_option maxRecDepth 4000 in
set_option maxHeartbeats 4000000 in
theorem meanS_any (n : Nat) (s : Int) (w : World) (h1 : 1 ≤ n) (h6 : n ≤ 6) (h3 : 1 ≤ s) (h4 : s ≤ 5) (h : few7 n s = true) :
    Calls Try.prog 13 #[.int .i64 (n : Nat), .int .i64 s] w (MadeFr w (meanR n s).num (((meanR n s).den : Nat) : Int) true) := by
  have F := fun w' => l7Few_any n s w'
  rw [h] at F
  replace F := Lib.hid F
  obtain ⟨w0, hw0⟩ : ∃ w0, w.alloc (.cells #[.int .i64 0, .int .i64 0] 28) = w0 := ⟨_, rfl⟩
  have hZ0 : OwnArr w0 w.heap.size 28 [.int .i64 0, .int .i64 0] := by rw [← hw0]; exact OwnArr.made w _ [_, _]
  have hB0 : Below w.heap.size w w0 := by rw [← hw0]; exact (Below.refl _ _).alloc (Nat.le_refl _) _
  have AL := Lib.hid (l7All_any n h1 (by omega) n [] (some ⟨w0.heap.size, 0, none⟩) 0 w0.heap.size (w0.alloc (.cells #[] 3)) (by simp) (Out.nilLit w0) (by simp))
  have hb1 : Below w0.heap.size w0 (w0.alloc (.cells #[] 3)) := (Below.refl _ _).alloc (Nat.le_refl _) _
  have HB1 := Lib.hid (hB0.trans (hb1.mono hB0.size))
  have HZ1 := Lib.hid (hZ0.below hb1 hZ0.lt)
  have TM := Lib.hid (fun x (hx : x ∈ entM n) (w' : World) (B b c : Nat) hO => timeS_ent (n := n) (s := s) h1 (by omega) h3 h4 hx w' B b c hO)
  have XL := Lib.hid (fun x (hx : x ∈ entM n) => ent_xlen hx)
  have TL := Lib.hid (fun x (hx : x ∈ entM n) => tm_le (s := s) (n := n) (by omega) h3 h4 hx)
  obtain ⟨-, hpos, hlen⟩ := ent_len n h6 h1
  have hEN : seatM n n n [] = entM n := rfl
  rw [hEN] at AL
  unfold MadeFr meanR
  obtain ⟨EN, hE⟩ : ∃ EN, entM n = EN := ⟨_, rfl⟩
  rw [hE] at AL TM XL TL hlen hpos ⊢
  have HW := Lib.hid hw0
  obtain ⟨m, hm⟩ : ∃ m, EN.length = m := ⟨_, rfl⟩
  have hml : EN.length ≤ 720 := hlen
  have htl := tot_le n s EN (fun x hx => TL.out x hx)
  have C := fun w' => l2Cut_any ((totM n s EN : Nat) : Int) EN.length (by omega) hpos (by omega) w'
  unfold ratV at C
  obtain ⟨Q, hQ⟩ : ∃ Q, mkRat ((totM n s EN : Nat) : Int) EN.length = Q := ⟨_, rfl⟩
  rw [hQ] at C ⊢
  rw [hm] at C
  replace C := Lib.hid C
  clear hb1 h hEN hE hB0 hZ0 hw0 hQ hml htl hpos
  go_enter Try.func13, Try.ntmps13
  go_upto_region 1 with fail
  rw [HW.out]
  go_wp2_with fail
  refine (F.out _).mono ?_
  rintro e w1 ⟨rfl, rfl⟩
  go_wp2_with fail
  refine AL.out.mono ?_
  rintro e w2 ⟨v, rfl, hLL, hb⟩
  obtain ⟨g, c, vs, rfl, -, -, -, -, hg⟩ := hLL.parts
  have HLL := Lib.hid hLL
  rw [hm] at hlen ⊢
  have HM := Lib.hid hm
  have HB := Lib.hid (HB1.out.trans (hb.mono (by have := HB1.out.size; simp at this ⊢; omega)))
  have HZ := Lib.hid (HZ1.out.below hb HZ1.out.lt)
  clear hLL hm hb HB1 HZ1 F AL
  go_wp2_with fail
  go_loopw [6, 8] (fun cv iv wr => ∃ (i : Nat), i ≤ m ∧ iv = .int .i64 (i : Int) ∧ cv = .int .i64 ((totM n s (EN.take i) : Nat) : Int) ∧ Hid (Below w2.heap.size w2 wr)) (fun _ iv _ => m - (intOf iv).toNat)
  case atStart => exact ⟨0, Nat.zero_le _, rfl, by simp [totM], Lib.hid (Below.refl _ _)⟩
  case round =>
    obtain ⟨i, hi, rfl, rfl, HBr⟩ := hrel
    by_cases hlt : i < m
    · have hi1 : (i : Int) < (m : Int) := by omega
      have hi0 : (0 : Int) ≤ (i : Int) := by omega
      have hil : i < EN.length := by have := HM.out; omega
      obtain ⟨x, hx⟩ : ∃ x, EN[i]? = some x := ⟨_, List.getElem?_eq_getElem hil⟩
      have hmem : x ∈ EN := List.mem_of_getElem? hx
      obtain ⟨g', c', u, e', hcell, ⟨b, cu, rfl, -⟩, hO⟩ := (HLL.out.below HBr.out).cell hx
      simp only [Value.slice.injEq, Option.some.injEq, Addr.mk.injEq, and_true] at e'
      obtain ⟨rfl, -⟩ := e'
      rw [XL.out x hmem] at hcell hO
      have T := Lib.hid (TM.out x hmem wr _ b cu hO)
      have hsn := tot_snoc n s (EN.take i) x
      rw [← take_snoc hx] at hsn
      have hle := tot_le n s (EN.take i) (fun y hy => TL.out y (List.mem_of_mem_take hy))
      rw [List.length_take] at hle
      have hx151 := TL.out x hmem
      obtain ⟨cc, hcc⟩ : ∃ cc, totM n s (EN.take i) = cc := ⟨_, rfl⟩
      rw [hcc] at hsn hle ⊢
      obtain ⟨t, ht⟩ : ∃ t, tmM n s x = t := ⟨_, rfl⟩
      rw [ht] at T hsn hx151
      have hcb : cc ≤ 720 * 151 := by omega
      have hw31 : IntKind.i64.wrap ((cc : Int) + (t : Int)) = (cc : Int) + (t : Int) := IntWalk.i64_in _ (by omega)
      have HSN := Lib.hid hsn
      clear hO hx hmem hcc ht hsn hle
      go_wp2_with fail
      refine T.out.mono ?_
      rintro e w3 ⟨rfl, hb3⟩
      have HB3 := Lib.hid (HBr.out.trans (hb3.mono HBr.out.size))
      clear hb3 T hcell
      go_wp2_with fail
      go_roundw
      case rel => exact ⟨i + 1, by omega, by go_num, by rw [HSN.out]; go_num, HB3⟩
      case measure => simp [intOf]; omega
    · have him : i = m := by omega
      subst him
      have hi1 : ¬ (i : Int) < (i : Int) := by omega
      have hall : EN.take i = EN := List.take_of_length_le (by rw [HM.out]; exact Nat.le_refl _)
      rw [hall]
      obtain ⟨tt, htt⟩ : ∃ tt, totM n s EN = tt := ⟨_, rfl⟩
      rw [htt] at C ⊢
      clear hall htt
      go_wp2_with fail
      refine (C.out _).mono ?_
      rintro e w3 ⟨rfl, hb3⟩
      have HZ3 := Lib.hid ((HZ.out.below HBr.out HZ.out.lt).below hb3 (by have := HZ.out.lt; have := HBr.out.size; omega))
      have HB3 := Lib.hid ((HB.out.trans (HBr.out.mono HB.out.size)).trans (hb3.mono (by have := HB.out.size; have := HBr.out.size; omega)))
      clear hb3 C
      obtain ⟨z0, z1, y0, y1⟩ := boxed_fr HZ3.out
      go_wp2_with fail
      exact ret_fr2 Try.results13 rfl rfl ((HZ3.out.set 0 _).set 1 _) rfl ⟨rfl, (HB3.out.setCell (p := ⟨w.heap.size, 0, none⟩) (Nat.le_refl _) _).setCell (p := ⟨w.heap.size, 1, none⟩) (Nat.le_refl _) _⟩
end Go.Proofs.Ytlhnejjciondeaa
