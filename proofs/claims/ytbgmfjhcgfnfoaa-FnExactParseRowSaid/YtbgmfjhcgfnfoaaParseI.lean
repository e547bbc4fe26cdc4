/- impl.ParseRow, for every text of at most 1048576 bytes. -/
import Derived.Test.YtbgmfjhcgfnfoaaParseM
import Derived.Test.YtbgmfjhcgfnfoaaTextI0
import Derived.Test.YtbgmfjhcgfnfoaaRowOf
import Derived.Test.YtbgmfjhcgfnfoaaMade0
namespace Go.Proofs.Ytbgmfjhcgfnfoaa
open Go.RowKit

theorem rowB_lim {n : Nat} {ring : Bool} {xs : List Int} (h : rowB n ring xs = true) : 2 ≤ n ∧ n ≤ 24 ∧ (ring = true → 3 ≤ n) := by
  obtain ⟨k, S, e, -, h1, h2, h3⟩ := rowB_is h
  have : n = k := by omega
  subst this
  exact ⟨h1, h2, h3⟩
theorem Out.ri2 {B : Nat} {w : World} {q : Option Addr} {m c : Nat} {xs : List Int} (h : Out B w (.slice q m c) xs) : Ri B w.heap.size w q xs := by
  obtain ⟨q', c', e, -, -, hR, -⟩ := h.rd
  simp only [Value.slice.injEq] at e
  obtain ⟨rfl, rfl, rfl⟩ := e
  exact hR
theorem filled_bl (n : Nat) (T : Nat → Bool) : filled (fun i => .bool (T i)) (.bool false) n n = bv (bl n T) := by
  apply List.ext_getElem?
  intro i
  rcases Nat.lt_or_ge i n with h | h
  · rw [filled_get _ _ _ _ _ h, if_pos h, bv_get (by rw [bl_length]; exact h), bl_getD h]
  · rw [List.getElem?_eq_none (by rw [filled_len]; exact h), List.getElem?_eq_none (by rw [bv_length, bl_length]; exact h)]

set_option maxRecDepth 4000 in
set_option maxHeartbeats 2000000 in
theorem parseI_ring (s t : ByteArray) (T : Nat → Bool) (w : World) (N : Nat) (hs : s.size ≤ 1048576) (hN20 : N ≤ 1048576) (hN : Hid (t.size = N)) (B : Bool) (hB : Hid (rowB N true (ints (tk N T)) = B)) (s' : Int) (ring' : Bool) (L : List Int) (R : Bool)
    (HT : Hid (∀ (p : Nat) (h : p < t.size), ((t[p].toNat : Int) == 120) = T p))
    (hyes : Hid (B = true → ((textT true T N).toList == s.toList) = true → s' = N ∧ ring' = true ∧ L = ints (tk N T) ∧ R = true))
    (hno : Hid (B = false ∨ ((textT true T N).toList == s.toList) = false → s' = 0 ∧ ring' = false ∧ L = [] ∧ R = false)) (hp : pre5 s (preT true) = true) (ht : cutT s (preT true) = t) :
    Calls Try.prog 31 #[.string s] w (MadeRow w s' ring' L R) := by
  have hmk0 := @run_make_row' Try.prog 57 4 (.bool false) 1 Try.underlying57 infoBool rfl .i64 .i64 N (by omega) (by omega)
  rw [madeCells_one, ← filled_zero (fun i => .bool (T i)) (.bool false) N] at hmk0
  have HF := Lib.hid (filled_bl N T)
  have CR : Hid (∀ w', Calls Try.prog 52 #[.string s, .string ⟨#[114, 105, 110, 103, 32]⟩] w' fun e w'' => e = .returned (.tuple #[.string (cutT s (preT true)), .bool (pre5 s (preT true))]) ∧ w' = w'') := Lib.hid (fun w' => cutPrefix_any s (preT true) w' rfl (by omega))
  have CL : Hid (∀ w', Calls Try.prog 52 #[.string s, .string ⟨#[108, 105, 110, 101, 32]⟩] w' fun e w'' => e = .returned (.tuple #[.string (cutT s (preT false)), .bool (pre5 s (preT false))]) ∧ w' = w'') := Lib.hid (fun w' => cutPrefix_any s (preT false) w' rfl (by omega))
  have hNt := hN.out
  unfold MadeRow
  obtain ⟨w1, hw1⟩ : ∃ w1, w1 = (w.alloc (.cells #[.int .i64 0, .bool false, .slice none 0 0] 28)).alloc (.cells (filled (fun i => .bool (T i)) (.bool false) N 0).toArray 4) := ⟨_, rfl⟩
  have hmk := hmk0 (w.alloc (.cells #[.int .i64 0, .bool false, .slice none 0 0] 28))
  rw [← hw1] at hmk
  have HO1 : Hid (OwnArr w1 (w.heap.size + 1) 4 (filled (fun i => .bool (T i)) (.bool false) N 0)) := by show OwnArr _ _ _ _; rw [hw1]; exact OwnArr.mk' rfl (by simp)
  have HZ1 : Hid (OwnArr w1 w.heap.size 28 [.int .i64 0, .bool false, .slice none 0 0]) := by show OwnArr _ _ _ _; rw [hw1]; exact (OwnArr.made w 28 [.int .i64 0, .bool false, .slice none 0 0]).alloc _
  have HB1 : Hid (Below w.heap.size w w1) := by show Below _ _ _; rw [hw1]; exact ((Below.refl _ _).alloc (Nat.le_refl _) _).alloc (by simp) _
  have hsz : (w.alloc (.cells #[.int .i64 0, .bool false, .slice none 0 0] 28)).heap.size = w.heap.size + 1 := by simp
  rw [hsz] at hmk
  clear hw1 hmk0 hsz
  rw [hp, ht] at CR
  clear CL
  go_enter Try.func31, Try.ntmps31
  go_wp2_with fail
  refine (CR.out _).mono ?_
  rintro e w' ⟨rfl, rfl⟩
  go_wp2_with fail
  clear hmk
  go_loopw [7, 29] (fun _ i wr => ∃ (k : Nat), k ≤ N ∧ i = .int .i64 k ∧ Hid (OwnArr wr (w.heap.size + 1) 4 (filled (fun i => .bool (T i)) (.bool false) N k)) ∧ Hid (OwnArr wr w.heap.size 28 [.int .i64 0, .bool false, .slice none 0 0]) ∧ Hid (Below w.heap.size w wr)) (fun _ i _ => N - (intOf i).toNat)
  case atStart => exact ⟨0, Nat.zero_le _, rfl, HO1, HZ1, HB1⟩
  case round =>
    obtain ⟨k, hk, rfl, HO, HZ, HB⟩ := hrel
    clear HO1 HZ1 HB1
    by_cases hlt : k < N
    · have hk1 : (k : Int) < (N : Int) := by omega
      have hk0 : (0 : Int) ≤ (k : Int) := by omega
      have hkt : k < t.size := by rw [hN.out]; exact hlt
      have hb := HT.out k hkt
      have HST := Lib.hid (filled_set (fun i => .bool (T i)) (.bool false) N k)
      have hold := HO.out.cell k
      rw [filled_get _ _ _ _ _ hlt] at hold
      have hfree := HO.out.free k
      have hset := HO.out.set k (.bool (T k))
      rw [HST.out] at hset
      have HO4 := Lib.hid hset
      have HZ4 := Lib.hid (HZ.out.other (a := ⟨w.heap.size + 1, k, none⟩) (by show w.heap.size ≠ w.heap.size + 1; omega) (.bool (T k)))
      have HB4 := Lib.hid (HB.out.setCell (p := ⟨w.heap.size + 1, k, none⟩) (by show w.heap.size ≤ w.heap.size + 1; omega) (.bool (T k)))
      clear HO HZ HB hset HST
      go_wp2_with fail
      go_roundw
      case rel => exact ⟨k + 1, by omega, by go_num, HO4, HZ4, HB4⟩
      case measure => simp [intOf]; omega
    · have hkn : k = N := by omega
      subst hkn
      have hO := HO.out
      rw [HF.out] at hO
      have hR := Rd.of_own hO (Nat.zero_le _) (Nat.lt_succ_self _) hO.lt k
      rw [List.take_of_length_le (by rw [bv_length, bl_length]; exact Nat.le_refl _)] at hR
      have RO := Lib.hid (rowOf_any k true (some ⟨w.heap.size + 1, 0, none⟩) k T wr _ _ hR hN20 B hB.out)
      clear hO hR HO
      cases B with
      | false =>
        obtain ⟨rfl, rfl, rfl, rfl⟩ := hno.out (.inl (by first | trivial | rfl))
        go_wp2_with fail
        refine RO.out.mono ?_
        rintro e w2 ⟨v, rfl, -, hb2⟩
        have HZ2 := Lib.hid ((HZ.out.below hb2 HZ.out.lt).alloc (.cells #[.int .i64 0, .bool false, .slice none 0 0] 28))
        have hB2 := HB.out.trans (hb2.mono HB.out.size)
        have HB2 := Lib.hid (hB2.alloc hB2.size (.cells #[.int .i64 0, .bool false, .slice none 0 0] 28))
        have HX2 := Lib.hid (OwnArr.made w2 28 [.int .i64 0, .bool false, .slice none 0 0])
        have RT := Lib.hid (rowTextI_bad 0 false none 0 [] (w2.alloc (.cells #[.int .i64 0, .bool false, .slice none 0 0] 28)) 0 0 (Rd.nil 0 0 _ _ (Nat.zero_le _)) (by simp) rfl)
        clear hb2 hB2 HZ HB RO
        simp only [Bool.false_eq_true, if_false]
        go_wp2_with fail
        refine RT.out.mono ?_
        rintro e w3 ⟨rfl, hb3⟩
        have HZ3 := Lib.hid (HZ2.out.below hb3 HZ2.out.lt)
        have HB3 := Lib.hid (HB2.out.trans (hb3.mono HB2.out.size))
        clear hb3 HZ2 HB2 RT HX2
        obtain ⟨z0, z1, z2, y0, y1, y2⟩ := HZ3.out.three
        go_wp2_with fail
        exact ret_row2 Try.results31 rfl rfl (((HZ3.out.set 0 _).set 1 _).set 2 _) rfl ⟨_, rfl, Out.none _ _, ((HB3.out.setCell (Nat.le_refl _) _).setCell (Nat.le_refl _) _).setCell (Nat.le_refl _) _⟩
      | true =>
        obtain ⟨h2, h24, h3⟩ := rowB_lim hB.out
        go_wp2_with fail
        refine RO.out.mono ?_
        rintro e w2 ⟨v, rfl, hO2, hb2⟩
        obtain ⟨q, c, rfl, -⟩ := (hO2 trivial).rd
        have hOut := hO2 trivial
        have hB2 := HB.out.trans (hb2.mono HB.out.size)
        obtain ⟨m, hm⟩ : ∃ m, (ints (tk k T)).length = m := ⟨_, rfl⟩
        have hri := Out.ri2 hOut
        have hbx := (Below.refl w2.heap.size w2).alloc (Nat.le_refl _) (.cells #[.int .i64 k, .bool true, .slice q m c] 28)
        have RT := rowTextI_any k true q c T (w2.alloc (.cells #[.int .i64 k, .bool true, .slice q m c] 28)) _ _ (hri.bel hbx) h2 h24 (by intro h; first | exact h3 trivial | cases h)
        rw [hm] at hOut RT ⊢
        replace RT := Lib.hid RT
        have HZ2 := Lib.hid ((HZ.out.below hb2 HZ.out.lt).alloc (.cells #[.int .i64 k, .bool true, .slice q m c] 28))
        have HB2 := Lib.hid (hB2.alloc hB2.size (.cells #[.int .i64 k, .bool true, .slice q m c] 28))
        have HX2 := Lib.hid (OwnArr.made w2 28 [.int .i64 k, .bool true, .slice q m c])
        have HU2 := Lib.hid ((hOut.mono (by have := HB.out.size; omega : w.heap.size ≤ _)).below hbx)
        obtain ⟨C, hC⟩ : ∃ C, ((textT true T k).toList == s.toList) = C := ⟨_, rfl⟩
        rw [hC] at hyes hno
        obtain ⟨X, hX⟩ : ∃ X, textT true T k = X := ⟨_, rfl⟩
        rw [hX] at hC RT
        clear hb2 hB2 HZ HB RO hO2 hri hbx hOut hm hX
        simp only [if_true]
        go_wp2_with fail
        refine RT.out.mono ?_
        rintro e w3 ⟨rfl, hb3⟩
        have HZ3 := Lib.hid (HZ2.out.below hb3 HZ2.out.lt)
        have HX3 := Lib.hid (HX2.out.below hb3 HX2.out.lt)
        have HU3 := Lib.hid (HU2.out.below hb3)
        have HB3 := Lib.hid (HB2.out.trans (hb3.mono HB2.out.size))
        clear hb3 HZ2 HB2 RT HX2 HU2
        obtain ⟨z0, z1, z2, y0, y1, y2⟩ := HZ3.out.three
        obtain ⟨x0, x1, x2, -⟩ := HX3.out.three
        cases C with
        | false =>
          obtain ⟨rfl, rfl, rfl, rfl⟩ := hno.out (.inr (by first | trivial | rfl))
          go_wp2_with fail
          exact ret_row2 Try.results31 rfl rfl (((HZ3.out.set 0 _).set 1 _).set 2 _) rfl ⟨_, rfl, Out.none _ _, ((HB3.out.setCell (Nat.le_refl _) _).setCell (Nat.le_refl _) _).setCell (Nat.le_refl _) _⟩
        | true =>
          obtain ⟨rfl, rfl, rfl, rfl⟩ := hyes.out (by first | trivial | rfl) (by first | trivial | rfl)
          go_wp2_with fail
          exact ret_row2 Try.results31 rfl rfl (((HZ3.out.set 0 _).set 1 _).set 2 _) rfl ⟨_, rfl, HU3.out.boxed HZ3.out _ _ _, ((HB3.out.setCell (Nat.le_refl _) _).setCell (Nat.le_refl _) _).setCell (Nat.le_refl _) _⟩

set_option maxRecDepth 4000 in
set_option maxHeartbeats 2000000 in
theorem parseI_line (s t : ByteArray) (T : Nat → Bool) (w : World) (N : Nat) (hs : s.size ≤ 1048576) (hN20 : N ≤ 1048576) (hN : Hid (t.size = N)) (B : Bool) (hB : Hid (rowB N false (ints (tk N T)) = B)) (s' : Int) (ring' : Bool) (L : List Int) (R : Bool)
    (HT : Hid (∀ (p : Nat) (h : p < t.size), ((t[p].toNat : Int) == 120) = T p))
    (hyes : Hid (B = true → ((textT false T N).toList == s.toList) = true → s' = N ∧ ring' = false ∧ L = ints (tk N T) ∧ R = true))
    (hno : Hid (B = false ∨ ((textT false T N).toList == s.toList) = false → s' = 0 ∧ ring' = false ∧ L = [] ∧ R = false)) (hp : pre5 s (preT true) = false) (ht : cutT s (preT false) = t) :
    Calls Try.prog 31 #[.string s] w (MadeRow w s' ring' L R) := by
  have hmk0 := @run_make_row' Try.prog 57 4 (.bool false) 1 Try.underlying57 infoBool rfl .i64 .i64 N (by omega) (by omega)
  rw [madeCells_one, ← filled_zero (fun i => .bool (T i)) (.bool false) N] at hmk0
  have HF := Lib.hid (filled_bl N T)
  have CR : Hid (∀ w', Calls Try.prog 52 #[.string s, .string ⟨#[114, 105, 110, 103, 32]⟩] w' fun e w'' => e = .returned (.tuple #[.string (cutT s (preT true)), .bool (pre5 s (preT true))]) ∧ w' = w'') := Lib.hid (fun w' => cutPrefix_any s (preT true) w' rfl (by omega))
  have CL : Hid (∀ w', Calls Try.prog 52 #[.string s, .string ⟨#[108, 105, 110, 101, 32]⟩] w' fun e w'' => e = .returned (.tuple #[.string (cutT s (preT false)), .bool (pre5 s (preT false))]) ∧ w' = w'') := Lib.hid (fun w' => cutPrefix_any s (preT false) w' rfl (by omega))
  have hNt := hN.out
  unfold MadeRow
  obtain ⟨w1, hw1⟩ : ∃ w1, w1 = (w.alloc (.cells #[.int .i64 0, .bool false, .slice none 0 0] 28)).alloc (.cells (filled (fun i => .bool (T i)) (.bool false) N 0).toArray 4) := ⟨_, rfl⟩
  have hmk := hmk0 (w.alloc (.cells #[.int .i64 0, .bool false, .slice none 0 0] 28))
  rw [← hw1] at hmk
  have HO1 : Hid (OwnArr w1 (w.heap.size + 1) 4 (filled (fun i => .bool (T i)) (.bool false) N 0)) := by show OwnArr _ _ _ _; rw [hw1]; exact OwnArr.mk' rfl (by simp)
  have HZ1 : Hid (OwnArr w1 w.heap.size 28 [.int .i64 0, .bool false, .slice none 0 0]) := by show OwnArr _ _ _ _; rw [hw1]; exact (OwnArr.made w 28 [.int .i64 0, .bool false, .slice none 0 0]).alloc _
  have HB1 : Hid (Below w.heap.size w w1) := by show Below _ _ _; rw [hw1]; exact ((Below.refl _ _).alloc (Nat.le_refl _) _).alloc (by simp) _
  have hsz : (w.alloc (.cells #[.int .i64 0, .bool false, .slice none 0 0] 28)).heap.size = w.heap.size + 1 := by simp
  rw [hsz] at hmk
  clear hw1 hmk0 hsz
  rw [hp] at CR
  rw [ht] at CL
  obtain ⟨t0, ht0⟩ : ∃ t0, cutT s (preT true) = t0 := ⟨_, rfl⟩
  obtain ⟨b0, hb0⟩ : ∃ b0, pre5 s (preT false) = b0 := ⟨_, rfl⟩
  rw [ht0] at CR
  rw [hb0] at CL
  clear ht0 hb0
  go_enter Try.func31, Try.ntmps31
  go_wp2_with fail
  refine (CR.out _).mono ?_
  rintro e w' ⟨rfl, rfl⟩
  go_wp2_with fail
  refine (CL.out _).mono ?_
  rintro e w' ⟨rfl, rfl⟩
  go_wp2_with fail
  clear hmk
  go_loopw [7, 29] (fun _ i wr => ∃ (k : Nat), k ≤ N ∧ i = .int .i64 k ∧ Hid (OwnArr wr (w.heap.size + 1) 4 (filled (fun i => .bool (T i)) (.bool false) N k)) ∧ Hid (OwnArr wr w.heap.size 28 [.int .i64 0, .bool false, .slice none 0 0]) ∧ Hid (Below w.heap.size w wr)) (fun _ i _ => N - (intOf i).toNat)
  case atStart => exact ⟨0, Nat.zero_le _, rfl, HO1, HZ1, HB1⟩
  case round =>
    obtain ⟨k, hk, rfl, HO, HZ, HB⟩ := hrel
    clear HO1 HZ1 HB1
    by_cases hlt : k < N
    · have hk1 : (k : Int) < (N : Int) := by omega
      have hk0 : (0 : Int) ≤ (k : Int) := by omega
      have hkt : k < t.size := by rw [hN.out]; exact hlt
      have hb := HT.out k hkt
      have HST := Lib.hid (filled_set (fun i => .bool (T i)) (.bool false) N k)
      have hold := HO.out.cell k
      rw [filled_get _ _ _ _ _ hlt] at hold
      have hfree := HO.out.free k
      have hset := HO.out.set k (.bool (T k))
      rw [HST.out] at hset
      have HO4 := Lib.hid hset
      have HZ4 := Lib.hid (HZ.out.other (a := ⟨w.heap.size + 1, k, none⟩) (by show w.heap.size ≠ w.heap.size + 1; omega) (.bool (T k)))
      have HB4 := Lib.hid (HB.out.setCell (p := ⟨w.heap.size + 1, k, none⟩) (by show w.heap.size ≤ w.heap.size + 1; omega) (.bool (T k)))
      clear HO HZ HB hset HST
      go_wp2_with fail
      go_roundw
      case rel => exact ⟨k + 1, by omega, by go_num, HO4, HZ4, HB4⟩
      case measure => simp [intOf]; omega
    · have hkn : k = N := by omega
      subst hkn
      have hO := HO.out
      rw [HF.out] at hO
      have hR := Rd.of_own hO (Nat.zero_le _) (Nat.lt_succ_self _) hO.lt k
      rw [List.take_of_length_le (by rw [bv_length, bl_length]; exact Nat.le_refl _)] at hR
      have RO := Lib.hid (rowOf_any k false (some ⟨w.heap.size + 1, 0, none⟩) k T wr _ _ hR hN20 B hB.out)
      clear hO hR HO
      cases B with
      | false =>
        obtain ⟨rfl, rfl, rfl, rfl⟩ := hno.out (.inl (by first | trivial | rfl))
        go_wp2_with fail
        refine RO.out.mono ?_
        rintro e w2 ⟨v, rfl, -, hb2⟩
        have HZ2 := Lib.hid ((HZ.out.below hb2 HZ.out.lt).alloc (.cells #[.int .i64 0, .bool false, .slice none 0 0] 28))
        have hB2 := HB.out.trans (hb2.mono HB.out.size)
        have HB2 := Lib.hid (hB2.alloc hB2.size (.cells #[.int .i64 0, .bool false, .slice none 0 0] 28))
        have HX2 := Lib.hid (OwnArr.made w2 28 [.int .i64 0, .bool false, .slice none 0 0])
        have RT := Lib.hid (rowTextI_bad 0 false none 0 [] (w2.alloc (.cells #[.int .i64 0, .bool false, .slice none 0 0] 28)) 0 0 (Rd.nil 0 0 _ _ (Nat.zero_le _)) (by simp) rfl)
        clear hb2 hB2 HZ HB RO
        simp only [Bool.false_eq_true, if_false]
        go_wp2_with fail
        refine RT.out.mono ?_
        rintro e w3 ⟨rfl, hb3⟩
        have HZ3 := Lib.hid (HZ2.out.below hb3 HZ2.out.lt)
        have HB3 := Lib.hid (HB2.out.trans (hb3.mono HB2.out.size))
        clear hb3 HZ2 HB2 RT HX2
        obtain ⟨z0, z1, z2, y0, y1, y2⟩ := HZ3.out.three
        go_wp2_with fail
        exact ret_row2 Try.results31 rfl rfl (((HZ3.out.set 0 _).set 1 _).set 2 _) rfl ⟨_, rfl, Out.none _ _, ((HB3.out.setCell (Nat.le_refl _) _).setCell (Nat.le_refl _) _).setCell (Nat.le_refl _) _⟩
      | true =>
        obtain ⟨h2, h24, h3⟩ := rowB_lim hB.out
        go_wp2_with fail
        refine RO.out.mono ?_
        rintro e w2 ⟨v, rfl, hO2, hb2⟩
        obtain ⟨q, c, rfl, -⟩ := (hO2 trivial).rd
        have hOut := hO2 trivial
        have hB2 := HB.out.trans (hb2.mono HB.out.size)
        obtain ⟨m, hm⟩ : ∃ m, (ints (tk k T)).length = m := ⟨_, rfl⟩
        have hri := Out.ri2 hOut
        have hbx := (Below.refl w2.heap.size w2).alloc (Nat.le_refl _) (.cells #[.int .i64 k, .bool false, .slice q m c] 28)
        have RT := rowTextI_any k false q c T (w2.alloc (.cells #[.int .i64 k, .bool false, .slice q m c] 28)) _ _ (hri.bel hbx) h2 h24 (by intro h; first | exact h3 trivial | cases h)
        rw [hm] at hOut RT ⊢
        replace RT := Lib.hid RT
        have HZ2 := Lib.hid ((HZ.out.below hb2 HZ.out.lt).alloc (.cells #[.int .i64 k, .bool false, .slice q m c] 28))
        have HB2 := Lib.hid (hB2.alloc hB2.size (.cells #[.int .i64 k, .bool false, .slice q m c] 28))
        have HX2 := Lib.hid (OwnArr.made w2 28 [.int .i64 k, .bool false, .slice q m c])
        have HU2 := Lib.hid ((hOut.mono (by have := HB.out.size; omega : w.heap.size ≤ _)).below hbx)
        obtain ⟨C, hC⟩ : ∃ C, ((textT false T k).toList == s.toList) = C := ⟨_, rfl⟩
        rw [hC] at hyes hno
        obtain ⟨X, hX⟩ : ∃ X, textT false T k = X := ⟨_, rfl⟩
        rw [hX] at hC RT
        clear hb2 hB2 HZ HB RO hO2 hri hbx hOut hm hX
        simp only [if_true]
        go_wp2_with fail
        refine RT.out.mono ?_
        rintro e w3 ⟨rfl, hb3⟩
        have HZ3 := Lib.hid (HZ2.out.below hb3 HZ2.out.lt)
        have HX3 := Lib.hid (HX2.out.below hb3 HX2.out.lt)
        have HU3 := Lib.hid (HU2.out.below hb3)
        have HB3 := Lib.hid (HB2.out.trans (hb3.mono HB2.out.size))
        clear hb3 HZ2 HB2 RT HX2 HU2
        obtain ⟨z0, z1, z2, y0, y1, y2⟩ := HZ3.out.three
        obtain ⟨x0, x1, x2, -⟩ := HX3.out.three
        cases C with
        | false =>
          obtain ⟨rfl, rfl, rfl, rfl⟩ := hno.out (.inr (by first | trivial | rfl))
          go_wp2_with fail
          exact ret_row2 Try.results31 rfl rfl (((HZ3.out.set 0 _).set 1 _).set 2 _) rfl ⟨_, rfl, Out.none _ _, ((HB3.out.setCell (Nat.le_refl _) _).setCell (Nat.le_refl _) _).setCell (Nat.le_refl _) _⟩
        | true =>
          obtain ⟨rfl, rfl, rfl, rfl⟩ := hyes.out (by first | trivial | rfl) (by first | trivial | rfl)
          go_wp2_with fail
          exact ret_row2 Try.results31 rfl rfl (((HZ3.out.set 0 _).set 1 _).set 2 _) rfl ⟨_, rfl, HU3.out.boxed HZ3.out _ _ _, ((HB3.out.setCell (Nat.le_refl _) _).setCell (Nat.le_refl _) _).setCell (Nat.le_refl _) _⟩

end Go.Proofs.Ytbgmfjhcgfnfoaa
