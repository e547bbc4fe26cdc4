/- Chapter 7, impl side: impl.BoardTime, AisleAt. -/
import Derived.Test.YtohnjdlhgcemjaaBrdB7
import Derived.Test.YtohnjdlhgcemjaaRepI7
import Derived.Test.YtohnjdlhgcemjaaStc7
namespace Go.Proofs.Ytohnjdlhgcemjaa
open Go.RowKit

set_option maxRecDepth 4000 in
set_option maxHeartbeats 1000000 in
theorem boardI_bad (n s : Int) (p : Option Addr) (cap : Nat) (xs : List Int) (w : World) (lo hi : Nat) (hin : Ri lo hi w p xs) (hlen : xs.length ≤ 1048576) (h : ask7 n s xs = false) :
    Calls Try.prog 11 #[.int .i64 n, .int .i64 s, .slice p xs.length cap] w fun e w' => e = .returned (.tuple #[.int .i64 0, .bool false]) ∧ Below w.heap.size w w' := by
  have A := canBoardBy_any n s p cap xs w lo hi hin hlen
  rw [h] at A
  replace A := Lib.hid A
  obtain ⟨m, hm⟩ : ∃ m, xs.length = m := ⟨_, rfl⟩
  rw [hm] at A ⊢
  clear hin h hm
  go_enter Try.func11, Try.ntmps11
  go_wp2_with fail
  refine A.out.mono ?_
  rintro e w1 ⟨rfl, hb⟩
  go_wp2_with fail
  go_ret2
  exact ⟨rfl, hb⟩

set_option maxRecDepth 4000 in
set_option maxHeartbeats 1000000 in
theorem boardI_any (n : Nat) (s : Int) (p : Option Addr) (cap : Nat) (l : List Nat) (U : Nat) (w : World) (lo hi : Nat) (hin : Ri lo hi w p (ints l)) (hn1 : 1 ≤ n) (hn : n ≤ 10) (hs1 : 1 ≤ s) (hs : s ≤ 5) (hll : l.length = n) (hl : ∀ x ∈ l, x < n) (ha : ∀ r, r < n → r ∈ l) (hask : ask7 n s (ints l) = true) (hnd : ∀ j k, j < n → k < n → j ≠ k → lrow l j ≠ lrow l k) (hU : runs7 n s (-1) l U) :
    Calls Try.prog 11 #[.int .i64 (n : Nat), .int .i64 s, .slice p n cap] w fun e w' => e = .returned (.tuple #[.int .i64 (U : Nat), .bool true]) ∧ Below w.heap.size w w' := by
  have A := canBoardBy_any n s p cap (ints l) w lo hi hin (by rw [ints_length]; omega)
  rw [hask, ints_length, hll] at A
  replace A := Lib.hid A
  have T := Lib.hid (fun (w' : World) (h' : Below w.heap.size w w') => boardTime_any s n p cap l U w' lo hi (hin.below h' hin.top) hn1 hn hs1 hs hll hl ha hnd hU)
  clear hin hask hnd hU hl ha
  go_enter Try.func11, Try.ntmps11
  go_wp2_with fail
  refine A.out.mono ?_
  rintro e w1 ⟨rfl, hb⟩
  go_wp2_with fail
  refine (T.out _ hb).mono ?_
  rintro e w2 ⟨rfl, hb2⟩
  go_wp2_with fail
  go_ret2
  exact ⟨rfl, hb.trans (hb2.mono hb.size)⟩

set_option maxRecDepth 4000 in
set_option maxHeartbeats 2000000 in
theorem aisleI_bad (n s : Int) (p : Option Addr) (cap : Nat) (xs : List Int) (t : Int) (w : World) (lo hi : Nat) (hin : Ri lo hi w p xs) (hlen : xs.length ≤ 1048576) (h : (ask7 n s xs && decide (0 ≤ t)) = false) :
    Calls Try.prog 22 #[.int .i64 n, .int .i64 s, .slice p xs.length cap, .int .i64 t] w fun e w' => ∃ v, e = .returned (.tuple #[v, .bool false]) ∧ Out w.heap.size w' v [] ∧ Below w.heap.size w w' := by
  have A := canBoardBy_any n s p cap xs w lo hi hin hlen
  obtain ⟨m, hm⟩ : ∃ m, xs.length = m := ⟨_, rfl⟩
  rw [hm] at A ⊢
  cases ha : ask7 n s xs with
  | false =>
    rw [ha] at A
    replace A := Lib.hid A
    clear hin h hm ha
    go_enter Try.func22, Try.ntmps22
    go_wp2_with fail
    refine A.out.mono ?_
    rintro e w1 ⟨rfl, hb⟩
    have HO := Lib.hid ((Out.nilLit w1).mono hb.size)
    have HB : Hid (Below w.heap.size w (w1.alloc (.cells #[] 3))) := hb.alloc hb.size _
    go_wp2_with fail
    go_ret2
    exact ⟨_, rfl, HO.out, HB.out⟩
  | true =>
    rw [ha] at A
    rw [ha, Bool.true_and, decide_eq_false_iff_not] at h
    have ht : t < 0 := by omega
    replace A := Lib.hid A
    clear hin h hm ha
    go_enter Try.func22, Try.ntmps22
    go_wp2_with fail
    refine A.out.mono ?_
    rintro e w1 ⟨rfl, hb⟩
    have HO := Lib.hid ((Out.nilLit w1).mono hb.size)
    have HB : Hid (Below w.heap.size w (w1.alloc (.cells #[] 3))) := hb.alloc hb.size _
    go_wp2_with fail
    go_ret2
    exact ⟨_, rfl, HO.out, HB.out⟩

/-- who stands at the places that came first -/
def seenF (F : Nat → Int) (i r : Nat) : Int := if r < i then F r else -1
theorem seen_step (F : Nat → Int) (i j : Nat) : updI (seenF F i) i (F i) j = seenF F (i + 1) j := by
  unfold seenF
  by_cases e : j = i
  · subst e; rw [upd_at, if_pos (Nat.lt_succ_self _)]
  · rw [upd_ne e]
    by_cases h : j < i
    · rw [if_pos h, if_pos (by omega)]
    · rw [if_neg h, if_neg (by omega)]
theorem seen_skip {F : Nat → Int} {i : Nat} (h : F i = -1) (j : Nat) : seenF F i j = seenF F (i + 1) j := by
  unfold seenF
  by_cases e : j = i
  · subst e; rw [if_neg (Nat.lt_irrefl _), if_pos (Nat.lt_succ_self _), h]
  · by_cases h' : j < i
    · rw [if_pos h', if_pos (by omega)]
    · rw [if_neg h', if_neg (by omega)]

set_option maxRecDepth 4000 in
set_option maxHeartbeats 4000000 in
theorem aisleI_any (n : Nat) (s : Int) (p : Option Addr) (cap : Nat) (l : List Nat) (t : Int) (U : Nat) (w : World) (lo hi : Nat) (hin : Ri lo hi w p (ints l)) (hn1 : 1 ≤ n) (hn : n ≤ 10) (hs1 : 1 ≤ s) (hs : s ≤ 5) (hll : l.length = n) (hl : ∀ x ∈ l, x < n) (ha : ∀ r, r < n → r ∈ l) (hask : ask7 n s (ints l) = true) (hnd : ∀ j k, j < n → k < n → j ≠ k → lrow l j ≠ lrow l k) (ht : 0 ≤ t) (hU : runs7 n s t l U) :
    Calls Try.prog 22 #[.int .i64 (n : Nat), .int .i64 s, .slice p n cap, .int .i64 t] w fun e w' => ∃ v, e = .returned (.tuple #[v, .bool true]) ∧ Out w.heap.size w' v (frM (cabU s l U).ai n) ∧ Below w.heap.size w w' := by
  have A := canBoardBy_any n s p cap (ints l) w lo hi hin (by rw [ints_length]; omega)
  rw [hask, ints_length, hll] at A
  replace A := Lib.hid A
  have B := Lib.hid (fun (w' : World) (h' : Below w.heap.size w w') => until_any t s n p cap l U w' lo hi (hin.below h' hin.top) hn1 hn hs1 hs hll hl ha hnd (runsI_at ht hU))
  unfold MadeBrd at B
  have hinv := cab_inv (n := n) hs1 hl U
  obtain ⟨C, hC⟩ : ∃ C, cabU s l U = C := ⟨_, rfl⟩
  rw [hC] at B hinv ⊢
  have HROW := Lib.hid (fun (T : Nat → Nat) (w' : World) (hT : Trs w' n T s C) (r : Nat) (hr : r < n) => row_any n T s C w' hT r hr)
  have HINV := Lib.hid hinv
  have ht0 : ¬ t < 0 := by omega
  have ht1 : decide (t < 0) = false := decide_eq_false ht0
  clear hin hask hnd hU hl ha hC hinv
  go_enter Try.func22, Try.ntmps22
  go_wp2_with fail
  refine A.out.mono ?_
  rintro e w1 ⟨rfl, hb⟩
  have hlit := OwnArr.made w1 3 [.int .i64 (-1)]
  have RP := Lib.hid (repeat_any n w1.heap.size (-1) (w1.alloc (.cells #[.int .i64 (-1)] 3)) hlit hn1 (by omega))
  have HB1 : Hid (Below w.heap.size w (w1.alloc (.cells #[.int .i64 (-1)] 3))) := hb.alloc hb.size _
  have hsz : (w1.alloc (.cells #[.int .i64 (-1)] 3)).heap.size = w1.heap.size + 1 := by simp
  have hbs := hb.size
  clear hb hlit A
  go_wp2_with fail
  refine RP.out.mono ?_
  rintro e w2 ⟨rfl, hO2, hb2⟩
  rw [hsz] at hO2 hb2
  obtain ⟨x0, hx0⟩ : ∃ x, w1.heap.size + 1 = x := ⟨_, rfl⟩
  rw [hx0] at hO2 hb2
  have hw2b : Below w.heap.size w w2 := HB1.out.trans (hb2.mono (by omega))
  have hx2 : x0 < w2.heap.size := hO2.lt
  have HB2 := Lib.hid (B.out w2 hw2b)
  have HA2 := Lib.hid hO2
  have HW2B := Lib.hid hw2b
  have hxl : w.heap.size ≤ x0 := by omega
  clear hO2 hb2 hw2b RP B HB1
  go_upto_region 4 with fail
  go_wp2_with fail
  refine HB2.out.mono ?_
  rintro e w3 ⟨g, tb, ab, kt, ka, T, rfl, hB, hF, hL⟩
  obtain ⟨g0, g1, g2⟩ := hB.cells
  have HIA : Hid (IA w3 x0 n (fun _ => n) (seenF C.ai 0)) := by
    show IA _ _ _ _ _
    have hz3 := HA2.out.below hL hx2
    exact ⟨_, hz3, ⟨by simp, by simp⟩, fun j hj => by rw [List.getElem?_replicate, if_pos hj]; rfl⟩
  have HB := Lib.hid hB
  have HF := Lib.hid hF
  have HL : Hid (Below w.heap.size w w3) := by
    show Below _ _ _
    have h := hL.mono HW2B.out.size
    exact HW2B.out.trans h
  clear hB hF hL HA2 HW2B HB2
  go_wp2_with fail
  go_loopw [34] (fun ii wr => ∃ (i : Nat), i ≤ n ∧ ii = .int .i64 (i : Int) ∧ Hid (IA wr x0 n (fun _ => n) (seenF C.ai i)) ∧ Hid (Brd wr n g tb ab kt ka T l s (U : Nat) C) ∧ Hid (Below w.heap.size w wr)) (fun ii _ => n - (intOf ii).toNat)
  case atStart => exact ⟨0, Nat.zero_le _, rfl, HIA, HB, HL⟩
  case round =>
    obtain ⟨i, hi', rfl, HIA1, HB1, HL1⟩ := hrel
    clear HIA HB HL g0 g1 g2
    by_cases hin : i < n
    · have hi1 : (i : Int) < (n : Int) := by omega
      have h0 := HB1.out.ai.cell hin
      by_cases hneg : C.ai i < 0
      · rw [ptrT_neg T hneg] at h0
        have hm1 : C.ai i = -1 := by have := HINV.out.ai0 i hin; omega
        have HIA2 := Lib.hid (HIA1.out.congr (fun j _ => seen_skip hm1 j))
        clear hm1 HIA1 hneg
        go_wp2_with fail
        go_roundw
        case rel => exact ⟨i + 1, by omega, by go_num, HIA2, HB1, HL1⟩
        case measure => simp [intOf]; omega
      · rw [ptrT_pos T (by omega)] at h0
        obtain ⟨r, hr, hra, -, -⟩ := HINV.out.ai1 i hin (by omega)
        rw [hra, Int.toNat_natCast] at h0
        have hi0 : (0 : Int) ≤ (i : Int) := by omega
        have RW := Lib.hid (HROW.out T wr HB1.out.tv r hr)
        have fz := HIA1.out.free i
        have yz := HIA1.out.cell hin
        have hst := fun j (_ : j < n) => seen_step C.ai i j
        rw [hra] at hst
        have HIA2 := Lib.hid (HIA1.out.far hst)
        have HB2 := Lib.hid (HB1.out.far (x := x0) (i := i) HF.out hx2 (.int .i64 (r : Nat)))
        have HL2 := Lib.hid (HL1.out.setCell (p := ⟨x0, i, none⟩) hxl (.int .i64 (r : Nat)))
        clear hst hra HIA1 HB1 HL1 hneg
        go_wp2_with fail
        refine RW.out.mono ?_
        rintro e w4 ⟨rfl, rfl⟩
        clear RW
        go_wp2_with fail
        go_roundw
        case rel => exact ⟨i + 1, by omega, by go_num, HIA2, HB2, HL2⟩
        case measure => simp [intOf]; omega
    · have hni : i = n := by omega
      subst hni
      have hi1 : ¬ (i : Int) < (i : Int) := by omega
      have HO := Lib.hid ((HIA1.out.congr (fun j hj => show seenF C.ai i j = C.ai j from if_pos hj)).out (B := w.heap.size) hxl (by show i ≤ maxLen; unfold maxLen; omega))
      clear HIA1 HB1
      go_wp2_with fail
      go_ret2
      exact ⟨_, rfl, HO.out, HL1.out⟩
end Go.Proofs.Ytohnjdlhgcemjaa
