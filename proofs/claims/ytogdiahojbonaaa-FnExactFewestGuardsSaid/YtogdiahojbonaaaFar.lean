/- Farness: spec.l3Far, spec.l3All, impl's farness; spec.FarnessOf and impl.FarnessOf, for every Row. -/
import Derived.Test.YtogdiahojbonaaaNearest
import Derived.Test.YtogdiahojbonaaaGap
import Derived.Test.YtogdiahojbonaaaRowI
import Derived.Test.YtogdiahojbonaaaApp
namespace Go.Proofs.Ytogdiahojbonaaa
open Go.RowKit

/-- the least of numbers, at most n -/
def farL (g : Nat → Nat) (n : Nat) (l : List Nat) : Nat := l.foldl (fun b q => min b (g q)) n
theorem farL_snoc (g : Nat → Nat) (n : Nat) (l : List Nat) (q : Nat) : farL g n (l ++ [q]) = min (farL g n l) (g q) := by simp [farL, List.foldl_append]
theorem farL_le (g : Nat → Nat) : ∀ (l : List Nat) (n : Nat), farL g n l ≤ n ∧ ∀ q ∈ l, farL g n l ≤ g q := by
  intro l
  induction l with
  | nil => intro n; exact ⟨Nat.le_refl _, fun q hq => by cases hq⟩
  | cons y l ih =>
    intro n
    obtain ⟨h1, h2⟩ := ih (min n (g y))
    show farL g (min n (g y)) l ≤ n ∧ ∀ q ∈ y :: l, farL g (min n (g y)) l ≤ g q
    refine ⟨by omega, fun q hq => ?_⟩
    rcases List.mem_cons.1 hq with e | e
    · subst e; omega
    · exact h2 q e
theorem farL_is (g : Nat → Nat) : ∀ (l : List Nat) (n : Nat), farL g n l = n ∨ ∃ q ∈ l, farL g n l = g q := by
  intro l
  induction l with
  | nil => intro n; exact .inl rfl
  | cons y l ih =>
    intro n
    show farL g (min n (g y)) l = n ∨ ∃ q ∈ y :: l, farL g (min n (g y)) l = g q
    rcases ih (min n (g y)) with h | ⟨q, hq, h⟩
    · rcases Nat.le_total n (g y) with h' | h'
      · left; rw [h]; omega
      · right; exact ⟨y, by simp, by rw [h]; omega⟩
    · right; exact ⟨q, by simp [hq], h⟩
/-- it is what the nearest one has, if there is one -/
theorem farL_least (g : Nat → Nat) (n : Nat) (l : List Nat) (hg : ∀ q ∈ l, g q ≤ n) (h0 : 0 < l.length) : farL g n l = g (leastOf g (l[0]?.getD 0) l) := by
  have hm : l[0]?.getD 0 ∈ l := by rw [List.getElem?_eq_getElem h0]; exact List.getElem_mem h0
  obtain ⟨h1, h2⟩ := leastOf_le g l (l[0]?.getD 0)
  have hmem : leastOf g (l[0]?.getD 0) l ∈ l := by
    rcases leastOf_mem g l (l[0]?.getD 0) with e | e
    · rw [e]; exact hm
    · exact e
  obtain ⟨h3, h4⟩ := farL_le g l n
  apply Nat.le_antisymm (h4 _ hmem)
  rcases farL_is g l n with e | ⟨q, hq, e⟩
  · rw [e]; exact hg _ hmem
  · rw [e]; exact h2 q hq
theorem gap_le {n : Nat} {ring : Bool} {a b : Nat} (ha : a < n) (hb : b < n) : gapM n ring a b ≤ n := by
  unfold gapM
  cases ring <;> simp <;> omega
/-- the farness of a seat -/
def farM (n : Nat) (ring : Bool) (l : List Nat) (p : Nat) : Nat := farL (gapM n ring p) n l
theorem farM_le (n : Nat) (ring : Bool) (l : List Nat) (p : Nat) : farM n ring l p ≤ n := (farL_le _ l n).1
/-- the farness of the first seats -/
def allM (n : Nat) (ring : Bool) (l : List Nat) (k : Nat) : List Int := ints ((List.range k).map (farM n ring l))
theorem allM_succ (n : Nat) (ring : Bool) (l : List Nat) (k : Nat) : allM n ring l (k + 1) = allM n ring l k ++ [((farM n ring l k : Nat) : Int)] := by
  unfold allM
  rw [List.range_succ, List.map_append, ints_append]; rfl
theorem allM_len (n : Nat) (ring : Bool) (l : List Nat) (k : Nat) : (allM n ring l k).length = k := by
  unfold allM
  rw [ints_length, List.length_map, List.length_range]

set_option maxRecDepth 4000 in
set_option maxHeartbeats 1000000 in
theorem farI_any (n : Nat) (ring : Bool) (p : Option Addr) (cap : Nat) (l : List Nat) (a : Nat) (w : World) (lo hi : Nat) (hin : Ri lo hi w p (ints l)) (hl : ∀ x ∈ l, x < n) (hll : l.length ≤ 24) (hn : n ≤ 24) (ha : a < n) :
    Calls Try.prog 53 #[rowV n ring p l.length cap, .int .i64 a] w fun e w' => e = .returned (.int .i64 (farM n ring l a : Nat)) ∧ Below w.heap.size w w' := by
  have HI := Lib.hid hin
  have HL := Lib.hid hl
  obtain ⟨m, hm⟩ : ∃ m, l.length = m := ⟨_, rfl⟩
  rw [hm] at hll ⊢
  have G := Lib.hid (fun (q : Nat) (hq : q < n) w' => gapI_any n ring p m cap a q w' hn ha hq)
  have HX0 := Lib.hid (OwnArr.made w 28 [.int .i64 n, .bool ring, .slice p m cap])
  have HB0 := Lib.hid (box_below w n ring p m cap 28)
  have HM := Lib.hid hm
  clear hin hl hm
  obtain ⟨c0, c1, c2, -⟩ := HX0.out.three
  unfold farM
  go_enter Try.func53, Try.ntmps53
  go_wp2_with fail
  clear c0 c1 c2
  go_loopw [5, 7, 13] (fun d _ i wr => ∃ (f k : Nat), k ≤ m ∧ f ≤ n ∧ i = .int .i64 k ∧ d = .int .i64 f ∧ Hid (f = farL (gapM n ring a) n (l.take k)) ∧ Hid (OwnArr wr w.heap.size 28 [.int .i64 n, .bool ring, .slice p m cap]) ∧ Hid (Below w.heap.size w wr)) (fun _ _ i _ => m - (intOf i).toNat)
  case atStart => exact ⟨n, 0, Nat.zero_le _, Nat.le_refl _, rfl, rfl, rfl, HX0, HB0⟩
  case round =>
    obtain ⟨f, k, hk, hf, rfl, rfl, HF, HX, HB⟩ := hrel
    clear HX0 HB0
    obtain ⟨c0, c1, c2, -⟩ := HX.out.three
    by_cases hlt : k < m
    · have hk1 : (k : Int) < (m : Int) := by omega
      have hkl : k < l.length := by have := HM.out; omega
      obtain ⟨b, off, rfl, -, -, hbw, hc⟩ := HI.out.int (by rw [ints_length]; omega)
      have h0 := (HB.out.cell (p := ⟨b, off + k, none⟩) hbw).trans (hc k (by rw [ints_length]; exact hkl))
      rw [ints_get hkl] at h0
      have hyn := HL.out _ (nat_mem hkl)
      have HST : Hid (farL (gapM n ring a) n (l.take (k + 1)) = min (farL (gapM n ring a) n (l.take k)) (gapM n ring a (l[k]?.getD 0))) := by
        show _ = _
        rw [List.take_succ_eq_append_getElem hkl, farL_snoc, List.getElem?_eq_getElem hkl]; rfl
      obtain ⟨y, hy⟩ : ∃ y, l[k]?.getD 0 = y := ⟨_, rfl⟩
      rw [hy] at h0 hyn HST
      have G2 := Lib.hid (fun w' => G.out y hyn w')
      obtain ⟨g, hg⟩ : ∃ g, gapM n ring a y = g := ⟨_, rfl⟩
      rw [hg] at G2 HST
      clear hc hy hg
      by_cases hfg : f ≤ g
      · have HF2 : Hid (f = farL (gapM n ring a) n (l.take (k + 1))) := by
          show _ = _
          rw [HST.out, ← HF.out, Nat.min_eq_left hfg]
        have hI : (f : Int) ≤ (g : Int) := by omega
        have hI2 : ¬ (g : Int) < (f : Int) := by omega
        clear HST HF
        go_wp2_with fail
        refine (G2.out _).mono ?_
        rintro e w2 ⟨rfl, hb2⟩
        have HX2 := Lib.hid (HX.out.below hb2 HX.out.lt)
        have HB2 := Lib.hid (HB.out.trans (hb2.mono HB.out.size))
        clear HX HB hb2 c0 c1 c2 h0 G2
        go_wp2_with fail
        go_roundw
        case rel => exact ⟨f, k + 1, by omega, hf, by go_num, rfl, HF2, HX2, HB2⟩
        case measure => simp [intOf]; omega
      · have HF2 : Hid (g = farL (gapM n ring a) n (l.take (k + 1))) := by
          show _ = _
          rw [HST.out, ← HF.out, Nat.min_eq_right (by omega)]
        have hI : (g : Int) < (f : Int) := by omega
        clear HST HF
        go_wp2_with fail
        refine (G2.out _).mono ?_
        rintro e w2 ⟨rfl, hb2⟩
        have HX2 := Lib.hid (HX.out.below hb2 HX.out.lt)
        have HB2 := Lib.hid (HB.out.trans (hb2.mono HB.out.size))
        clear HX HB hb2 c0 c1 c2 h0 G2
        go_wp2_with fail
        go_roundw
        case rel => exact ⟨g, k + 1, by omega, by omega, by go_num, rfl, HF2, HX2, HB2⟩
        case measure => simp [intOf]; omega
    · have hkm : l.take k = l := List.take_of_length_le (by have := HM.out; omega)
      have hF := HF.out
      rw [hkm] at hF
      replace hF := Lib.hid hF
      clear HF hkm
      go_wp2_with fail
      go_ret
      exact ⟨by rw [← hF.out]; rfl, HB.out⟩
end Go.Proofs.Ytogdiahojbonaaa
