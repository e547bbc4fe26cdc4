/- Chapter 6, impl side: impl.seatsTo, CarsBehind; both sides. -/
import Derived.Test.YtfabannlebolfaaPkI6
import Derived.Test.YtfabannlebolfaaTakeI
import Derived.Test.YtfabannlebolfaaBeh6
namespace Go.Proofs.Ytfabannlebolfaa
open Go.RowKit

theorem bck_zero {n : Nat} {ring : Bool} {T : Nat → Bool} {x : Nat} (hx : x < n) : bckM n ring T x 0 = ahdM n ring T x := by
  cases h : T x with
  | true => exact bck_none h (fun i hi => by omega)
  | false =>
    rw [bck_free h, ahd_some (k := 0) (by omega) ?_ (fun j hj => absurd hj (Nat.not_lt_zero _))]
    · rw [Nat.add_zero, Nat.mod_eq_of_lt hx]
    · unfold ahdP
      rw [Nat.add_zero, Nat.mod_eq_of_lt hx, h, decide_eq_true hx]
      simp
theorem pk_one {n : Nat} {ring : Bool} {T : Nat → Bool} {x : Nat} (hx : x < n) : pkM n ring 0 T [x] 1 = [optI (ahdM n ring T x)] := by
  show [optI (bckM n ring T x 0)] = _
  rw [bck_zero hx]

set_option maxRecDepth 4000 in
set_option maxHeartbeats 2000000 in
theorem seatsTo_any (n : Nat) (ring : Bool) (p : Option Addr) (cap : Nat) (T : Nat → Bool) (y : Nat) (w : World) (lo hi : Nat) (hin : Ri lo hi w p (ints (tk n T))) (hn : n ≤ 24) :
    Calls Try.prog 40 #[rowV n ring p (ints (tk n T)).length cap, .int .i64 (y : Nat)] w fun e w' => e = .returned (.int .i64 ((cntA n ring T y n : Nat) : Int)) ∧ Below w.heap.size w w' := by
  have hE := RowE.start w n ring p (ints (tk n T)).length cap
  have PK := Lib.hid (fun (x : Nat) (hx : x < n) (g : Nat) (w' : World) (h' : Below w.heap.size w w') (hg : OwnArr w' g 3 [.int .i64 (x : Int)]) => parkI_any n ring p cap T (some ⟨g, 0, none⟩) 1 [x] 0 w' lo hi 0 w'.heap.size (hin.below h' hin.top) hn (lit_one hg _ hg.lt (Nat.le_refl _)) (fun z hz => by simp at hz; omega) (by simp) (by omega))
  have HCA := Lib.hid (fun x => cntA_le n ring T y x)
  have HON := Lib.hid (fun (x : Nat) (hx : x < n) => pk_one (ring := ring) (T := T) hx)
  obtain ⟨R, hR⟩ : ∃ R, cntA n ring T y n = R := ⟨_, rfl⟩
  rw [hR]
  have HR := Lib.hid hR
  obtain ⟨m0, hm0⟩ : ∃ m, (ints (tk n T)).length = m := ⟨_, rfl⟩
  rw [hm0] at hE PK ⊢
  have HE := Lib.hid hE
  clear hin hE hm0 hR
  obtain ⟨c0, c1, c2, -⟩ := HE.out.row.three
  go_enter Try.func40, Try.ntmps40
  go_wp2_with fail
  clear c0 c1 c2
  go_loopw [5, 11, 6, 7] (fun cv i _ _ wr => ∃ (x : Nat), x ≤ n ∧ i = .int .i64 (x : Int) ∧ cv = .int .i64 ((cntA n ring T y x : Nat) : Int) ∧ Hid (RowE w n ring p m0 cap wr)) (fun _ i _ _ _ => n - (intOf i).toNat)
  case atStart => exact ⟨0, Nat.zero_le _, rfl, rfl, HE⟩
  case round =>
    obtain ⟨x, hx, rfl, rfl, HE1⟩ := hrel
    clear HE
    by_cases hlt : x < n
    · have hx1 : (x : Int) < (n : Int) := by omega
      have hle := HCA.out x
      have hst : cntA n ring T y (x + 1) = cntA n ring T y x + (if optI (ahdM n ring T x) = (y : Int) then 1 else 0) := rfl
      obtain ⟨cc, hcc⟩ : ∃ cc, cntA n ring T y x = cc := ⟨_, rfl⟩
      rw [hcc] at hle hst ⊢
      obtain ⟨z, hz⟩ : ∃ z, optI (ahdM n ring T x) = z := ⟨_, rfl⟩
      have hon := HON.out x hlt
      rw [hz] at hst hon
      have HE2 := HE1.out.next (extI wr (.cells #[.int .i64 (x : Int)] 3))
      have P0 := PK.out x hlt wr.heap.size (wr.alloc (.cells #[.int .i64 (x : Int)] 3)) HE2.bel (OwnArr.made wr 3 [.int .i64 (x : Int)])
      rw [show (ints [x]).length = 1 from rfl, show [x].length = 1 from rfl, hon] at P0
      obtain ⟨TT, hTT⟩ : ∃ TT, ints (tk n (stM n ring 0 T [x] 1)) = TT := ⟨_, rfl⟩
      rw [hTT] at P0
      obtain ⟨tl, htl⟩ : ∃ tl, TT.length = tl := ⟨_, rfl⟩
      have HTL := Lib.hid htl
      replace P0 := Lib.hid P0
      have HE2' := Lib.hid HE2
      have HST := Lib.hid hst
      have hw : IntKind.i64.wrap ((cc : Int) + 1) = (cc : Int) + 1 := IntWalk.i64_in _ (by omega)
      obtain ⟨c0, c1, c2, -⟩ := HE2.row.three
      obtain ⟨d0, d1, d2, -⟩ := HE1.out.row.three
      clear hst hz hcc hon HE2 hTT htl
      go_wp2_with fail
      refine P0.out.mono ?_
      rintro e w3 ⟨v, u, rfl, hO, hU, -, hb3⟩
      obtain ⟨qu, cu, rfl, -⟩ := hU.rd
      rw [HTL.out]
      obtain ⟨qv, cv, rfl, -, -, hR3, -⟩ := hO.rd
      have HE3 := Lib.hid ((HE2'.out.next hb3).next (extI w3 (.cells #[.int .i64 (n : Int), .bool ring, .slice qu tl cu] 28)))
      obtain ⟨bv, ov, rfl, -, -, -, hcv⟩ := (hR3.bel (extI w3 (.cells #[.int .i64 (n : Int), .bool ring, .slice qu tl cu] 28))).int (by simp)
      have h0 := hcv 0 (by simp)
      simp only [List.getElem?_cons_zero, Option.getD_some, Nat.add_zero] at h0
      rw [show [z].length = 1 from rfl]
      clear hb3 hO hU hR3 hcv P0 HE2' HE1 c0 c1 c2 d0 d1 d2
      by_cases hzy : z = (y : Int)
      · have HC : Hid (cntA n ring T y (x + 1) = cc + 1) := by show _ = _; rw [HST.out, if_pos hzy]
        subst hzy
        clear HST
        go_wp2_with fail
        go_roundw
        case rel => exact ⟨x + 1, by omega, by go_num, by rw [HC.out]; go_num, HE3⟩
        case measure => simp [intOf]; omega
      · have HC : Hid (cntA n ring T y (x + 1) = cc) := by show _ = _; rw [HST.out, if_neg hzy, Nat.add_zero]
        clear HST
        go_wp2_with fail
        go_roundw
        case rel => exact ⟨x + 1, by omega, by go_num, by rw [HC.out], HE3⟩
        case measure => simp [intOf]; omega
    · have hxn : x = n := by omega
      subst hxn
      have hx1 : ¬ (x : Int) < (x : Int) := by omega
      have hr := HR.out
      obtain ⟨cc, hcc⟩ : ∃ cc, cntA x ring T y x = cc := ⟨_, rfl⟩
      rw [hcc] at hr ⊢
      subst hr
      clear HR hcc
      go_wp2_with fail
      go_ret
      exact ⟨rfl, HE1.out.bel⟩

/-- the list's places so far are different free seats -/
structure Good (n : Nat) (S : Nat → Bool) (cs : List Int) (l : List Nat) : Prop where
  pre : cs.take l.length = ints l
  le : l.length ≤ cs.length
  lt : ∀ x ∈ l, x < n
  fr : ∀ j, j < l.length → plT S l j (l[j]?.getD 0) = false
/-- the next place is none -/
def nextB (n : Nat) (ring : Bool) (S : Nat → Bool) (cs : List Int) (l : List Nat) : Bool := seatB n ring (ints (tk n (plT S l l.length))) (cs[l.length]?.getD 0) && !decide (cs[l.length]?.getD 0 ∈ ints (tk n (plT S l l.length)))
theorem plT_app (S : Nat → Bool) (l : List Nat) (y : Nat) : ∀ j, j ≤ l.length → plT S (l ++ [y]) j = plT S l j
  | 0, _ => rfl
  | j + 1, h => by
    funext i
    show (if i = (l ++ [y])[j]?.getD 0 then true else plT S (l ++ [y]) j i) = (if i = l[j]?.getD 0 then true else plT S l j i)
    rw [plT_app S l y j (by omega), List.getElem?_append_left (by omega)]
theorem good_next {n : Nat} {ring : Bool} {S : Nat → Bool} {cs : List Int} {l : List Nat} (hg : Good n S cs l) (hlt : l.length < cs.length) (h : nextB n ring S cs l = true) : ∃ y, Good n S cs (l ++ [y]) := by
  unfold nextB seatB at h
  rw [Bool.and_eq_true, Bool.and_eq_true, Bool.and_eq_true, decide_eq_true_eq, decide_eq_true_eq] at h
  obtain ⟨⟨-, h1, h2⟩, h3⟩ := h
  obtain ⟨y, hy⟩ : ∃ y : Nat, cs[l.length]?.getD 0 = y := ⟨(cs[l.length]?.getD 0).toNat, by omega⟩
  rw [hy] at h1 h2 h3
  have hyn : y < n := by omega
  rw [has_tk hyn] at h3
  refine ⟨y, ?_, ?_, ?_, ?_⟩
  · rw [List.length_append, List.length_singleton, List.take_succ_eq_append_getElem hlt, hg.pre, ints_append]
    rw [List.getElem?_eq_getElem hlt] at hy
    simp only [Option.getD_some] at hy
    rw [hy]; rfl
  · rw [List.length_append, List.length_singleton]; omega
  · intro x hx
    rcases List.mem_append.1 hx with hx | hx
    · exact hg.lt x hx
    · simp at hx; omega
  · intro j hj
    rw [List.length_append, List.length_singleton] at hj
    rw [plT_app S l y j (by omega)]
    by_cases e : j < l.length
    · rw [List.getElem?_append_left e]; exact hg.fr j e
    · have : j = l.length := by omega
      subst this
      rw [List.getElem?_append_right (Nat.le_refl _), Nat.sub_self]
      simpa using h3
theorem good_first {n : Nat} {ring : Bool} {S : Nat → Bool} {cs : List Int} : ∀ d, d ≤ cs.length → ∃ l, Good n S cs l ∧ (l.length = d ∨ l.length < cs.length ∧ nextB n ring S cs l = false)
  | 0, _ => ⟨[], ⟨rfl, Nat.zero_le _, fun x hx => by simp at hx, fun j hj => by simp at hj⟩, .inl rfl⟩
  | d + 1, h => by
    obtain ⟨l, hg, hd⟩ := good_first (n := n) (ring := ring) (S := S) (cs := cs) d (by omega)
    rcases hd with hd | hd
    · cases hn : nextB n ring S cs l with
      | false => exact ⟨l, hg, .inr ⟨by omega, hn⟩⟩
      | true =>
        obtain ⟨y, hg'⟩ := good_next hg (by omega) hn
        exact ⟨_, hg', .inl (by rw [List.length_append, hd]; rfl)⟩
    · exact ⟨l, hg, .inr hd⟩
theorem good_all {n : Nat} {ring : Bool} {S : Nat → Bool} {cs : List Int} {l : List Nat} (hr : rowB n ring (ints (tk n S)) = true) (h12 : cs.length ≤ 12) (hg : Good n S cs l) (he : l.length = cs.length) : plcB n ring (ints (tk n S)) cs = true := by
  have hcs : cs = ints l := by
    have := hg.pre
    rw [he, List.take_of_length_le (Nat.le_refl _)] at this
    exact this
  subst hcs
  unfold plcB carsB
  rw [Bool.and_eq_true, Bool.and_eq_true, Bool.and_eq_true, hr, decide_eq_true h12, List.all_eq_true, List.all_eq_true]
  refine ⟨⟨rfl, rfl, ?_⟩, ?_⟩
  · intro x hx
    unfold ints at hx
    obtain ⟨k, hk, rfl⟩ := List.mem_map.1 hx
    have := hg.lt k hk
    unfold seatB
    rw [hr, decide_eq_true (by omega), decide_eq_true (by omega)]; rfl
  · intro i hi
    rw [List.mem_range, ints_length] at hi
    have h1 := hg.fr i hi
    rw [plT_is S l i (by omega), Bool.or_eq_false_iff] at h1
    unfold plcP
    rw [ints_get hi, has_tk (hg.lt _ (nat_mem hi)), h1.1, show (ints l).take i = ints (l.take i) by unfold ints; rw [List.map_take]]
    have hm : ¬ ((l[i]?.getD 0 : Nat) : Int) ∈ ints (l.take i) := by
      intro hmem
      unfold ints at hmem
      obtain ⟨k, hk, e⟩ := List.mem_map.1 hmem
      have : k = l[i]?.getD 0 := by omega
      rw [this] at hk
      simp [hk] at h1
    rw [decide_eq_false hm]; rfl

set_option maxRecDepth 4000 in
set_option maxHeartbeats 2000000 in
theorem behI_no (s : Int) (ring : Bool) (p : Option Addr) (cap : Nat) (xs : List Int) (q : Option Addr) (m c : Nat) (w : World) (lo hi : Nat) (hin : Ri lo hi w p xs) (hlen : xs.length ≤ 1048576) (h : rowB s ring xs = false ∨ 12 < m) :
    Calls Try.prog 17 #[rowV s ring p xs.length cap, .slice q m c] w fun e w' => e = .returned (.tuple #[.int .i64 0, .bool false]) ∧ Below w.heap.size w w' := by
  have hE := RowE.start w s ring p xs.length cap
  have I := fun (w' : World) (h' : Below w.heap.size w w') => isRow_any s ring p cap xs w' lo hi (hin.below h' hin.top) hlen
  obtain ⟨RB, hRB⟩ : ∃ RB, rowB s ring xs = RB := ⟨_, rfl⟩
  rw [hRB] at I h
  obtain ⟨m0, hm0⟩ : ∃ m, xs.length = m := ⟨_, rfl⟩
  rw [hm0] at hE I ⊢
  have HE := Lib.hid hE
  replace I := Lib.hid I
  clear hin hlen hE hm0 hRB
  obtain ⟨c0, c1, c2, -⟩ := HE.out.row.three
  cases RB with
  | false =>
    clear h
    go_enter Try.func17, Try.ntmps17
    go_wp2_with fail
    refine (I.out _ HE.out.bel).mono ?_
    rintro e w1 ⟨rfl, hb1⟩
    have HE1 := Lib.hid (HE.out.next hb1)
    clear hb1 I c0 c1 c2
    go_wp2_with fail
    go_ret2
    exact ⟨rfl, HE1.out.bel⟩
  | true =>
    have h12 : (12 : Int) < (m : Int) := by
      rcases h with h | h
      · cases h
      · omega
    clear h
    go_enter Try.func17, Try.ntmps17
    go_wp2_with fail
    refine (I.out _ HE.out.bel).mono ?_
    rintro e w1 ⟨rfl, hb1⟩
    have HE1 := Lib.hid (HE.out.next hb1)
    clear hb1 I c0 c1 c2
    go_wp2_with fail
    go_ret2
    exact ⟨rfl, HE1.out.bel⟩

/-- the state of CarsBehind -/
structure BehW (w : World) (n : Int) (ring : Bool) (q : Option Addr) (k c : Nat) (T : List Int) (wr : World) : Prop where
  row : OwnArr wr w.heap.size 28 [.int .i64 n, .bool ring, .slice q k c]
  bel : Below w.heap.size w wr
  len : T.length = k
  rd : ∃ lo hi, Ri lo hi wr q T ∧ (hi ≤ w.heap.size ∨ w.heap.size < lo)
theorem BehW.next {w : World} {n : Int} {ring : Bool} {q : Option Addr} {k c : Nat} {T : List Int} {wr w' : World} (h : BehW w n ring q k c T wr) (hb : Below wr.heap.size wr w') : BehW w n ring q k c T w' := by
  obtain ⟨lo, hi, hr, hd⟩ := h.rd
  exact ⟨h.row.below hb h.row.lt, h.bel.trans (hb.mono h.bel.size), h.len, lo, hi, hr.bel hb, hd⟩
theorem BehW.store {w : World} {n : Int} {ring : Bool} {q : Option Addr} {k c : Nat} {T : List Int} {wr : World} (h : BehW w n ring q k c T wr) {q' : Option Addr} {k' c' lo hi : Nat} {T' : List Int} (hr : Ri lo hi wr q' T') (hl : T'.length = k') (hlo : w.heap.size < lo) :
    BehW w n ring q' k' c' T' (((wr.setCell ⟨w.heap.size, 0, none⟩ (.int .i64 n)).setCell ⟨w.heap.size, 1, none⟩ (.bool ring)).setCell ⟨w.heap.size, 2, none⟩ (.slice q' k' c')) := by
  have hk : Keep w.heap.size (w.heap.size + 1) wr (((wr.setCell ⟨w.heap.size, 0, none⟩ (.int .i64 n)).setCell ⟨w.heap.size, 1, none⟩ (.bool ring)).setCell ⟨w.heap.size, 2, none⟩ (.slice q' k' c')) :=
    (((Keep.refl _ _ wr).setCell ⟨Nat.le_refl _, Nat.lt_succ_self _⟩ 0 _).setCell ⟨Nat.le_refl _, Nat.lt_succ_self _⟩ 1 _).setCell ⟨Nat.le_refl _, Nat.lt_succ_self _⟩ 2 _
  refine ⟨((h.row.set 0 (.int .i64 n)).set 1 (.bool ring)).set 2 (.slice q' k' c'), h.bel.trans (hk.below h.bel.size), hl, lo, hi, hr.keep hk (.inr (by omega)), .inr hlo⟩

set_option maxRecDepth 4000 in
set_option maxHeartbeats 4000000 in
theorem behI_any (n : Nat) (ring : Bool) (p : Option Addr) (cap : Nat) (S : Nat → Bool) (q : Option Addr) (c : Nat) (cs : List Int) (l : List Nat) (w : World) (lo hi lo2 hi2 : Nat) (hin : Ri lo hi w p (ints (tk n S))) (h2 : 2 ≤ n) (hn : n ≤ 24) (h3 : ring = true → 3 ≤ n) (hin2 : Ri lo2 hi2 w q cs) (h12 : cs.length ≤ 12) (hg : Good n S cs l) (he : l.length = cs.length ∨ l.length < cs.length ∧ nextB n ring S cs l = false) :
    Calls Try.prog 17 #[rowV n ring p (ints (tk n S)).length cap, .slice q cs.length c] w fun e w' => e = .returned (.tuple #[.int .i64 (if l.length = cs.length then ((prdM n ring S l l.length : Nat) : Int) else 0), .bool (decide (l.length = cs.length))]) ∧ Below w.heap.size w w' := by
  have hlen := ints_tk_len n S
  have hE := RowE.start w n ring p (ints (tk n S)).length cap
  have I := Lib.hid (fun (w' : World) (h' : Below w.heap.size w w') => isRow_any n ring p cap (ints (tk n S)) w' lo hi (hin.below h' hin.top) (by omega))
  rw [rowB_of h2 hn h3] at I
  have HI2 := Lib.hid (fun (w' : World) (h' : Below w.heap.size w w') => hin2.below h' hin2.top)
  have hW0 : BehW w n ring p (ints (tk n S)).length cap (ints (tk n S)) (w.alloc (.cells #[.int .i64 (n : Int), .bool ring, .slice p (ints (tk n S)).length cap] 28)) :=
    ⟨hE.row, hE.bel, rfl, lo, hi, hin.below hE.bel hin.top, .inl hin.top⟩
  obtain ⟨m0, hm0⟩ : ∃ m, (ints (tk n S)).length = m := ⟨_, rfl⟩
  rw [hm0] at hE hW0 I ⊢
  have HW0 := Lib.hid hW0
  have HG := Lib.hid hg
  have HEnd := Lib.hid he
  have hle := hg.le
  have h12l : l.length ≤ 12 := by omega
  obtain ⟨f, hf⟩ : ∃ f, l.length = f := ⟨_, rfl⟩
  obtain ⟨m, hm⟩ : ∃ m, cs.length = m := ⟨_, rfl⟩
  rw [hf, hm] at HEnd hle ⊢
  rw [hm] at h12
  rw [hf] at h12l
  have HF := Lib.hid hf
  have HM := Lib.hid hm
  have HPR := Lib.hid (fun j (hj : j ≤ 12) => Nat.le_trans (prd_le n ring S l j) (pow24 hn hj))
  have h12i : ¬ (12 : Int) < (m : Int) := by omega
  clear hin hin2 hE hW0 hg he hlen hm0 hf hm
  obtain ⟨c0, c1, c2, -⟩ := HW0.out.row.three
  go_enter Try.func17, Try.ntmps17
  go_wp2_with fail
  refine (I.out _ HW0.out.bel).mono ?_
  rintro e w1 ⟨rfl, hb1⟩
  have HW1 := Lib.hid (HW0.out.next hb1)
  clear hb1 c0 c1 c2 I HW0
  go_wp2_with fail
  go_loopw [21, 6, 8, 10] (fun i cv _ _ wr => ∃ (j : Nat) (qx : Option Addr) (k cx : Nat), j ≤ f ∧ i = .int .i64 (j : Int) ∧ cv = .int .i64 ((prdM n ring S l j : Nat) : Int) ∧ Hid (BehW w n ring qx k cx (ints (tk n (plT S l j))) wr)) (fun i _ _ _ _ => m - (intOf i).toNat)
  case atStart => exact ⟨0, p, m0, cap, Nat.zero_le _, rfl, rfl, HW1⟩
  case round =>
    obtain ⟨j, qx, k, cx, hj, rfl, rfl, HW⟩ := hrel
    clear HW1
    by_cases hjf : j < f
    · have hj1 : (j : Int) < (m : Int) := by omega
      have hj0 : (0 : Int) ≤ (j : Int) := by omega
      have hjl : j < l.length := by rw [HF.out]; exact hjf
      obtain ⟨b, off, rfl, -, -, hbw, hc⟩ := (HI2.out wr HW.out.bel).int (by rw [HM.out]; omega)
      have h0 := hc j (by rw [HM.out]; omega)
      have hcj : cs[j]?.getD 0 = ((l[j]?.getD 0 : Nat) : Int) := by
        have e : (cs.take l.length)[j]? = cs[j]? := by rw [List.getElem?_take, if_pos hjl]
        rw [← e, HG.out.pre, ints_get hjl]
      rw [hcj] at h0
      have hxn := HG.out.lt _ (nat_mem hjl)
      have hfr := HG.out.fr j hjl
      have hps : prdM n ring S l (j + 1) = prdM n ring S l j * cntA n ring (plT S l j) (l[j]?.getD 0) n := rfl
      have hps2 : plT S l (j + 1) = fun i => if i = l[j]?.getD 0 then true else plT S l j i := rfl
      have hpb := HPR.out j (by omega)
      have hpb2 := HPR.out (j + 1) (by omega)
      have hca := cntA_le n ring (plT S l j) (l[j]?.getD 0) n
      obtain ⟨x, hx⟩ : ∃ x, l[j]?.getD 0 = x := ⟨_, rfl⟩
      rw [hx] at h0 hxn hfr hps hps2 hca
      obtain ⟨loT, hiT, hrT, hdT⟩ := HW.out.rd
      obtain ⟨T, hT⟩ : ∃ T, plT S l j = T := ⟨_, rfl⟩
      rw [hT] at HW hfr hps hps2 hrT hca
      have hkl := HW.out.len
      have TK := takeI_any n ring qx cx T x wr loT hiT hrT h2 hn h3 hxn hfr
      have SE := fun (w' : World) (h' : Below wr.heap.size wr w') => seatsTo_any n ring qx cx T x w' loT hiT (hrT.bel h') hn
      rw [hkl] at TK SE
      unfold MadeRow at TK
      rw [← hps2] at TK
      obtain ⟨cc, hcc⟩ : ∃ cc, cntA n ring T x n = cc := ⟨_, rfl⟩
      obtain ⟨pr, hpr⟩ : ∃ pr, prdM n ring S l j = pr := ⟨_, rfl⟩
      obtain ⟨pr2, hpr2⟩ : ∃ pr2, prdM n ring S l (j + 1) = pr2 := ⟨_, rfl⟩
      rw [hcc] at SE hps hca
      rw [hpr] at hps hpb ⊢
      rw [hpr2] at hps hpb2
      have hmul : (pr : Int) * (cc : Int) = (pr2 : Int) := by rw [hps]; push_cast; rfl
      have hwm : IntKind.i64.wrap (pr2 : Int) = (pr2 : Int) := IntWalk.i64_in _ (by omega)
      have HPR2 := Lib.hid hpr2
      have HTE := Lib.hid hT
      replace TK := Lib.hid TK
      replace SE := Lib.hid SE
      obtain ⟨c0, c1, c2, -⟩ := HW.out.row.three
      clear hps hps2 hc hbw hcj hx hT hcc hpr hpr2 hrT hdT hkl
      go_wp2_with fail
      refine TK.out.mono ?_
      rintro e w3 ⟨u, rfl, hU, hb3⟩
      obtain ⟨qu, cu, rfl, -, -, hrU, -⟩ := hU.rd
      obtain ⟨tl, htl⟩ : ∃ tl, (ints (tk n (plT S l (j + 1)))).length = tl := ⟨_, rfl⟩
      rw [htl]
      have HTL := Lib.hid htl
      have HW4 := Lib.hid ((HW.out.next hb3).next (extI w3 (.cells #[.int .i64 (n : Int), .bool ring, .slice qu tl cu] 28)))
      have hgb : w.heap.size < wr.heap.size := HW.out.row.lt
      have HRU := Lib.hid (hrU.bel (extI w3 (.cells #[.int .i64 (n : Int), .bool ring, .slice qu tl cu] 28)))
      have HXU := Lib.hid (OwnArr.made w3 28 [.int .i64 (n : Int), .bool ring, .slice qu tl cu])
      have HB4 := Lib.hid (hb3.trans ((extI w3 (.cells #[.int .i64 (n : Int), .bool ring, .slice qu tl cu] 28)).mono hb3.size))
      obtain ⟨w4, hw4⟩ : ∃ w4, w3.alloc (.cells #[.int .i64 (n : Int), .bool ring, .slice qu tl cu] 28) = w4 := ⟨_, rfl⟩
      have hw4' : w3.alloc (.cells [.int .i64 (n : Int), .bool ring, .slice qu tl cu].toArray 28) = w4 := hw4
      rw [hw4] at HW4 HRU HB4
      rw [hw4'] at HXU
      have HW4E := Lib.hid hw4
      clear hb3 hU hrU c0 c1 c2 TK htl HW hw4 hw4'
      obtain ⟨c0, c1, c2, -⟩ := HW4.out.row.three
      go_upto_region 8 with fail
      rw [HW4E.out]
      go_wp2_with fail
      refine (SE.out _ HB4.out).mono ?_
      rintro e w5 ⟨rfl, hb5⟩
      have HW5 := Lib.hid (HW4.out.next hb5)
      have HXU5 := Lib.hid (HXU.out.below hb5 HXU.out.lt)
      have HRU5 := Lib.hid (HRU.out.bel hb5)
      clear hb5 HW4 HXU HRU c0 c1 c2 SE
      obtain ⟨c0, c1, c2, y0, y1, y2⟩ := HW5.out.row.three
      obtain ⟨d0, d1, d2, -⟩ := HXU5.out.three
      have HW6 := Lib.hid (HW5.out.store (c' := cu) HRU5.out HTL.out hgb)
      go_wp2_with fail
      go_roundw
      case rel => exact ⟨j + 1, qu, tl, cu, by omega, by go_num, by rw [HPR2.out], HW6⟩
      case measure => simp [intOf]; omega
    · have hjf2 : j = f := by omega
      subst hjf2
      by_cases hend : j = m
      · subst hend
        have hj1 : ¬ (j : Int) < (j : Int) := by omega
        go_wp2_with fail
        go_ret2
        exact ⟨by simp, HW.out.bel⟩
      · have hjm : j < m := by omega
        have hj1 : (j : Int) < (m : Int) := by omega
        have hj0 : (0 : Int) ≤ (j : Int) := by omega
        obtain ⟨b, off, rfl, -, -, hbw, hc⟩ := (HI2.out wr HW.out.bel).int (by rw [HM.out]; omega)
        have h0 := hc j (by rw [HM.out]; omega)
        have hnb : nextB n ring S cs l = false := by
          rcases HEnd.out with h | h
          · exact absurd h hend
          · exact h.2
        unfold nextB at hnb
        rw [HF.out] at hnb
        obtain ⟨x, hx⟩ : ∃ x, cs[j]?.getD 0 = x := ⟨_, rfl⟩
        rw [hx] at h0 hnb
        obtain ⟨loT, hiT, hrT, hdT⟩ := HW.out.rd
        have TK := takeI_bad n ring qx cx (ints (tk n (plT S l j))) x wr loT hiT hrT (by have := ints_tk_len n (plT S l j); omega) hnb
        rw [HW.out.len] at TK
        unfold MadeRow at TK
        replace TK := Lib.hid TK
        obtain ⟨pr, hpr⟩ : ∃ pr, prdM n ring S l j = pr := ⟨_, rfl⟩
        rw [hpr]
        obtain ⟨c0, c1, c2, -⟩ := HW.out.row.three
        clear hc hbw hx hnb hrT hdT hpr
        go_wp2_with fail
        refine TK.out.mono ?_
        rintro e w3 ⟨u, rfl, hU, hb3⟩
        obtain ⟨qu, cu, rfl, -⟩ := hU.rd
        rw [List.length_nil]
        have HW4 := Lib.hid ((HW.out.next hb3).next (extI w3 (.cells #[.int .i64 0, .bool false, .slice qu 0 cu] 28)))
        clear hb3 hU c0 c1 c2 TK HW
        go_wp2_with fail
        go_ret2
        exact ⟨by first | rfl | simp [hend], HW4.out.bel⟩
theorem carsBehind_both (s0 : Int) (r0 : Bool) (xs0 : List Int) (xs1 : List Int) : ∃ (x0 : Int) (y1 : Bool), (∀ (q0 : Option Addr) (c0 : Nat) (q1 : Option Addr) (c1 : Nat) (w : World) (lo0 hi0 : Nat) (lo1 hi1 : Nat), Ri lo0 hi0 w q0 xs0 → xs0.length ≤ 1048576 → xs0.length ≤ c0 → c0 ≤ maxLen → Ri lo1 hi1 w q1 xs1 → xs1.length ≤ 1048576 → xs1.length ≤ c1 → c1 ≤ maxLen → Calls Try.prog 15 #[rowV s0 r0 q0 xs0.length c0, .slice q1 xs1.length c1] w fun e w' => e = .returned (.tuple #[.int .i64 x0, .bool y1]) ∧ Below w.heap.size w w') ∧ (∀ (q0 : Option Addr) (c0 : Nat) (q1 : Option Addr) (c1 : Nat) (w : World) (lo0 hi0 : Nat) (lo1 hi1 : Nat), Ri lo0 hi0 w q0 xs0 → xs0.length ≤ 1048576 → xs0.length ≤ c0 → c0 ≤ maxLen → Ri lo1 hi1 w q1 xs1 → xs1.length ≤ 1048576 → xs1.length ≤ c1 → c1 ≤ maxLen → Calls Try.prog 17 #[rowV s0 r0 q0 xs0.length c0, .slice q1 xs1.length c1] w fun e w' => e = .returned (.tuple #[.int .i64 x0, .bool y1]) ∧ Below w.heap.size w w') := by
  cases h : plcB s0 r0 xs0 xs1 with
  | true =>
    obtain ⟨n, S, l, rfl, rfl, rfl, h2, hn, hl, hll, hfr⟩ := plcB_is h
    have hr : rowB n r0 (ints (tk n S)) = true := by unfold plcB carsB at h; rw [Bool.and_eq_true, Bool.and_eq_true] at h; exact h.1.1
    have h3 : r0 = true → 3 ≤ n := by
      intro e
      unfold rowB at hr
      rw [e] at hr
      simp at hr
      omega
    have hg : Good n S (ints l) l := ⟨by rw [← ints_length l, List.take_of_length_le (Nat.le_refl _)], by rw [ints_length]; exact Nat.le_refl _, hl, hfr⟩
    refine ⟨_, _, fun q0 c0 q1 c1 w lo hi lo2 hi2 h1 _ _ _ h3' _ h5 h6 => behS_any n r0 q0 c0 S q1 c1 l w lo hi lo2 hi2 h1 hn h3' hl hll h5 h6 h hfr, fun q0 c0 q1 c1 w lo hi lo2 hi2 h1 _ _ _ h3' _ _ _ => ?_⟩
    have := behI_any n r0 q0 c0 S q1 c1 (ints l) l w lo hi lo2 hi2 h1 h2 hn h3 h3' (by rw [ints_length]; exact hll) hg (.inl (ints_length l).symm)
    rw [if_pos (ints_length l).symm, decide_eq_true (ints_length l).symm] at this
    exact this
  | false =>
    refine ⟨0, false, fun q0 c0 q1 c1 w lo hi lo2 hi2 h1 h2 _ _ h3 h4 h5 h6 => behS_bad s0 r0 q0 c0 xs0 q1 c1 xs1 w lo hi lo2 hi2 h1 h2 h3 h4 h5 h6 h, fun q0 c0 q1 c1 w lo hi lo2 hi2 h1 h2 _ _ h3' _ _ _ => ?_⟩
    cases hr : rowB s0 r0 xs0 with
    | false => exact behI_no s0 r0 q0 c0 xs0 q1 _ c1 w lo hi h1 h2 (.inl hr)
    | true =>
      by_cases h12 : xs1.length ≤ 12
      · obtain ⟨n, S, rfl, rfl, hn2, hn, h3⟩ := rowB_is hr
        obtain ⟨l, hg, hd⟩ := good_first (n := n) (ring := r0) (S := S) (cs := xs1) xs1.length (Nat.le_refl _)
        have hne : ¬ l.length = xs1.length := fun e => by
          rw [good_all hr h12 hg e] at h; cases h
        have := behI_any n r0 q0 c0 S q1 c1 xs1 l w lo hi lo2 hi2 h1 hn2 hn h3 h3' h12 hg hd
        rw [if_neg hne, decide_eq_false hne] at this
        exact this
      · exact behI_no s0 r0 q0 c0 xs0 q1 _ c1 w lo hi h1 h2 (.inr (by omega))
end Go.Proofs.Ytfabannlebolfaa
