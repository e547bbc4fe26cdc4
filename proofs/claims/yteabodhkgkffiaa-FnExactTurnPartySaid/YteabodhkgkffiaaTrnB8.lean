/- Chapter 8: TurnParty on both sides. -/
import Derived.Test.YteabodhkgkffiaaPtyB8
import Derived.Test.YteabodhkgkffiaaTrnM8
import Derived.Test.YteabodhkgkffiaaApp
namespace Go.Proofs.Yteabodhkgkffiaa
open Go.RowKit

/-- a party on a ring, and a number of seats -/
def trnB (k : Int) (xs : List Int) (b : Int) : Bool := parB k true xs && (decide (0 ≤ b) && decide (b ≤ 2 * k - 1))
def trnR (k : Int) (xs : List Int) (b : Int) : List Int := if trnB k xs b = true then ints (nrM xs.length (trG (xs.map Int.toNat) xs.length b.toNat)) else []
theorem ints_nat8 (l : List Nat) : (ints l).map Int.toNat = l := by
  unfold ints
  rw [List.map_map]
  conv => rhs; rw [← List.map_id l]
  apply List.map_congr_left
  intro x _
  simp
theorem nr_succ (N : Nat) (F : Nat → Nat) : ints (nrM (N + 1) F) = ints (nrM N F) ++ [((F N : Nat) : Int)] := by
  unfold nrM ints
  rw [List.range_succ]
  simp

set_option maxRecDepth 4000 in
set_option maxHeartbeats 1000000 in
theorem turnS_bad (k : Int) (p : Option Addr) (cap : Nat) (xs : List Int) (b : Int) (w : World) (lo hi : Nat) (hin : Ri lo hi w p xs) (hl : xs.length ≤ 1048576) (h : trnB k xs b = false) :
    Calls Try.prog 16 #[.int .i64 k, .slice p xs.length cap, .int .i64 b] w fun e w' => ∃ v, e = .returned (.tuple #[v, .bool false]) ∧ Out w.heap.size w' v [] ∧ Below w.heap.size w w' := by
  have C := fun w' => l8Couples_any k true w'
  have HO := Lib.hid (Out.nilLit w)
  have HB : Hid (Below w.heap.size w (w.alloc (.cells #[] 3))) := (Below.refl _ _).alloc (Nat.le_refl _) _
  unfold trnB parB at h
  cases hc : couB k true with
  | false =>
    rw [hc] at C
    replace C := Lib.hid C
    obtain ⟨m, hm⟩ : ∃ m, xs.length = m := ⟨_, rfl⟩
    rw [hm]
    clear hin hc hm h
    go_enter Try.func16, Try.ntmps16
    go_wp2_with fail
    refine (C.out _).mono ?_
    rintro e w1 ⟨rfl, rfl⟩
    go_wp2_with fail
    go_ret2
    exact ⟨_, rfl, HO.out, HB.out⟩
  | true =>
    rw [hc] at C h
    obtain ⟨n, rfl, h1, h6, h2r⟩ := couB_is hc
    have O := fun w' (hb : Below w.heap.size w w') => l4Order_any8 p cap xs (2 * n) w' lo hi (hin.bel hb) hl (by omega)
    have h2 : 2 * (n : Int) = ((2 * n : Nat) : Int) := by omega
    rw [← h2] at O
    have hw : IntKind.i64.wrap (2 * (n : Int)) = 2 * (n : Int) := IntWalk.i64_in _ (by omega)
    have hw2 : IntKind.i64.wrap (2 * (n : Int) - 1) = 2 * (n : Int) - 1 := IntWalk.i64_in _ (by omega)
    cases ho : orderB (2 * (n : Int)) xs with
    | false =>
      rw [ho] at O
      replace C := Lib.hid C
      replace O := Lib.hid O
      obtain ⟨m, hm⟩ : ∃ m, xs.length = m := ⟨_, rfl⟩
      rw [hm] at O ⊢
      clear hin hc hm ho h2 h
      go_enter Try.func16, Try.ntmps16
      go_wp2_with fail
      refine (C.out _).mono ?_
      rintro e w1 ⟨rfl, rfl⟩
      go_wp2_with fail
      refine (O.out _ HB.out).mono ?_
      rintro e w2 ⟨rfl, rfl⟩
      go_wp2_with fail
      go_ret2
      exact ⟨_, rfl, HO.out, HB.out⟩
    | true =>
      rw [ho] at O h
      have IN := fun w' => l1In_any b 0 (2 * (n : Int) - 1) w'
      simp only [Bool.and_self, Bool.true_and] at h
      rw [h] at IN
      replace C := Lib.hid C
      replace O := Lib.hid O
      replace IN := Lib.hid IN
      obtain ⟨m, hm⟩ : ∃ m, xs.length = m := ⟨_, rfl⟩
      rw [hm] at O ⊢
      clear hin hc hm ho h2 h
      go_enter Try.func16, Try.ntmps16
      go_wp2_with fail
      refine (C.out _).mono ?_
      rintro e w1 ⟨rfl, rfl⟩
      go_wp2_with fail
      refine (O.out _ HB.out).mono ?_
      rintro e w2 ⟨rfl, rfl⟩
      go_wp2_with fail
      refine (IN.out _).mono ?_
      rintro e w3 ⟨rfl, rfl⟩
      go_wp2_with fail
      go_ret2
      exact ⟨_, rfl, HO.out, HB.out⟩

set_option maxRecDepth 4000 in
set_option maxHeartbeats 1600000 in
theorem turnS_any (k : Int) (p : Option Addr) (cap : Nat) (xs : List Int) (b : Int) (w : World) (lo hi : Nat) (hin : Ri lo hi w p xs) (hl : xs.length ≤ 1048576) (h : trnB k xs b = true) :
    Calls Try.prog 16 #[.int .i64 k, .slice p xs.length cap, .int .i64 b] w fun e w' => ∃ v, e = .returned (.tuple #[v, .bool true]) ∧ Out w.heap.size w' v (trnR k xs b) ∧ Below w.heap.size w w' := by
  have C := fun w' => l8Couples_any k true w'
  have HO0 := Lib.hid (Out.nilLit w)
  have HB0 : Hid (Below w.heap.size w (w.alloc (.cells #[] 3))) := (Below.refl _ _).alloc (Nat.le_refl _) _
  have hR0 : trnR k xs b = ints (nrM xs.length (trG (xs.map Int.toNat) xs.length b.toNat)) := if_pos h
  rw [hR0]
  unfold trnB at h
  simp only [Bool.and_eq_true, decide_eq_true_eq] at h
  have hp := h.1
  have hp2 := hp
  unfold parB at hp2
  rw [Bool.and_eq_true] at hp2
  rw [hp2.1] at C
  obtain ⟨k, l, rfl, rfl, h1, h6, h2r, hll, hx⟩ := parB_is hp
  have h2 := h2r rfl
  obtain ⟨a, rfl⟩ : ∃ a : Nat, b = a := ⟨b.toNat, by omega⟩
  rw [ints_nat8, ints_length, Int.toNat_natCast]
  have O := fun w' (hb : Below w.heap.size w w') => l4Order_any8 p cap (ints l) (2 * k) w' lo hi (hin.bel hb) hl (by omega)
  have IN := fun w' => l1In_any (a : Int) 0 (2 * (k : Int) - 1) w'
  rw [show (decide (0 ≤ (a : Int)) && decide ((a : Int) ≤ 2 * (k : Int) - 1)) = true by simp; omega] at IN
  rw [show orderB ((2 * k : Nat) : Int) (ints l) = true by rw [show ((2 * k : Nat) : Int) = 2 * (k : Int) by omega]; exact hp2.2] at O
  obtain ⟨b, off, rfl, -, -, hbs, hc⟩ := hin.int (by rw [ints_length]; omega)
  rw [ints_length] at hc O
  have HCW := Lib.hid (fun (w' : World) (hb : Below w.heap.size w w') j (h : j < l.length) => (hb.cell (p := ⟨b, off + j, none⟩) hbs).trans ((hc j h).trans (by rw [ints_get h])))
  obtain ⟨n, hn⟩ : ∃ n, l.length = n := ⟨_, rfl⟩
  rw [hn] at hll HCW O ⊢
  have hkn : 2 * (k : Int) = (n : Int) := by omega
  have hkn2 : ((2 * k : Nat) : Int) = (n : Int) := by omega
  have ha : a < n := by omega
  have hn1 : 1 ≤ n := by omega
  have hn12 : n ≤ 12 := by omega
  have hw : IntKind.i64.wrap (n : Int) = (n : Int) := IntWalk.i64_in _ (by omega)
  have hw2 : IntKind.i64.wrap ((n : Int) - 1) = (n : Int) - 1 := IntWalk.i64_in _ (by omega)
  have hn0 : ¬ (n : Int) = 0 := by omega
  have hn00 : ¬ n = 0 := by omega
  have HG : Hid (∀ j, trG l n a j = l[(j + (n - a)) % n]?.getD 0) := fun j => rfl
  obtain ⟨G, hG⟩ : ∃ G, trG l n a = G := ⟨_, rfl⟩
  rw [hG] at HG ⊢
  obtain ⟨R, hR⟩ : ∃ R, ints (nrM n G) = R := ⟨_, rfl⟩
  rw [hR]
  replace hR := Lib.hid hR
  rw [hkn] at IN
  rw [hkn2] at O
  replace C := Lib.hid C
  replace O := Lib.hid O
  replace IN := Lib.hid IN
  clear hin hc hl hp hp2 hx hn hG hkn2 hR0 h h2r h2 hll
  go_enter Try.func16, Try.ntmps16
  go_wp2_with fail
  refine (C.out _).mono ?_
  rintro e w1 ⟨rfl, rfl⟩
  go_wp2_with fail
  refine (O.out _ HB0.out).mono ?_
  rintro e w2 ⟨rfl, rfl⟩
  go_wp2_with fail
  refine (IN.out _).mono ?_
  rintro e w3 ⟨rfl, rfl⟩
  clear C O IN
  go_wp2_with fail
  go_loopw [8, 9] (fun v i wr => ∃ j : Nat, j ≤ n ∧ i = .int .i64 (j : Int) ∧ Hid (Out w.heap.size wr v (ints (nrM j G))) ∧ Hid (Below w.heap.size w wr)) (fun _ i _ => n - (intOf i).toNat)
  case atStart => exact ⟨0, Nat.zero_le _, rfl, HO0, HB0⟩
  case round =>
    obtain ⟨j, hj, rfl, HO, HB⟩ := hrel
    clear HO0 HB0
    by_cases hlt : j < n
    · have hk1 : (j : Int) < (n : Int) := by omega
      have hm : (j + (n - a)) % n < n := Nat.mod_lt _ (by omega)
      have hwa : IntKind.i64.wrap ((j : Int) - (a : Int)) = (j : Int) - (a : Int) := IntWalk.i64_in _ (by omega)
      have hwb : IntKind.i64.wrap ((j : Int) - (a : Int) + (n : Int)) = (j : Int) - (a : Int) + (n : Int) := IntWalk.i64_in _ (by omega)
      have hrm : ((j : Int) - (a : Int) + (n : Int)).tmod (n : Int) = (((j + (n - a)) % n : Nat) : Int) := by rw [show (j : Int) - (a : Int) + (n : Int) = ((j + (n - a) : Nat) : Int) by omega]; exact (Int.ofNat_tmod _ _).symm
      have c2 := HCW.out _ HB.out _ hm
      have g2 := HG.out j
      obtain ⟨m, hmm⟩ : ∃ m, (j + (n - a)) % n = m := ⟨_, rfl⟩
      rw [hmm] at hm hrm c2 g2
      obtain ⟨y, hy⟩ : ∃ y, l[m]?.getD 0 = y := ⟨_, rfl⟩
      rw [hy] at c2 g2
      have hwm : IntKind.i64.wrap (m : Int) = (m : Int) := IntWalk.i64_in _ (by omega)
      have HT : Hid (ints (nrM (j + 1) G) = ints (nrM j G) ++ [(y : Int)]) := by
        show _ = _
        rw [nr_succ, g2]
      have hl : (ints (nrM j G)).length = j := by rw [ints_length, nr_len]
      have hblk := Lib.hid (own_block HO.out)
      have hsz := HB.out.size
      have c3 : ∀ o : Obj, (wr.alloc o).cell? ⟨b, off + m, none⟩ = some (.int .i64 (y : Int)) := fun o => (((Below.refl w.heap.size wr).alloc (by omega) o).cell (p := ⟨b, off + m, none⟩) hbs).trans c2
      clear hmm hy g2
      go_wp2_with (at_builtin; refine wpList_app rfl _ _ rfl w.heap.size _ (ints (nrM j G)) rfl (World.ownsRow.alloc HO.out (.cells #[.int .i64 (y : Int)] 3)) _ 1 1 0 (wr.heap.size + 1) [(y : Int)] rfl (lit_one (OwnArr.made wr _ [_]) _ (Nat.lt_succ_self _) (by simp)) rfl (by omega) (by simp; omega) ?_; intro v3 w3 hO3 hg3 hn3)
      have hG3 : Below w.heap.size wr w3 := ((Below.refl w.heap.size wr).alloc (by omega) _).grown hg3 (by simp; omega) hblk.out
      have HB3 := Lib.hid (HB.out.trans hG3)
      rw [← HT.out] at hO3
      have HO3 := Lib.hid hO3
      clear hO3 hg3 hn3 hG3 HB HO c3 c2
      go_wp2_with fail
      go_roundw
      case rel => exact ⟨j + 1, by omega, by go_num, HO3, HB3⟩
      case measure => simp [intOf]; omega
    · have hjn : j = n := by omega
      subst hjn
      have hk1 : ¬ (j : Int) < (j : Int) := by omega
      have hr := hR.out
      rw [hr] at HO
      go_wp2_with fail
      go_ret2
      exact ⟨_, rfl, HO.out, HB.out⟩


set_option maxRecDepth 4000 in
set_option maxHeartbeats 1000000 in
theorem turnI_bad (k : Int) (p : Option Addr) (cap : Nat) (xs : List Int) (b : Int) (w : World) (lo hi : Nat) (hin : Ri lo hi w p xs) (hl : xs.length ≤ 1048576) (h : trnB k xs b = false) :
    Calls Try.prog 17 #[.int .i64 k, .slice p xs.length cap, .int .i64 b] w fun e w' => ∃ v, e = .returned (.tuple #[v, .bool false]) ∧ Out w.heap.size w' v [] ∧ Below w.heap.size w w' := by
  have P := isParty_any k true p cap xs w lo hi hin hl
  unfold trnB at h
  cases hp : parB k true xs with
  | false =>
    rw [hp] at P
    replace P := Lib.hid P
    obtain ⟨m, hm⟩ : ∃ m, xs.length = m := ⟨_, rfl⟩
    rw [hm] at P ⊢
    clear hin hm hp hl h
    go_enter Try.func17, Try.ntmps17
    go_wp2_with fail
    refine P.out.mono ?_
    rintro e w1 ⟨rfl, hb⟩
    have hx := hb.size
    have HO := Lib.hid ((Out.nilLit w1).mono hx)
    have HB := Lib.hid (hb.alloc hx (.cells #[] 3))
    clear hb
    go_wp2_with fail
    go_ret2
    exact ⟨_, rfl, HO.out, HB.out⟩
  | true =>
    rw [hp] at P h
    simp only [Bool.true_and] at h
    obtain ⟨n, l, rfl, rfl, h1, h6, h2r, hll, hx⟩ := parB_is hp
    obtain ⟨m, hm⟩ : ∃ m, (ints l).length = m := ⟨_, rfl⟩
    have hmn : (m : Int) = 2 * (n : Int) := by rw [← hm, ints_length]; omega
    rw [hm] at P ⊢
    replace P := Lib.hid P
    clear hin hm hp hl hx hll h2r
    by_cases h0 : b < 0
    · clear h
      go_enter Try.func17, Try.ntmps17
      go_wp2_with fail
      refine P.out.mono ?_
      rintro e w1 ⟨rfl, hb⟩
      have hx := hb.size
      have HO := Lib.hid ((Out.nilLit w1).mono hx)
      have HB := Lib.hid (hb.alloc hx (.cells #[] 3))
      clear hb
      go_wp2_with fail
      go_ret2
      exact ⟨_, rfl, HO.out, HB.out⟩
    · have hge : (m : Int) ≤ b := by simp at h; omega
      clear h
      go_enter Try.func17, Try.ntmps17
      go_wp2_with fail
      refine P.out.mono ?_
      rintro e w1 ⟨rfl, hb⟩
      have hx := hb.size
      have HO := Lib.hid ((Out.nilLit w1).mono hx)
      have HB := Lib.hid (hb.alloc hx (.cells #[] 3))
      clear hb
      go_wp2_with fail
      go_ret2
      exact ⟨_, rfl, HO.out, HB.out⟩

set_option maxRecDepth 4000 in
set_option maxHeartbeats 1600000 in
theorem turnI_any (k : Int) (p : Option Addr) (cap : Nat) (xs : List Int) (b : Int) (w : World) (lo hi : Nat) (hin : Ri lo hi w p xs) (hl : xs.length ≤ 1048576) (h : trnB k xs b = true) :
    Calls Try.prog 17 #[.int .i64 k, .slice p xs.length cap, .int .i64 b] w fun e w' => ∃ v, e = .returned (.tuple #[v, .bool true]) ∧ Out w.heap.size w' v (trnR k xs b) ∧ Below w.heap.size w w' := by
  have P := isParty_any k true p cap xs w lo hi hin hl
  have hR0 : trnR k xs b = ints (nrM xs.length (trG (xs.map Int.toNat) xs.length b.toNat)) := if_pos h
  rw [hR0]
  unfold trnB at h
  simp only [Bool.and_eq_true, decide_eq_true_eq] at h
  have hp := h.1
  rw [hp] at P
  obtain ⟨k, l, rfl, rfl, h1, h6, h2r, hll, hx⟩ := parB_is hp
  obtain ⟨a, rfl⟩ : ∃ a : Nat, b = a := ⟨b.toNat, by omega⟩
  rw [ints_nat8, ints_length, Int.toNat_natCast]
  obtain ⟨b, off, rfl, -, -, hbs, hc⟩ := hin.int (by rw [ints_length]; omega)
  rw [ints_length] at hc P
  have HCW := Lib.hid (fun (w' : World) (hb : Below w.heap.size w w') j (h : j < l.length) => (hb.cell (p := ⟨b, off + j, none⟩) hbs).trans ((hc j h).trans (by rw [ints_get h])))
  have HN := Lib.hid (fun n' p' (hp' : p' < n') (ha : a < n') => trF_next l hp' ha (x := l[p']?.getD 0) rfl)
  have HZ := Lib.hid (fun n' => trF_zero l n' a)
  have HAL := Lib.hid (fun n' (h' : 0 < n') => trF_all l (b := a) h')
  obtain ⟨n, hn⟩ : ∃ n, l.length = n := ⟨_, rfl⟩
  rw [hn] at hll HCW P ⊢
  have ha : a < n := by omega
  have han : ¬ (n : Int) ≤ (a : Int) := by omega
  have ha0 : ¬ (a : Int) < 0 := by omega
  have hn1 : 1 ≤ n := by omega
  have hn12 : n ≤ 12 := by omega
  have hn0 : ¬ (n : Int) = 0 := by omega
  have hn00 : ¬ n = 0 := by omega
  obtain ⟨R, hR⟩ : ∃ R, ints (nrM n (trG l n a)) = R := ⟨_, rfl⟩
  have HR : Hid (ints (nrM n (trF l n a n)) = R) := by
    show _ = _
    rw [HAL.out n (by omega), hR]
  rw [hR]
  have hmk := @run_make_row' Try.prog 22 3 (.int .i64 0) 8 Try.underlying22 infoInt rfl .i64 .i64 n (by omega) (by omega)
  rw [madeCells_one, nr_zero] at hmk
  have hmks := Lib.hid hmk
  replace P := Lib.hid P
  clear hin hc hl hp hx hn hR hR0 h h2r hmk HAL hll
  go_enter Try.func17, Try.ntmps17
  go_wp2_with fail
  refine P.out.mono ?_
  rintro e w1 ⟨rfl, hb1⟩
  have hs1 := hb1.size
  have hmk := hmks.out w1
  obtain ⟨w2, hw2⟩ : ∃ w2, w2 = w1.alloc (.cells (iv (ints (nrM n fun _ => 0))).toArray 3) := ⟨_, rfl⟩
  rw [← hw2] at hmk
  have HO2 : Hid (OwnArr w2 w1.heap.size 3 (iv (ints (nrM n (trF l n a 0))))) := by
    show OwnArr _ _ _ _
    rw [hw2, HZ.out]; exact OwnArr.made _ _ _
  have HB2 : Hid (Below w.heap.size w w2) := by
    show Below _ _ _
    rw [hw2]; exact hb1.alloc (by omega) _
  obtain ⟨g, hg⟩ : ∃ g, w1.heap.size = g := ⟨_, rfl⟩
  rw [hg] at hs1 HO2 hmk
  have HGL := Lib.hid hs1
  clear hb1 P hw2 hmks HZ hg hs1
  go_wp2_with fail
  clear hmk
  go_loopw [31] (fun i wr => ∃ j : Nat, j ≤ n ∧ i = .int .i64 (j : Int) ∧ Hid (OwnArr wr g 3 (iv (ints (nrM n (trF l n a j))))) ∧ Hid (Below w.heap.size w wr)) (fun i _ => n - (intOf i).toNat)
  case atStart => exact ⟨0, Nat.zero_le _, rfl, HO2, HB2⟩
  case round =>
    obtain ⟨j, hj, rfl, HO, HB⟩ := hrel
    clear HO2 HB2
    by_cases hlt : j < n
    · have hk1 : (j : Int) < (n : Int) := by omega
      have hm : (j + a) % n < n := Nat.mod_lt _ (by omega)
      have hrm : ((j : Int) + (a : Int)).tmod (n : Int) = (((j + a) % n : Nat) : Int) := by rw [show (j : Int) + (a : Int) = ((j + a : Nat) : Int) by omega]; exact (Int.ofNat_tmod _ _).symm
      have hwa : IntKind.i64.wrap ((j : Int) + (a : Int)) = (j : Int) + (a : Int) := IntWalk.i64_in _ (by omega)
      have c1 := HCW.out _ HB.out j hlt
      have hs := HO.out.set ((j + a) % n) (.int .i64 ((l[j]?.getD 0 : Nat) : Int))
      rw [nr_set, HN.out n j hlt ha] at hs
      have fz := HO.out.free ((j + a) % n)
      have cz := HO.out.cell ((j + a) % n)
      rw [nr_get hm] at cz
      obtain ⟨m, hmm⟩ : ∃ m, (j + a) % n = m := ⟨_, rfl⟩
      rw [hmm] at hm hrm hs fz cz
      obtain ⟨y, hy⟩ : ∃ y, l[j]?.getD 0 = y := ⟨_, rfl⟩
      rw [hy] at c1 hs
      have hwm : IntKind.i64.wrap (m : Int) = (m : Int) := IntWalk.i64_in _ (by omega)
      have HO3 := Lib.hid hs
      have HB3 := Lib.hid (HB.out.setCell (p := ⟨g, m, none⟩) HGL.out (.int .i64 (y : Int)))
      clear hmm hy hs HO HB
      go_wp2_with fail
      go_roundw
      case rel => exact ⟨j + 1, by omega, by go_num, HO3, HB3⟩
      case measure => simp [intOf]; omega
    · have hjn : j = n := by omega
      subst hjn
      have hk1 : ¬ (j : Int) < (j : Int) := by omega
      rw [HR.out] at HO
      have HL : Hid (R.length = j) := by
        show _ = _
        rw [← HR.out, ints_length, nr_len]
      go_wp2_with fail
      go_ret2
      exact ⟨_, rfl, out_arr HO.out HGL.out HL.out (by unfold maxLen; omega), HB.out⟩

theorem turnParty_both (a0 : Int) (xs1 : List Int) (a2 : Int) : ∃ (L0 : List Int) (y1 : Bool), L0.length ≤ 1000 ∧ (∀ (q1 : Option Addr) (c1 : Nat) (w : World) (lo1 hi1 : Nat), Ri lo1 hi1 w q1 xs1 → xs1.length ≤ 1048576 → xs1.length ≤ c1 → c1 ≤ maxLen → Calls Try.prog 16 #[.int .i64 a0, .slice q1 xs1.length c1, .int .i64 a2] w fun e w' => ∃ v0, e = .returned (.tuple #[v0, .bool y1]) ∧ Out w.heap.size w' v0 L0 ∧ Below w.heap.size w w') ∧ (∀ (q1 : Option Addr) (c1 : Nat) (w : World) (lo1 hi1 : Nat), Ri lo1 hi1 w q1 xs1 → xs1.length ≤ 1048576 → xs1.length ≤ c1 → c1 ≤ maxLen → Calls Try.prog 17 #[.int .i64 a0, .slice q1 xs1.length c1, .int .i64 a2] w fun e w' => ∃ v0, e = .returned (.tuple #[v0, .bool y1]) ∧ Out w.heap.size w' v0 L0 ∧ Below w.heap.size w w') := by
  cases h : trnB a0 xs1 a2 with
  | false => exact ⟨[], false, by simp, fun q c w lo hi hi' hl _ _ => turnS_bad a0 q c xs1 a2 w lo hi hi' hl h, fun q c w lo hi hi' hl _ _ => turnI_bad a0 q c xs1 a2 w lo hi hi' hl h⟩
  | true =>
    refine ⟨trnR a0 xs1 a2, true, ?_, fun q c w lo hi hi' hl _ _ => turnS_any a0 q c xs1 a2 w lo hi hi' hl h, fun q c w lo hi hi' hl _ _ => turnI_any a0 q c xs1 a2 w lo hi hi' hl h⟩
    unfold trnR
    rw [if_pos h, ints_length, nr_len]
    unfold trnB at h
    simp only [Bool.and_eq_true] at h
    obtain ⟨n, l, rfl, rfl, h1, h6, h2r, hll, hx⟩ := parB_is h.1
    rw [ints_length]
    omega
end Go.Proofs.Yteabodhkgkffiaa
