/- Chapter 6, spec side: spec.CarsBehind. -/
import Derived.Test.YtfabannlebolfaaPlc6
import Derived.Test.YtfabannlebolfaaAhd6
import Derived.Test.YtfabannlebolfaaWith
import Derived.Deep.DeepCutAuto
namespace Go.Proofs.Ytfabannlebolfaa
open Go.RowKit

/-- from how many of the first x seats a car would park at y -/
def cntA (n : Nat) (ring : Bool) (T : Nat → Bool) (y : Nat) : Nat → Nat
  | 0 => 0
  | x + 1 => cntA n ring T y x + (if optI (ahdM n ring T x) = (y : Int) then 1 else 0)
theorem cntA_le (n : Nat) (ring : Bool) (T : Nat → Bool) (y : Nat) : ∀ x, cntA n ring T y x ≤ x
  | 0 => Nat.le_refl _
  | x + 1 => by
    show cntA n ring T y x + _ ≤ x + 1
    have := cntA_le n ring T y x
    split <;> omega
/-- the Row behind j places -/
def plT (S : Nat → Bool) (l : List Nat) : Nat → Nat → Bool
  | 0 => S
  | j + 1 => fun i => if i = l[j]?.getD 0 then true else plT S l j i
theorem plT_is (S : Nat → Bool) (l : List Nat) : ∀ j, j ≤ l.length → ∀ i, plT S l j i = (S i || decide (i ∈ l.take j))
  | 0, _, i => by simp [plT]
  | j + 1, h, i => by
    show (if i = l[j]?.getD 0 then true else plT S l j i) = _
    rw [plT_is S l j (by omega) i, List.take_succ_eq_append_getElem (by omega), List.getElem?_eq_getElem (by omega)]
    simp only [Option.getD_some, List.mem_append, List.mem_singleton]
    by_cases e : i = l[j]
    · rw [if_pos e, decide_eq_true (Or.inr e), Bool.or_true]
    · rw [if_neg e]
      congr 1
      exact decide_eq_decide.2 ⟨.inl, fun h => h.resolve_right e⟩
/-- the product of the first j numbers -/
def prdM (n : Nat) (ring : Bool) (S : Nat → Bool) (l : List Nat) : Nat → Nat
  | 0 => 1
  | j + 1 => prdM n ring S l j * cntA n ring (plT S l j) (l[j]?.getD 0) n
theorem prd_le (n : Nat) (ring : Bool) (S : Nat → Bool) (l : List Nat) : ∀ j, prdM n ring S l j ≤ n ^ j
  | 0 => Nat.le_refl _
  | j + 1 => by
    show prdM n ring S l j * _ ≤ n ^ (j + 1)
    rw [Nat.pow_succ]
    exact Nat.mul_le_mul (prd_le n ring S l j) (cntA_le n ring _ _ n)
theorem pow24 {n j : Nat} (hn : n ≤ 24) (hj : j ≤ 12) : n ^ j ≤ 36520347436056576 := by
  have h1 : n ^ j ≤ 24 ^ j := Nat.pow_le_pow_left hn j
  have h2 : 24 ^ j ≤ 24 ^ 12 := Nat.pow_le_pow_right (by omega) hj
  have h3 : 24 ^ 12 = 36520347436056576 := by decide
  omega
theorem plcB_is {s : Int} {ring : Bool} {xs cs : List Int} (h : plcB s ring xs cs = true) : ∃ (n : Nat) (S : Nat → Bool) (l : List Nat), s = n ∧ xs = ints (tk n S) ∧ cs = ints l ∧ 2 ≤ n ∧ n ≤ 24 ∧ (∀ x ∈ l, x < n) ∧ l.length ≤ 12 ∧ ∀ j, j < l.length → plT S l j (l[j]?.getD 0) = false := by
  unfold plcB at h
  rw [Bool.and_eq_true, List.all_eq_true] at h
  obtain ⟨n, S, l, rfl, rfl, rfl, h1, h2, -, h4, h5⟩ := carsB_is h.1
  refine ⟨n, S, l, rfl, rfl, rfl, h1, h2, h4, h5, ?_⟩
  intro j hj
  have := h.2 j (List.mem_range.2 (by rw [ints_length]; exact hj))
  unfold plcP at this
  rw [ints_get hj, has_tk (h4 _ (nat_mem hj)), Bool.and_eq_true] at this
  rw [plT_is S l j (by omega)]
  obtain ⟨t1, t2⟩ := this
  rw [show (ints l).take j = ints (l.take j) by unfold ints; rw [List.map_take]] at t2
  have hm : ¬ (l[j]?.getD 0) ∈ l.take j := by
    intro hmem
    have : ((l[j]?.getD 0 : Nat) : Int) ∈ ints (l.take j) := List.mem_map.2 ⟨_, hmem, rfl⟩
    simp [this] at t2
  simp at t1
  simp [hm, t1]

set_option maxRecDepth 4000 in
set_option maxHeartbeats 2000000 in
theorem behS_bad (s : Int) (ring : Bool) (p : Option Addr) (cap : Nat) (xs : List Int) (q : Option Addr) (c : Nat) (cs : List Int) (w : World) (lo hi lo2 hi2 : Nat) (hin : Ri lo hi w p xs) (hlen : xs.length ≤ 1048576) (hin2 : Ri lo2 hi2 w q cs) (hlen2 : cs.length ≤ 1048576) (hcap : cs.length ≤ c) (hcm : c ≤ maxLen) (h : plcB s ring xs cs = false) :
    Calls Try.prog 15 #[rowV s ring p xs.length cap, .slice q cs.length c] w fun e w' => e = .returned (.tuple #[.int .i64 0, .bool false]) ∧ Below w.heap.size w w' := by
  have hE := RowE.start w s ring p xs.length cap
  have CB := fun (w' : World) (h' : Below w.heap.size w w') => l6Places_any s ring p cap xs q c cs w' lo hi lo2 hi2 (hin.below h' hin.top) hlen (hin2.below h' hin2.top) hlen2 hcap hcm
  rw [h] at CB
  obtain ⟨m0, hm0⟩ : ∃ m, xs.length = m := ⟨_, rfl⟩
  obtain ⟨m, hm⟩ : ∃ m, cs.length = m := ⟨_, rfl⟩
  rw [hm0] at hE CB ⊢
  rw [hm] at CB ⊢
  have HE := Lib.hid hE
  replace CB := Lib.hid CB
  clear hin hin2 hE hm0 hm h hcap
  obtain ⟨c0, c1, c2, -⟩ := HE.out.row.three
  go_enter Try.func15, Try.ntmps15
  go_wp2_with fail
  refine (CB.out _ HE.out.bel).mono ?_
  rintro e w1 ⟨rfl, hb1⟩
  have HE1 := Lib.hid (HE.out.next hb1)
  clear hb1 c0 c1 c2 CB
  go_wp2_with fail
  go_ret2
  exact ⟨rfl, HE1.out.bel⟩

theorem row_at_box {w0 w : World} {g : Nat} {a b c : Value} (hg : w0.heap.size ≤ g) (h : OwnArr w g 28 [.int .i64 0, .bool false, .slice none 0 0]) (hb : Below w0.heap.size w0 w) :
    OwnArr (((w.setCell ⟨g, 0, none⟩ a).setCell ⟨g, 1, none⟩ b).setCell ⟨g, 2, none⟩ c) g 28 [a, b, c] ∧ Below w0.heap.size w0 (((w.setCell ⟨g, 0, none⟩ a).setCell ⟨g, 1, none⟩ b).setCell ⟨g, 2, none⟩ c) :=
  ⟨((h.set 0 a).set 1 b).set 2 c, ((hb.setCell (p := ⟨g, 0, none⟩) hg a).setCell (p := ⟨g, 1, none⟩) hg b).setCell (p := ⟨g, 2, none⟩) hg c⟩

set_option maxRecDepth 4000 in
set_option maxHeartbeats 4000000 in
theorem behS_any (n : Nat) (ring : Bool) (p : Option Addr) (cap : Nat) (S : Nat → Bool) (q : Option Addr) (c : Nat) (l : List Nat) (w : World) (lo hi lo2 hi2 : Nat) (hin : Ri lo hi w p (ints (tk n S))) (hn : n ≤ 24) (hin2 : Ri lo2 hi2 w q (ints l)) (hl : ∀ x ∈ l, x < n) (hll : l.length ≤ 12) (hcap : (ints l).length ≤ c) (hcm : c ≤ maxLen) (hc : plcB n ring (ints (tk n S)) (ints l) = true) (hfr : ∀ j, j < l.length → plT S l j (l[j]?.getD 0) = false) :
    Calls Try.prog 15 #[rowV n ring p (ints (tk n S)).length cap, .slice q (ints l).length c] w fun e w' => e = .returned (.tuple #[.int .i64 ((prdM n ring S l l.length : Nat) : Int), .bool true]) ∧ Below w.heap.size w w' := by
  have hlen := ints_tk_len n S
  have hE := RowE.start w n ring p (ints (tk n S)).length cap
  have CB := fun (w' : World) (h' : Below w.heap.size w w') => l6Places_any n ring p cap (ints (tk n S)) q c (ints l) w' lo hi lo2 hi2 (hin.below h' hin.top) (by omega) (hin2.below h' hin2.top) (by rw [ints_length]; omega) hcap hcm
  rw [hc] at CB
  have HI := Lib.hid (fun (w' : World) (h' : Below w.heap.size w w') => hin.below h' hin.top)
  have HI2 := Lib.hid (fun (w' : World) (h' : Below w.heap.size w w') => hin2.below h' hin2.top)
  have HLS := Lib.hid hl
  have HFR := Lib.hid hfr
  obtain ⟨m0, hm0⟩ : ∃ m, (ints (tk n S)).length = m := ⟨_, rfl⟩
  obtain ⟨m, hm⟩ : ∃ m, (ints l).length = m := ⟨_, rfl⟩
  have hml : l.length = m := by rw [← hm, ints_length]
  rw [hm0] at hE CB ⊢
  rw [hm] at CB hcap ⊢
  rw [hml] at hll ⊢
  have HM0 := Lib.hid hm0
  have HM := Lib.hid hml
  obtain ⟨R, hR⟩ : ∃ R, prdM n ring S l m = R := ⟨_, rfl⟩
  rw [hR]
  have HR := Lib.hid hR
  have HE := Lib.hid hE
  replace CB := Lib.hid CB
  clear hin hin2 hE hm0 hm hml hc hl hfr hR hlen
  obtain ⟨c0, c1, c2, -⟩ := HE.out.row.three
  go_enter Try.func15, Try.ntmps15
  go_wp2_with fail
  refine (CB.out _ HE.out.bel).mono ?_
  rintro e w1 ⟨rfl, hb1⟩
  have HE1 := Lib.hid (HE.out.next hb1)
  clear hb1 c0 c1 c2 CB HE
  obtain ⟨c0, c1, c2, -⟩ := HE1.out.row.three
  go_upto_region 3 with fail
  go_cut [6, 7] (fun pv gv wx => ∃ g, pv = .int .i64 1 ∧ gv = .pointer (some ⟨g, 0, none⟩) ∧ Hid (w1.heap.size ≤ g) ∧ Hid (OwnArr wx g 28 [.int .i64 (n : Int), .bool ring, .slice p m0 cap]) ∧ Hid (Below w1.heap.size w1 wx))
  case first =>
    have HZB : Hid (Below w1.heap.size w1 (w1.alloc (.cells #[.int .i64 0, .bool false, .slice none 0 0] 28))) := (Below.refl _ _).alloc (Nat.le_refl _) _
    have HZ := Lib.hid (OwnArr.made w1 28 [.int .i64 0, .bool false, .slice none 0 0])
    obtain ⟨z0, z1, z2, -⟩ := (HE1.out.next HZB.out).row.three
    obtain ⟨y0, y1, y2, x0, x1, x2⟩ := HZ.out.three
    go_region
    all_goals
      go_wp2_with fail
      go_meet
      exact ⟨_, rfl, rfl, Nat.le_refl _, OwnArr.made w1 _ [_, _, _], ((Below.refl _ _).alloc (Nat.le_refl _) _).drew⟩
  case rest =>
    obtain ⟨g, rfl, rfl, HG, HX, HB⟩ := hcut
    have HE0 := Lib.hid (HE1.out.next HB.out)
    have HG1 : Hid (w.heap.size + 1 ≤ g) := by show _ ≤ _; have h1 := HG.out; have h2 := HE1.out.row.lt; omega
    have HT0 : Hid (∃ lo' hi', Ri lo' hi' wc p (ints (tk n (plT S l 0)))) := by show ∃ _ _, _; exact ⟨_, _, HI.out _ HE0.out.bel⟩
    have HK0 : Hid ((ints (tk n (plT S l 0))).length = m0) := HM0
    clear HB HG HE1 c0 c1 c2 HM0
    go_wp2_with fail
    go_loopw [6, 8, 9, 10] (fun pv i _ _ wr => ∃ (j : Nat) (qx : Option Addr) (k cx : Nat), j ≤ m ∧ i = .int .i64 (j : Int) ∧ pv = .int .i64 ((prdM n ring S l j : Nat) : Int) ∧ Hid ((ints (tk n (plT S l j))).length = k) ∧ Hid (RowE w n ring p m0 cap wr) ∧ Hid (OwnArr wr g 28 [.int .i64 (n : Int), .bool ring, .slice qx k cx]) ∧ Hid (∃ lo' hi', Ri lo' hi' wr qx (ints (tk n (plT S l j))))) (fun _ i _ _ _ => m - (intOf i).toNat)
    case atStart => exact ⟨0, p, m0, cap, Nat.zero_le _, rfl, rfl, HK0, HE0, HX, HT0⟩
    case round =>
      obtain ⟨j, qx, k, cx, hj, rfl, rfl, HK, HE, HY, HT⟩ := hrel
      clear HE0 HX HT0 HK0
      by_cases hlt : j < m
      · have hj1 : (j : Int) < (m : Int) := by omega
        have hj0 : (0 : Int) ≤ (j : Int) := by omega
        have hjl : j < l.length := by rw [HM.out]; exact hlt
        have hps : prdM n ring S l (j + 1) = prdM n ring S l j * cntA n ring (plT S l j) (l[j]?.getD 0) n := rfl
        have hpb := Nat.le_trans (prd_le n ring S l (j + 1)) (pow24 hn (by omega : j + 1 ≤ 12))
        have hfy := HFR.out j hjl
        have hyn := HLS.out _ (nat_mem hjl)
        have hTn : plT S l (j + 1) = fun i => if i = l[j]?.getD 0 then true else plT S l j i := rfl
        have HC : Hid (∀ w', Below w.heap.size w w' → ∃ b off, q = some ⟨b, off, none⟩ ∧ w'.cell? ⟨b, off + j, none⟩ = some (.int .i64 ((l[j]?.getD 0 : Nat) : Int))) := by
          show ∀ _, _
          intro w' h'
          obtain ⟨b, off, e, -, -, -, hc⟩ := (HI2.out w' h').int (by rw [ints_length]; omega)
          have := hc j (by rw [ints_length]; exact hjl)
          rw [ints_get hjl] at this
          exact ⟨b, off, e, this⟩
        obtain ⟨y, hy⟩ : ∃ y, l[j]?.getD 0 = y := ⟨_, rfl⟩
        rw [hy] at HC hps hfy hyn hTn
        obtain ⟨b, off, rfl, -⟩ := HC.out wr HE.out.bel
        have HC2 : Hid (∀ w', Below w.heap.size w w' → w'.cell? ⟨b, off + j, none⟩ = some (.int .i64 (y : Int))) := by
          show ∀ _, _
          intro w' h'
          obtain ⟨b', off', e, h⟩ := HC.out w' h'
          cases e
          exact h
        obtain ⟨T, hTe⟩ : ∃ T, plT S l j = T := ⟨_, rfl⟩
        rw [hTe] at HT HK hps hfy hTn
        have HPS := Lib.hid hps
        have HTN := Lib.hid hTn
        have HFY := Lib.hid hfy
        have hkn : k ≤ 24 := by have := HK.out; have := ints_tk_len n T; omega
        clear HC hy hTe hTn hps hfy
        go_wp2_with fail
        go_loopw [9, 10] (fun mv xv wr => ∃ x : Nat, x ≤ n ∧ xv = .int .i64 (x : Int) ∧ mv = .int .i64 ((cntA n ring T y x : Nat) : Int) ∧ Hid (RowE w n ring p m0 cap wr) ∧ Hid (OwnArr wr g 28 [.int .i64 (n : Int), .bool ring, .slice qx k cx]) ∧ Hid (∃ lo' hi', Ri lo' hi' wr qx (ints (tk n T)))) (fun _ xv _ => n - (intOf xv).toNat)
        case atStart => exact ⟨0, Nat.zero_le _, rfl, rfl, HE, HY, HT⟩
        case round =>
          obtain ⟨x, hx, rfl, rfl, HE2, HY2, HT2⟩ := hrel
          clear HE HY HT
          obtain ⟨d0, d1, d2, -⟩ := HE2.out.row.three
          obtain ⟨e0, e1, e2, -⟩ := HY2.out.three
          by_cases hxn : x < n
          · have hx1 : (x : Int) < (n : Int) := by omega
            have hx0 : (0 : Int) ≤ (x : Int) := by omega
            obtain ⟨lo', hi', hT3⟩ := HT2.out
            have AH := l6Ahead_any n ring qx cx T x wr.drew lo' hi' (hT3.bel ((Below.refl _ wr).drew)) hn hxn
            rw [HK.out] at AH
            have h0 := HC2.out wr.drew (HE2.out.bel.drew)
            have hst : cntA n ring T y (x + 1) = cntA n ring T y x + (if optI (ahdM n ring T x) = (y : Int) then 1 else 0) := rfl
            have hcl := cntA_le n ring T y x
            obtain ⟨z, hz⟩ : ∃ z, optI (ahdM n ring T x) = z := ⟨_, rfl⟩
            rw [hz] at AH hst
            obtain ⟨cn, hcn⟩ : ∃ cn, cntA n ring T y x = cn := ⟨_, rfl⟩
            rw [hcn] at hst hcl ⊢
            replace AH := Lib.hid AH
            have hwc : IntKind.i64.wrap ((cn : Int) + 1) = (cn : Int) + 1 := IntWalk.i64_in _ (by omega)
            have hwx : IntKind.i64.wrap ((x : Int) + 1) = (x : Int) + 1 := IntWalk.i64_in _ (by omega)
            have HD := Lib.hid ((Below.refl wr.heap.size wr).drew)
            clear hz hcn hT3
            by_cases hzy : z = (y : Int)
            · rw [if_pos hzy] at hst
              have HST := Lib.hid hst
              subst hzy
              clear hst
              go_wp2_with fail
              go_region_held3 (fun w' => w'.cell? ⟨g, 0, none⟩ = some (.int .i64 n) ∧ w'.cell? ⟨g, 1, none⟩ = some (.bool ring) ∧ w'.cell? ⟨g, 2, none⟩ = some (.slice qx k cx) ∧ w'.cell? ⟨b, off + j, none⟩ = some (.int .i64 (y : Int))) ((first | with_reducible exact ⟨e0, e1, e2, h0⟩ | with_reducible exact ⟨f0, f1, f2, h1⟩ | go_keep)) ((go_at_call 37; refine AH.out.mono ?_; rintro e w5 ⟨rfl, hb5⟩; have hb6 : Below wr.heap.size wr w5 := HD.out.trans hb5; have HE3 := Lib.hid (HE2.out.next hb6); have HY3 := Lib.hid (HY2.out.below hb6 HY2.out.lt); have HT3 : Hid (∃ lo' hi', Ri lo' hi' w5 qx (ints (tk n T))) := (by show ∃ _ _, _; obtain ⟨l1, h1, h⟩ := HT2.out; exact ⟨l1, h1, h.bel hb6⟩); have h1 := HC2.out w5 HE3.out.bel; obtain ⟨f0, f1, f2, -⟩ := HY3.out.three; clear hb5 hb6))
              all_goals
                clear HD HE2 HY2 HT2 AH d0 d1 d2 e0 e1 e2 h0
                go_wp2_with fail
                go_roundw
                case rel => exact ⟨x + 1, by omega, by go_num, by rw [HST.out]; push_cast; rfl, HE3, HY3, HT3⟩
                case measure => simp [intOf]; omega
            · rw [if_neg hzy, Nat.add_zero] at hst
              have HST := Lib.hid hst
              clear hst
              go_wp2_with fail
              go_region_held3 (fun w' => w'.cell? ⟨g, 0, none⟩ = some (.int .i64 n) ∧ w'.cell? ⟨g, 1, none⟩ = some (.bool ring) ∧ w'.cell? ⟨g, 2, none⟩ = some (.slice qx k cx) ∧ w'.cell? ⟨b, off + j, none⟩ = some (.int .i64 (y : Int))) ((first | with_reducible exact ⟨e0, e1, e2, h0⟩ | with_reducible exact ⟨f0, f1, f2, h1⟩ | go_keep)) ((go_at_call 37; refine AH.out.mono ?_; rintro e w5 ⟨rfl, hb5⟩; have hb6 : Below wr.heap.size wr w5 := HD.out.trans hb5; have HE3 := Lib.hid (HE2.out.next hb6); have HY3 := Lib.hid (HY2.out.below hb6 HY2.out.lt); have HT3 : Hid (∃ lo' hi', Ri lo' hi' w5 qx (ints (tk n T))) := (by show ∃ _ _, _; obtain ⟨l1, h1, h⟩ := HT2.out; exact ⟨l1, h1, h.bel hb6⟩); have h1 := HC2.out w5 HE3.out.bel; obtain ⟨f0, f1, f2, -⟩ := HY3.out.three; clear hb5 hb6))
              all_goals
                clear HD HE2 HY2 HT2 AH d0 d1 d2 e0 e1 e2 h0
                go_wp2_with fail
                go_roundw
                case rel => exact ⟨x + 1, by omega, by go_num, by rw [HST.out]; rfl, HE3, HY3, HT3⟩
                case measure => simp [intOf]; omega
          · have hxe : x = n := by omega
            subst hxe
            have hx1 : ¬ (x : Int) < (x : Int) := by omega
            have hps := HPS.out
            obtain ⟨P, hP⟩ : ∃ P, prdM x ring S l j = P := ⟨_, rfl⟩
            obtain ⟨Z, hZ⟩ : ∃ Z, prdM x ring S l (j + 1) = Z := ⟨_, rfl⟩
            obtain ⟨C, hC⟩ : ∃ C, cntA x ring T y x = C := ⟨_, rfl⟩
            rw [hP, hZ, hC] at hps
            rw [hZ] at hpb
            rw [hP, hC]
            have hmz : (P : Int) * (C : Int) = (Z : Int) := by rw [hps]; push_cast; rfl
            have hwz : IntKind.i64.wrap (Z : Int) = (Z : Int) := IntWalk.i64_in _ (by omega)
            have HZ := Lib.hid hZ
            obtain ⟨lo', hi', hT3⟩ := HT2.out
            have h0 := HC2.out wr HE2.out.bel
            have WA := with_any x ring qx cx (ints (tk x T)) y wr.drew lo' hi' (hT3.bel ((Below.refl _ wr).drew)) (by rw [HK.out]; omega) (by
              rw [mem_ints_tk]
              rintro ⟨i, h1, _, h3⟩
              have : i = y := by omega
              rw [this, HFY.out] at h3; cases h3)
            have hts : putM (y : Int) (ints (tk x T)) = ints (tk x (plT S l (j + 1))) := by
              rw [take_spec hyn HFY.out, HTN.out]
              congr 1
              refine tk_congr fun i _ => ?_
              by_cases e : i = y
              · simp [e]
              · simp [e]
            have hlen1 := putM_length (y : Int) (ints (tk x T))
            rw [hts, HK.out] at hlen1
            rw [hts, HK.out] at WA
            replace WA := Lib.hid WA
            have HK4 := Lib.hid hlen1
            clear hts hlen1 hT3 hP hZ hC hps
            go_wp2_with fail
            go_still_tail 5, (by kernel_rfl)
            change wpList _ _ _ _ _ wr.drew
            go_wp2_with fail
            refine WA.out.mono ?_
            rintro e w4 ⟨u, rfl, hT4, hb4⟩
            have hb5 : Below wr.heap.size wr w4 := ((Below.refl _ wr).drew).trans hb4
            have HE4 := Lib.hid (HE2.out.next hb5)
            have HY4 := Lib.hid (HY2.out.below hb5 HY2.out.lt)
            obtain ⟨q4, c4, rfl, -⟩ := hT4.rd
            rw [HK4.out] at hT4 ⊢
            have hT5 := (hT4.boxed HY4.out (.int .i64 (x : Int)) (.bool ring) (.slice q4 (k + 1) c4)).rd
            have HT5 : Hid (∃ lo' hi', Ri lo' hi' (((w4.setCell ⟨g, 0, none⟩ (.int .i64 (x : Int))).setCell ⟨g, 1, none⟩ (.bool ring)).setCell ⟨g, 2, none⟩ (.slice q4 (k + 1) c4)) q4 (ints (tk x (plT S l (j + 1))))) := by
              show ∃ _ _, _
              obtain ⟨q', c', e, -, -, h, -⟩ := hT5
              simp only [Value.slice.injEq] at e
              obtain ⟨rfl, -, -⟩ := e
              exact ⟨_, _, h⟩
            have HY5 := Lib.hid (((HY4.out.set 0 (.int .i64 (x : Int))).set 1 (.bool ring)).set 2 (.slice q4 (k + 1) c4))
            have HE5 := Lib.hid (HE4.out.next1 ((((Below.refl (w.heap.size + 1) w4).setCell (p := ⟨g, 0, none⟩) HG1.out (.int .i64 (x : Int))).setCell (p := ⟨g, 1, none⟩) HG1.out (.bool ring)).setCell (p := ⟨g, 2, none⟩) HG1.out (.slice q4 (k + 1) c4)))
            clear d0 d1 d2 e0 e1 e2 h0
            obtain ⟨e0, e1, e2, y0, y1, y2⟩ := HY4.out.three
            clear hT4 hT5 hb4 hb5 WA HE2 HY2 HT2 HE4 HY4
            go_wp2_with fail
            go_roundw
            case rel => exact ⟨j + 1, q4, k + 1, c4, by omega, by go_num, by rw [HZ.out], HK4, HE5, HY5, HT5⟩
            case measure => simp [intOf]; omega
      · have hjm : j = m := by omega
        subst hjm
        have hj1 : ¬ (j : Int) < (j : Int) := by omega
        have hr := HR.out
        obtain ⟨z, hz⟩ : ∃ z, prdM n ring S l j = z := ⟨_, rfl⟩
        rw [hz] at hr ⊢
        subst hr
        clear HR hz
        go_wp2_with fail
        go_ret2
        exact ⟨rfl, HE.out.bel⟩
end Go.Proofs.Ytfabannlebolfaa
