/- Chapter 7: CallGroups on both sides. -/
import Derived.Test.YtkbpfjhikabbmaaSSto
import Derived.Test.YtkbpfjhikabbmaaApp
import Derived.Test.YtkbpfjhikabbmaaEnt7
import Derived.Test.YtkbpfjhikabbmaaFrt7
import Derived.Test.YtkbpfjhikabbmaaPlnI7
import Derived.Test.YtkbpfjhikabbmaaIsOrd
namespace Go.Proofs.Ytkbpfjhikabbmaa
open Go.RowKit

theorem run_appL (w : World) (ty : TypeId) (B : Nat) (v : Value) (xs : List Int) (hown : Out B w v xs) (p : Option Addr) (m c lo hi : Nat) (ys : List Int) (hy : Ri lo hi w p ys) (hm : ys.length = m) (h63 : xs.length + m ≤ 3000000) (hbase : B ≤ w.heap.size) :
    ∃ v' w', (Builtin.append_ #[33, 33] ty #[v, .slice p m c]).run Try.prog w = .ok v' w' ∧ Out B w' v' (xs ++ ys) ∧ w.grownBy w' v.ownBlock ∧ (v' = .slice none 0 0 ↔ v = .slice none 0 0 ∧ m = 0) := by
  obtain ⟨i0, hi, hz0, hz1, hz2⟩ := info_parts infoInt
  have key : ∀ ad, p = some ad → (∀ j u, (iv ys)[j]? = some u → w.cell? (ad.add j) = some u) → ∃ v' w', (Builtin.append_ #[33, 33] ty #[v, .slice p m c]).run Try.prog w = .ok v' w' ∧ Out B w' v' (xs ++ ys) ∧ w.grownBy w' v.ownBlock ∧ (v' = .slice none 0 0 ↔ v = .slice none 0 0 ∧ m = 0) := by
    intro ad e hc
    subst e
    obtain ⟨v', w', hr, h2, h3, h4⟩ := run_append_own (P := Try.prog) w B 33 ty 3 i0 (.int .i64 0) 1 8 Try.underlying33 hi hz0 hz1 hz2 rfl (by decide) v xs.length (iv xs) hown ad m c (iv ys) (by rw [iv_length]; omega) hc (iv_one ys) (by unfold maxLen; omega) (by omega) hbase
    refine ⟨v', w', hr, ?_, h3, h4⟩
    show w'.ownsRow B _ 1 v' (xs ++ ys).length (iv (xs ++ ys))
    rw [iv_append, List.length_append, hm]; exact h2
  by_cases h0 : 0 < ys.length
  · obtain ⟨ad, e, hc⟩ := rd_news hy h0
    exact key ad e hc
  · have hn : ys = [] := List.length_eq_zero_iff.1 (by omega)
    subst hn
    have hm0 : m = 0 := by simpa using hm.symm
    subst hm0
    cases p with
    | some ad => exact key ad rfl (fun j u hu => by simp [iv] at hu)
    | none =>
      refine ⟨v, w, ?_, by simpa using hown, ⟨rfl, rfl, rfl, Nat.le_refl _, fun _ _ _ => rfl⟩, by simp⟩
      rcases hown.2 with ⟨rfl, -⟩ | ⟨g, cap, cur, rfl, -, -, hn, -⟩
      · simp [Builtin.append_, run_underlying Try.underlying33, sizeOf, typeInfo, hi, Builtin.lenOf, Builtin.firstCells]
      · simp [Builtin.append_, run_underlying Try.underlying33, sizeOf, typeInfo, hi, Builtin.lenOf, Builtin.firstCells, hn, storeCells]
theorem wp_appL {o : Oper} {a : Act} {w : World} {K : Act → World → Prop} {Q : Exit → Act → World → Prop} (s x : Operand)
    (ho : o.op = .call { callee := .builtin .append, args := #[s, x], argTypes := #[33, 33] })
    (B : Nat) (v : Value) (xs : List Int) (hs : a.eval s = v) (hown : Out B w v xs) (p : Option Addr) (m c lo hi : Nat) (ys : List Int) (hx : a.eval x = .slice p m c) (hy : Ri lo hi w p ys) (hm : ys.length = m) (h63 : xs.length + m ≤ 3000000) (hbase : B ≤ w.heap.size)
    (h : ∀ v' w', Out B w' v' (xs ++ ys) → w.grownBy w' v.ownBlock → (v' = .slice none 0 0 ↔ v = .slice none 0 0 ∧ m = 0) → K (a.put o.dst v') w') : o.wp Try.prog a w K Q := by
  obtain ⟨v', w', hr, h2, h3, h4⟩ := run_appL w o.type B v xs hown p m c lo hi ys hy hm h63 hbase
  unfold Oper.wp execOp
  simp only [ho, resolve, invoke, builtin, Sem.run_bind, Sem.run_pure, Result.andThen_ok, List.map_toArray, List.map_cons, List.map_nil, hs, hx, hr]
  exact h v' w' h2 h3 h4
theorem wpList_appL {ops : Array Oper} {rest : List Oper} {o : Oper} {a : Act} {w : World} {Q : Exit → Act → World → Prop} (hgd : o.guard = none) (s x : Operand)
    (ho : o.op = .call { callee := .builtin .append, args := #[s, x], argTypes := #[33, 33] })
    (B : Nat) (v : Value) (xs : List Int) (hs : a.eval s = v) (hown : Out B w v xs) (p : Option Addr) (m c lo hi : Nat) (ys : List Int) (hx : a.eval x = .slice p m c) (hy : Ri lo hi w p ys) (hm : ys.length = m) (h63 : xs.length + m ≤ 3000000) (hbase : B ≤ w.heap.size)
    (h : ∀ v' w', Out B w' v' (xs ++ ys) → w.grownBy w' v.ownBlock → (v' = .slice none 0 0 ↔ v = .slice none 0 0 ∧ m = 0) → wpList Try.prog ops Q rest (a.put o.dst v') w') : wpList Try.prog ops Q (o :: rest) a w :=
  wpList_plain hgd fun _ hK => wp_appL s x ho B v xs hs hown p m c lo hi ys hx hy hm h63 hbase fun v' w' h2 h3 h4 => hK _ _ (h v' w' h2 h3 h4)

theorem flat_take_succ {Ls : List (List Int)} {j : Nat} {x : List Int} (h : Ls[j]? = some x) : (Ls.take (j + 1)).flatten = (Ls.take j).flatten ++ x := by
  have hj := (List.getElem?_eq_some_iff.1 h).1
  rw [List.take_succ_eq_append_getElem hj, List.flatten_append]
  rw [List.getElem?_eq_getElem hj] at h
  simp only [Option.some.injEq] at h
  rw [h]; simp
theorem flat_take_le (Ls : List (List Int)) (j : Nat) : (Ls.take j).flatten.length ≤ Ls.flatten.length := by
  conv => rhs; rw [← List.take_append_drop j Ls]
  rw [List.flatten_append, List.length_append]; omega
theorem orderB_len {s : Int} {xs : List Int} (h : ¬ (xs.length : Int) = s) : orderB s xs = false := by simp [orderB, h]
/-- groups that are all rows once -/
def cgB (n : Int) (Ls : List (List Int)) : Bool := rowsB n && orderB n Ls.flatten
def cgR (n : Int) (Ls : List (List Int)) : List Int := if cgB n Ls = true then Ls.flatten else []

set_option maxRecDepth 4000 in
set_option maxHeartbeats 2000000 in
theorem callGroupsS_any (n : Int) (p : Option Addr) (cap : Nat) (Ls : List (List Int)) (w : World) (lo hi : Nat) (hin : RdS lo hi w p Ls) (hl : Ls.length + sumS (lens Ls) ≤ 1048576) :
    Calls Try.prog 17 #[.int .i64 n, .slice p Ls.length cap] w fun e w' => ∃ v, e = .returned (.tuple #[v, .bool (cgB n Ls)]) ∧ Out w.heap.size w' v (cgR n Ls) ∧ Below w.heap.size w w' := by
  have IN := fun w' => rowsIn_any n w'
  have HO0 : Hid (Out w.heap.size (w.alloc (.cells #[] 3)) (.slice (some ⟨w.heap.size, 0, none⟩) 0 0) (Ls.take 0).flatten) := Out.nilLit w
  have HB0 : Hid (Below w.heap.size w (w.alloc (.cells #[] 3))) := (Below.refl _ _).alloc (Nat.le_refl _) _
  have H1 := Lib.hid hin
  have hJ : Ls.flatten.length ≤ 1048576 := by rw [lens_flat]; omega
  have HJ := Lib.hid (fun j => Nat.le_trans (flat_take_le Ls j) hJ)
  have HS := Lib.hid (fun j x (h : Ls[j]? = some x) => flat_take_succ h)
  have HALL : Hid ((Ls.take Ls.length).flatten = Ls.flatten) := by show _ = _; rw [List.take_length]
  obtain ⟨R, hR⟩ : ∃ R, cgR n Ls = R := ⟨_, rfl⟩
  obtain ⟨B, hB⟩ : ∃ B, cgB n Ls = B := ⟨_, rfl⟩
  have HR : Hid (R = if B = true then Ls.flatten else []) := by show _ = _; rw [← hR, ← hB]; rfl
  have HBB : Hid (B = (rowsB n && orderB n Ls.flatten)) := by show _ = _; rw [← hB]; rfl
  rw [hR, hB]
  have hm0 : Ls.length ≤ 1048576 := by omega
  obtain ⟨m, hm⟩ : ∃ m, Ls.length = m := ⟨_, rfl⟩
  have HN := Lib.hid hm
  rw [hm] at HALL hm0 ⊢
  clear hin hl hR hB hm hJ
  go_enter Try.func17, Try.ntmps17
  go_wp2_with fail
  go_loopw [6, 7] (fun v i wr => ∃ j : Nat, j ≤ m ∧ i = .int .i64 (j : Int) ∧ Hid (Out w.heap.size wr v (Ls.take j).flatten) ∧ Hid (Below w.heap.size w wr)) (fun _ i _ => m - (intOf i).toNat)
  case atStart => exact ⟨0, Nat.zero_le _, rfl, HO0, HB0⟩
  case round =>
    obtain ⟨j, hj, rfl, HO, HB⟩ := hrel
    clear HO0 HB0
    by_cases hlt : j < m
    · have hji : (j : Int) < (m : Int) := by omega
      have hwj : IntKind.i64.wrap ((j : Int) + 1) = (j : Int) + 1 := IntWalk.i64_in _ (by omega)
      obtain ⟨b, off, q, c, x, hx, rfl, c1, r1⟩ := (H1.out.bel HB.out).at (i := j) (by rw [HN.out]; exact hlt)
      have HT := Lib.hid (HS.out j x hx)
      have hlj := HJ.out (j + 1)
      rw [HT.out, List.length_append] at hlj
      obtain ⟨k, hk⟩ : ∃ k, x.length = k := ⟨_, rfl⟩
      rw [hk] at c1 hlj
      have HK := Lib.hid hk
      have HRX := Lib.hid r1
      have hblk := Lib.hid (own_block HO.out)
      have hsz := HB.out.size
      clear hx r1 hk
      go_wp2_with (at_builtin; refine wpList_appL rfl _ _ rfl w.heap.size _ _ rfl HO.out q k c _ _ x rfl HRX.out HK.out (by omega) hsz ?_; intro v3 w3 hO3 hg3 hn3)
      have hG3 : Below w.heap.size wr w3 := (Below.refl w.heap.size wr).grown hg3 (by omega) hblk.out
      have HB3 := Lib.hid (HB.out.trans hG3)
      rw [← HT.out] at hO3
      have HO3 := Lib.hid hO3
      clear hO3 hg3 hn3 hG3 HB HO c1 hblk
      go_wp2_with fail
      go_roundw
      case rel => exact ⟨j + 1, by omega, by go_num, HO3, HB3⟩
      case measure => simp [intOf]; omega
    · have hjm : j = m := by omega
      subst hjm
      have hno : ¬ (j : Int) < (j : Int) := by omega
      rw [HALL.out] at HO
      obtain ⟨p3, c3, rfl, h31, h32, hR3, -⟩ := Out.rd HO.out
      have hsz := HB.out.size
      have hlen3 : Ls.flatten.length ≤ 1048576 := by have := HJ.out j; rw [HALL.out] at this; exact this
      cases hg : rowsB n with
      | false =>
        rw [hg] at IN
        replace IN := Lib.hid IN
        have hb := HBB.out
        rw [hg, Bool.false_and] at hb
        subst hb
        have hr := HR.out
        rw [if_neg (by simp)] at hr
        subst hr
        have HOZ := Lib.hid ((Out.nilLit wr).mono hsz)
        have HBZ := Lib.hid (HB.out.alloc hsz (.cells #[] 3))
        obtain ⟨k, hk⟩ : ∃ k, Ls.flatten.length = k := ⟨_, rfl⟩
        rw [hk]
        clear hk hR3 h31 h32 hlen3 HO hg
        go_wp2_with fail
        refine (IN.out _).mono ?_
        rintro e w4 ⟨rfl, rfl⟩
        go_wp2_with fail
        go_ret2
        exact ⟨_, rfl, HOZ.out, HBZ.out⟩
      | true =>
        rw [hg] at IN
        replace IN := Lib.hid IN
        obtain ⟨a, rfl, ha1, ha10⟩ := rowsB_is hg
        have O := l7Order_any a p3 c3 Ls.flatten wr _ _ hR3 h31 h32 hlen3 (by omega)
        have hb := HBB.out
        rw [hg, Bool.true_and] at hb
        rw [← hb] at O
        obtain ⟨k, hk⟩ : ∃ k, Ls.flatten.length = k := ⟨_, rfl⟩
        rw [hk] at O HO ⊢
        replace O := Lib.hid O
        clear hk hR3 h31 h32 hlen3 hg hb
        cases B with
        | false =>
          have hr := HR.out
          rw [if_neg (by simp)] at hr
          subst hr
          go_wp2_with fail
          refine (IN.out _).mono ?_
          rintro e w4 ⟨rfl, rfl⟩
          go_wp2_with fail
          refine O.out.mono ?_
          rintro e w5 ⟨rfl, hb5⟩
          have hsz5 := hb5.size
          have HB5 := Lib.hid (HB.out.trans (hb5.mono hsz))
          have HOZ := Lib.hid ((Out.nilLit w5).mono HB5.out.size)
          have HBZ := Lib.hid (HB5.out.alloc HB5.out.size (.cells #[] 3))
          clear hb5
          go_wp2_with fail
          go_ret2
          exact ⟨_, rfl, HOZ.out, HBZ.out⟩
        | true =>
          have hr := HR.out
          rw [if_pos rfl] at hr
          have HRR := Lib.hid hr
          clear hr
          go_wp2_with fail
          refine (IN.out _).mono ?_
          rintro e w4 ⟨rfl, rfl⟩
          go_wp2_with fail
          refine O.out.mono ?_
          rintro e w5 ⟨rfl, hb5⟩
          have HB5 := Lib.hid (HB.out.trans (hb5.mono hsz))
          have HO5 := Lib.hid (Out.below HO.out hb5)
          clear hb5
          go_wp2_with fail
          go_ret2
          exact ⟨_, rfl, by rw [HRR.out]; exact HO5.out, HB5.out⟩

set_option maxRecDepth 4000 in
set_option maxHeartbeats 2000000 in
theorem callGroupsI_any (n : Int) (p : Option Addr) (cap : Nat) (Ls : List (List Int)) (w : World) (lo hi : Nat) (hin : RdS lo hi w p Ls) (hl : Ls.length + sumS (lens Ls) ≤ 1048576) :
    Calls Try.prog 19 #[.int .i64 n, .slice p Ls.length cap] w fun e w' => ∃ v, e = .returned (.tuple #[v, .bool (cgB n Ls)]) ∧ Out w.heap.size w' v (cgR n Ls) ∧ Below w.heap.size w w' := by
  have IN := fun w' => hasPlane_any n w'
  have HO0 : Hid (Out w.heap.size (w.alloc (.cells #[] 3)) (.slice (some ⟨w.heap.size, 0, none⟩) 0 0) (Ls.take 0).flatten) := Out.nilLit w
  have HB0 : Hid (Below w.heap.size w (w.alloc (.cells #[] 3))) := (Below.refl _ _).alloc (Nat.le_refl _) _
  have hJ : Ls.flatten.length ≤ 1048576 := by rw [lens_flat]; omega
  cases hg : rowsB n with
  | false =>
    have h1 : cgB n Ls = false := by unfold cgB; rw [hg]; rfl
    have h2 : cgR n Ls = [] := by unfold cgR; rw [h1]; rfl
    rw [h1, h2]
    rw [hg] at IN
    replace IN := Lib.hid IN
    have HOZ := Lib.hid (Out.nilLit w)
    obtain ⟨m, hm⟩ : ∃ m, Ls.length = m := ⟨_, rfl⟩
    rw [hm]
    clear hin hl hg h1 h2 hm hJ HO0
    go_enter Try.func19, Try.ntmps19
    go_wp2_with fail
    refine (IN.out _).mono ?_
    rintro e w4 ⟨rfl, rfl⟩
    go_wp2_with fail
    go_ret2
    exact ⟨_, rfl, HOZ.out, HB0.out⟩
  | true =>
    rw [hg] at IN
    replace IN := Lib.hid IN
    obtain ⟨a, rfl, ha1, ha10⟩ := rowsB_is hg
    have H1 := Lib.hid hin
    have HJ := Lib.hid (fun j => flat_take_le Ls j)
    have HS := Lib.hid (fun j x (h : Ls[j]? = some x) => flat_take_succ h)
    have HALL : Hid ((Ls.take Ls.length).flatten = Ls.flatten) := by show _ = _; rw [List.take_length]
    obtain ⟨R, hR⟩ : ∃ R, cgR (a : Int) Ls = R := ⟨_, rfl⟩
    obtain ⟨B, hB⟩ : ∃ B, cgB (a : Int) Ls = B := ⟨_, rfl⟩
    have HR : Hid (R = if B = true then Ls.flatten else []) := by show _ = _; rw [← hR, ← hB]; rfl
    have HBB : Hid (B = orderB a Ls.flatten) := by show _ = _; rw [← hB]; unfold cgB; rw [hg]; rfl
    rw [hR, hB]
    have hm0 : Ls.length ≤ 1048576 := by omega
    obtain ⟨m, hm⟩ : ∃ m, Ls.length = m := ⟨_, rfl⟩
    have HN := Lib.hid hm
    have HJJ := Lib.hid hJ
    rw [hm] at HALL hm0 ⊢
    clear hin hl hR hB hm hJ hg
    go_enter Try.func19, Try.ntmps19
    go_wp2_with fail
    refine (IN.out _).mono ?_
    rintro e w4 ⟨rfl, rfl⟩
    clear IN
    go_wp2_with fail
    go_loopw [6, 16] (fun v i wr => ∃ (j : Nat) (q : Option Addr) (c k : Nat), j ≤ m ∧ i = .int .i64 (j : Int) ∧ v = .slice q k c ∧ k ≤ a ∧ Hid ((Ls.take j).flatten.length = k) ∧ Hid (Out w.heap.size wr (.slice q k c) (Ls.take j).flatten) ∧ Hid (Below w.heap.size w wr)) (fun _ i _ => m - (intOf i).toNat)
    case atStart => exact ⟨0, some ⟨w.heap.size, 0, none⟩, 0, 0, Nat.zero_le _, rfl, rfl, Nat.zero_le _, rfl, HO0, HB0⟩
    case round =>
      obtain ⟨j, q0, c0, k0, hj, rfl, rfl, hk0, HK0, HO, HB⟩ := hrel
      clear HO0 HB0
      by_cases hlt : j < m
      · have hji : (j : Int) < (m : Int) := by omega
        have hwj : IntKind.i64.wrap ((j : Int) + 1) = (j : Int) + 1 := IntWalk.i64_in _ (by omega)
        have hwa : IntKind.i64.wrap ((a : Int) - (k0 : Int)) = (a : Int) - (k0 : Int) := IntWalk.i64_in _ (by omega)
        obtain ⟨b, off, q, c, x, hx, rfl, c1, r1⟩ := (H1.out.bel HB.out).at (i := j) (by rw [HN.out]; exact hlt)
        have HT := Lib.hid (HS.out j x hx)
        have hlj := HJ.out (j + 1)
        rw [HT.out, List.length_append, HK0.out] at hlj
        obtain ⟨k, hk⟩ : ∃ k, x.length = k := ⟨_, rfl⟩
        rw [hk] at c1 hlj
        have HK := Lib.hid hk
        have HRX := Lib.hid r1
        have hblk := Lib.hid (own_block HO.out)
        have hsz := HB.out.size
        clear hx r1 hk
        by_cases hbig : (a : Int) - (k0 : Int) < (k : Int)
        · have hb := HBB.out
          rw [orderB_len (by omega)] at hb
          subst hb
          have hr := HR.out
          rw [if_neg (by simp)] at hr
          subst hr
          have HOZ := Lib.hid ((Out.nilLit wr).mono hsz)
          have HBZ := Lib.hid (HB.out.alloc hsz (.cells #[] 3))
          clear hblk hlj
          go_wp2_with fail
          go_ret2
          exact ⟨_, rfl, HOZ.out, HBZ.out⟩
        · have hkk : k0 + k ≤ a := by omega
          have hl3 : (Ls.take j).flatten.length + k ≤ 3000000 := by rw [HK0.out]; omega
          clear hlj
          go_wp2_with (at_builtin; refine wpList_appL rfl _ _ rfl w.heap.size _ _ rfl HO.out q k c _ _ x rfl HRX.out HK.out hl3 hsz ?_; intro v3 w3 hO3 hg3 hn3)
          have hG3 : Below w.heap.size wr w3 := (Below.refl w.heap.size wr).grown hg3 (by omega) hblk.out
          have HB3 := Lib.hid (HB.out.trans hG3)
          rw [← HT.out] at hO3
          obtain ⟨p3, c3, e3, -, -, -, -⟩ := Out.rd hO3
          have HK3 : Hid ((Ls.take (j + 1)).flatten.length = k0 + k) := by show _ = _; rw [HT.out, List.length_append, HK0.out, HK.out]
          rw [HK3.out] at e3
          rw [e3] at hO3
          rw [e3]
          have HO3 := Lib.hid hO3
          clear hO3 hg3 hn3 hG3 HB HO c1 hblk e3
          go_wp2_with fail
          go_roundw
          case rel => exact ⟨j + 1, p3, c3, k0 + k, by omega, by go_num, rfl, hkk, HK3, HO3, HB3⟩
          case measure => simp [intOf]; omega
      · have hjm : j = m := by omega
        subst hjm
        have hno : ¬ (j : Int) < (j : Int) := by omega
        rw [HALL.out] at HO HK0
        have hsz := HB.out.size
        obtain ⟨p3, c3, e3, h31, h32, hR3, -⟩ := Out.rd HO.out
        simp only [Value.slice.injEq] at e3
        obtain ⟨rfl, -, rfl⟩ := e3
        have O := isOrder_any q0 c0 Ls.flatten (a : Int) wr _ _ hR3 (by omega) (by omega) (by rw [HK0.out]; omega)
        rw [← HBB.out, HK0.out] at O
        replace O := Lib.hid O
        clear hR3 h31 h32
        cases B with
        | false =>
          have hr := HR.out
          rw [if_neg (by simp)] at hr
          subst hr
          go_wp2_with fail
          refine O.out.mono ?_
          rintro e w5 ⟨rfl, hb5⟩
          have HB5 := Lib.hid (HB.out.trans (hb5.mono hsz))
          have HOZ := Lib.hid ((Out.nilLit w5).mono HB5.out.size)
          have HBZ := Lib.hid (HB5.out.alloc HB5.out.size (.cells #[] 3))
          clear hb5
          go_wp2_with fail
          go_ret2
          exact ⟨_, rfl, HOZ.out, HBZ.out⟩
        | true =>
          have hr := HR.out
          rw [if_pos rfl] at hr
          have HRR := Lib.hid hr
          clear hr
          go_wp2_with fail
          refine O.out.mono ?_
          rintro e w5 ⟨rfl, hb5⟩
          have HB5 := Lib.hid (HB.out.trans (hb5.mono hsz))
          have HO5 := Lib.hid (Out.below HO.out hb5)
          clear hb5
          go_wp2_with fail
          go_ret2
          exact ⟨_, rfl, by rw [HRR.out]; exact HO5.out, HB5.out⟩
end Go.Proofs.Ytkbpfjhikabbmaa
