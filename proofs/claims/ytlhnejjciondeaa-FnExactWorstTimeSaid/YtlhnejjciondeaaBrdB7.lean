/- A scope with several labels to which the run jumps, each time with less to do: over every program. Chapter 7, impl side: impl.boardUntil. Chapter 7: how many units go by: mathematics. Plain lemmas. Chapter 7, impl side: what is told of travelers: impl.canBoardBy, boardTime, tellRows. -/
import Derived.Scope
import Derived.Test.YtlhnejjciondeaaBrdW7
import Derived.Test.YtlhnejjciondeaaRnn7
import Derived.WalkMore
import Derived.Test.YtlhnejjciondeaaTim7
import Derived.Test.YtlhnejjciondeaaBrdN7
import Derived.Test.YtlhnejjciondeaaIsOrd
import Derived.Test.YtlhnejjciondeaaRes7
section
namespace Go.Proofs.Ytlhnejjciondeaa

/-- by a goto: what is asked at its label; else as Q -/
def jumpM (J : Nat → Act → World → Prop) (Q : Exit → Act → World → Prop) : Exit → Act → World → Prop
  | .goto t, a, w => J t a w
  | .normal, a, w => Q .normal a w
  | .exit d, a, w => Q (.exit d) a w
  | .ret, a, w => Q .ret a w
  | .panic c, a, w => Q (.panic c) a w
  | .outgrown, a, w => Q .outgrown a w
/-- what is asked at a label, if less is left to do -/
def lessM (J : Nat → Nat → Act → World → Prop) (m : Nat) (t : Nat) (a : Act) (w : World) : Prop := ∃ k, k < m ∧ J t k a w

/-- the code behind a label -/
def fromLabel (c : Code) (t : Nat) : Code :=
  match findLabel c t with
  | some (.seq .skip x) => x
  | _ => .skip
theorem wp_scope_many {P : Program} {Q : Exit → Act → World → Prop} {c : Code} (J : Nat → Nat → Act → World → Prop) (hs : ∀ t m a w, J t m a w → ∃ x, findLabel c t = some (.seq .skip x))
    (pass : ∀ t m a w, J t m a w → (fromLabel c t).wp P (jumpM (lessM J m) Q) a w) {a : Act} {w : World}
    (first : (∀ t m a w, J t m a w → (fromLabel c t).wp P (jumpM (fun t' a' w' => ∃ k, J t' k a' w') Q) a w) → c.wp P (jumpM (fun t' a' w' => ∃ k, J t' k a' w') Q) a w) : (Code.scope c).wp P Q a w := by
  obtain ⟨R0, hR⟩ : ∃ R0 : Nat → Code, R0 = fromLabel c := ⟨_, rfl⟩
  obtain ⟨R, hRR⟩ : ∃ R : Nat → Code, ∀ t, R t = .seq .skip (R0 t) := ⟨_, fun _ => rfl⟩
  have hf : ∀ t m a w, J t m a w → findLabel c t = some (R t) := by
    intro t m a w h
    obtain ⟨x, hx⟩ := hs t m a w h
    rw [hx, hRR, hR]
    unfold fromLabel
    rw [hx]
  rw [← hR] at pass first
  clear hR
  have pass0 := pass
  clear pass
  have pass : ∀ t m a w, J t m a w → (R t).wp P (jumpM (lessM J m) Q) a w := by
    intro t m a w h
    rw [hRR]
    exact wp_seq (wp_skip (pass0 t m a w h))
  have weaken : ∀ t m a w, J t m a w → (R0 t).wp P (jumpM (fun t' a' w' => ∃ k, J t' k a' w') Q) a w := by
    intro t m a w h
    refine wp_mono (pass0 t m a w h) ?_
    intro e a' w' hq
    cases e with
    | goto t' => obtain ⟨k, -, hk⟩ := hq; exact ⟨k, hk⟩
    | _ => exact hq
  have c0 := first weaken
  clear first weaken pass0
  intro b k cs
  have again : ∀ m t a w, J t m a w → ∃ e a' w', Q e a' w' ∧ Arrives P (lone (b.at a (.code (R t) :: .inScope c :: k)) cs w) b k cs e a' w' := by
    intro m
    refine Nat.strongRecOn m ?_
    intro m ih t a w h
    obtain ⟨e, a1, w1, hq, har⟩ := pass t m a w h b (.inScope c :: k) cs
    cases e with
    | goto t' =>
      obtain ⟨m', hm', h'⟩ := hq
      obtain ⟨e2, a2, w2, hq2, har2⟩ := ih m' hm' t' a1 w1 h'
      refine ⟨e2, a2, w2, hq2, .of_steps (har _ ?_) har2⟩
      simp [gotoIn, hf t' m' a1 w1 h']
    | normal => exact ⟨_, a1, w1, hq, Steps.trans har (.one step_inScope)⟩
    | exit d => exact ⟨.exit d, a1, w1, hq, fun k' hk => har k' (by simp [exitTo, hk])⟩
    | ret => exact ⟨_, a1, w1, hq, har⟩
    | panic ch => exact ⟨_, a1, w1, hq, har⟩
    | outgrown => exact ⟨_, a1, w1, hq, har⟩
  obtain ⟨e, a1, w1, hq, har⟩ := c0 b (.inScope c :: k) cs
  cases e with
  | goto t =>
    obtain ⟨m, h⟩ := hq
    obtain ⟨e2, a2, w2, hq2, har2⟩ := again m t a1 w1 h
    refine ⟨e2, a2, w2, hq2, .of_steps (.head step_scope (har _ ?_)) har2⟩
    simp [gotoIn, hf t m a1 w1 h]
  | normal => exact ⟨_, a1, w1, hq, .head step_scope (Steps.trans har (.one step_inScope))⟩
  | exit d => exact ⟨.exit d, a1, w1, hq, fun k' hk => .head step_scope (har k' (by simp [exitTo, hk]))⟩
  | ret => exact ⟨_, a1, w1, hq, .of_steps (.one step_scope) har⟩
  | panic ch => exact ⟨_, a1, w1, hq, .of_steps (.one step_scope) har⟩
  | outgrown => exact ⟨_, a1, w1, hq, .of_steps (.one step_scope) har⟩
end Go.Proofs.Ytlhnejjciondeaa
end

section
namespace Go.Proofs.Ytlhnejjciondeaa
open Go.RowKit

/-- somebody is up -/
def upB (l : List Nat) (C : Cab) (k : Nat) : Bool := (List.range k).any (fun i => !decide (0 < C.sa (l[i]?.getD 0)))
theorem up_succ (l : List Nat) (C : Cab) (k : Nat) : upB l C (k + 1) = (upB l C k || !decide (0 < C.sa (l[k]?.getD 0))) := by
  unfold upB
  rw [List.range_succ, List.any_append]
  simp
theorem up_some {l : List Nat} {C : Cab} {n k : Nat} (hk : k < n) (h : (!decide (0 < C.sa (l[k]?.getD 0))) = true) : upB l C n = true := by
  unfold upB
  rw [List.any_eq_true]
  exact ⟨k, List.mem_range.2 hk, h⟩
theorem up_all {n : Nat} {s : Int} {l : List Nat} {C : Cab} (hi : Inv7 n s C) (hll : l.length = n) (hl : ∀ x ∈ l, x < n) (ha : ∀ r, r < n → r ∈ l) : upB l C n = !allSat n C := by
  cases h : allSat n C with
  | true =>
    unfold allSat at h
    rw [List.all_eq_true] at h
    cases e : upB l C n with
    | false => rfl
    | true =>
      unfold upB at e
      rw [List.any_eq_true] at e
      obtain ⟨k, hk, h2⟩ := e
      rw [List.mem_range] at hk
      have hm := hl _ (nat_mem (l := l) (k := k) (by omega))
      have h3 := h _ (List.mem_range.2 hm)
      have h4 := hi.sa1 _ hm
      simp at h2 h3
      omega
  | false =>
    obtain ⟨r, hr, hz⟩ := all_not h
    obtain ⟨j, hj, e⟩ := List.getElem_of_mem (ha r hr)
    refine up_some (k := j) (by omega) ?_
    rw [List.getElem?_eq_getElem hj]
    simp [e, hz]

set_option maxHeartbeats 1000000 in
theorem indexUp_any (n g tb ab kt ka : Nat) (T : Nat → Nat) (l : List Nat) (s u : Int) (C : Cab) (w : World) (hB : Brd w n g tb ab kt ka T l s u C) (hi : Inv7 n s C) (hf : fin7 n s C) (hn : n ≤ 10) (hll : l.length = n) (hl : ∀ x ∈ l, x < n) :
    Calls Try.prog 68 #[.slice (some ⟨tb, 0, none⟩) n kt, .func (.func 64) #[] #[]] w fun e w' => ∃ r : Int, e = .returned (.int .i64 r) ∧ (0 ≤ r ↔ upB l C n = true) ∧ Below w.heap.size w w' := by
  have HB := Lib.hid hB
  have G := Lib.hid (fun (w' : World) (h' : Below w.heap.size w w') (r : Nat) (hr : r < n) => isUp_any n T s C w' (hB.below h').tv hi hf r hr)
  have HL := Lib.hid hl
  have HLL := Lib.hid hll
  clear hB hi hf hl
  go_enter Try.func68, Try.ntmps68
  go_wp2_with fail
  go_loopw [5, 8] (fun _ i wr => ∃ (k : Nat), k ≤ n ∧ i = .int .i64 k ∧ Hid (upB l C k = false) ∧ Hid (Below w.heap.size w wr)) (fun _ i _ => n - (intOf i).toNat)
  case atStart => exact ⟨0, Nat.zero_le _, rfl, by show _ = _; rfl, Lib.hid (Below.refl _ _)⟩
  case round =>
    obtain ⟨k, hk, rfl, HF, HW⟩ := hrel
    by_cases hlt : k < n
    · have hk1 : (k : Int) < (n : Int) := by omega
      have h0 := (HB.out.below HW.out).tr.cell hlt
      have hm := HL.out _ (nat_mem (l := l) (k := k) (by omega))
      have HT := Lib.hid (up_succ l C k)
      have HS := Lib.hid (fun h => up_some (l := l) (C := C) (n := n) (k := k) hlt h)
      obtain ⟨row, hrow⟩ : ∃ row, l[k]?.getD 0 = row := ⟨_, rfl⟩
      rw [hrow] at h0 hm HT HS
      change wr.cell? ⟨tb, k, none⟩ = some (.pointer (some ⟨T row, 0, none⟩)) at h0
      have G2 := Lib.hid (G.out wr HW.out row hm)
      obtain ⟨t, ht⟩ : ∃ t, (!decide (0 < C.sa row)) = t := ⟨_, rfl⟩
      rw [ht] at G2 HT HS
      clear ht hm hrow
      cases t with
      | true =>
        go_wp2_with fail
        refine G2.out.mono ?_
        rintro e w2 ⟨rfl, q, rfl⟩
        go_wp2_with fail
        go_ret
        exact ⟨_, rfl, by have := HS.out trivial; simp [this], below_drewN7 HW.out q⟩
      | false =>
        have HF2 : Hid (upB l C (k + 1) = false) := by
          show _ = _
          rw [HT.out, HF.out]; rfl
        clear HT HF HS
        go_wp2_with fail
        refine G2.out.mono ?_
        rintro e w2 ⟨rfl, q, rfl⟩
        have HW2 := Lib.hid (below_drewN7 HW.out q)
        clear h0 G2 HW
        go_wp2_with fail
        go_roundw
        case rel => exact ⟨k + 1, by omega, by go_num, HF2, HW2⟩
        case measure => simp [intOf]; omega
    · have hkm : k = n := by omega
      subst hkm
      have hk1 : ¬ (k : Int) < (k : Int) := by omega
      go_wp2_with fail
      go_ret
      exact ⟨_, rfl, by have := HF.out; simp [this], HW.out⟩

set_option maxHeartbeats 1000000 in
theorem containsUp_any (n g tb ab kt ka : Nat) (T : Nat → Nat) (l : List Nat) (s u : Int) (C : Cab) (w : World) (hB : Brd w n g tb ab kt ka T l s u C) (hi : Inv7 n s C) (hf : fin7 n s C) (hn : n ≤ 10) (hll : l.length = n) (hl : ∀ x ∈ l, x < n) (ha : ∀ r, r < n → r ∈ l) :
    Calls Try.prog 63 #[.slice (some ⟨tb, 0, none⟩) n kt, .func (.func 64) #[] #[]] w fun e w' => e = .returned (.bool (!allSat n C)) ∧ Below w.heap.size w w' := by
  have I := indexUp_any n g tb ab kt ka T l s u C w hB hi hf hn hll hl
  rw [up_all hi hll hl ha] at I
  replace I := Lib.hid I
  obtain ⟨B, hBB⟩ : ∃ B, (!allSat n C) = B := ⟨_, rfl⟩
  rw [hBB] at I ⊢
  clear hB hi hf hl ha hBB
  go_enter Try.func63, Try.ntmps63
  go_wp2_with fail
  refine I.out.mono ?_
  rintro e w' ⟨r, rfl, hr, hb⟩
  replace hr := Lib.hid hr
  have HB := Lib.hid hb
  go_wp2_with fail
  go_ret
  exact ⟨ret_bool (by have := hr.out; cases B <;> simp_all), HB.out⟩

def JB (last s : Int) (p : Option Addr) (n cap : Nat) (l : List Nat) (U : Nat) (w : World) : Nat → Nat → Act → World → Prop
  | 0, _, a', w' => ∃ (g tb ab kt ka : Nat) (T : Nat → Nat) (y9 y13 y14 y15 y16 y17 y18 y19 y20 y21 y22 y23 y24 y25 y26 y27 y28 y29 y30 y31 y32 y33 y34 y35 y36 y37 y38 y39 y40 y41 y42 y43 y44 y45 y46 : Value), a' = { tmps := #[.int .i64 last, .int .i64 s, .slice p n cap, undef, undef, undef, .pointer none, .pointer (some ⟨g, 0, none⟩), undef, y9, .int .i64 s, .slice p n cap, .pointer (some ⟨g, 0, none⟩), y13, y14, y15, y16, y17, y18, y19, y20, y21, y22, y23, y24, y25, y26, y27, y28, y29, y30, y31, y32, y33, y34, y35, y36, y37, y38, y39, y40, y41, y42, y43, y44, y45, y46, undef], defers := [] } ∧ Hid (Brd w' n g tb ab kt ka T l s (U : Nat) (cabU s l U)) ∧ Hid (from7 w.heap.size n g tb ab T) ∧ Hid (Below w.heap.size w w')
  | 1, m, a', w' => ∃ (g tb ab kt ka : Nat) (T : Nat → Nat) (u : Nat) (y9 y13 y14 y15 y16 y17 y18 y19 y20 y21 y22 y23 y24 y25 y26 y27 y28 y29 y30 y31 y32 y33 y34 y35 y36 y37 y38 y39 y40 y41 y42 y43 y44 y45 y46 : Value), u ≤ U ∧ m = U - u + 1 ∧ a' = { tmps := #[.int .i64 last, .int .i64 s, .slice p n cap, undef, undef, undef, .pointer none, .pointer (some ⟨g, 0, none⟩), undef, y9, .int .i64 s, .slice p n cap, .pointer (some ⟨g, 0, none⟩), y13, y14, y15, y16, y17, y18, y19, y20, y21, y22, y23, y24, y25, y26, y27, y28, y29, y30, y31, y32, y33, y34, y35, y36, y37, y38, y39, y40, y41, y42, y43, y44, y45, y46, undef], defers := [] } ∧ Hid (Brd w' n g tb ab kt ka T l s (u : Nat) (cabU s l u)) ∧ Hid (from7 w.heap.size n g tb ab T) ∧ Hid (Below w.heap.size w w')
  | _, _, _, _ => False

set_option maxRecDepth 4000 in
set_option maxHeartbeats 4000000 in
theorem until_any (last s : Int) (n : Nat) (p : Option Addr) (cap : Nat) (l : List Nat) (U : Nat) (w : World) (lo hi : Nat) (hin : Ri lo hi w p (ints l)) (hn1 : 1 ≤ n) (hn : n ≤ 10) (hs1 : 1 ≤ s) (hs : s ≤ 5) (hll : l.length = n) (hl : ∀ x ∈ l, x < n) (ha : ∀ r, r < n → r ∈ l) (hnd : ∀ j k, j < n → k < n → j ≠ k → lrow l j ≠ lrow l k) (hU : runsI n s last l U) :
    Calls Try.prog 51 #[.int .i64 last, .int .i64 s, .slice p n cap] w (MadeBrd w n l s (U : Nat) (cabU s l U)) := by
  have WO := waiting_any n s p cap l w lo hi hin hn1 hn hll hl ha hnd
  unfold MadeBrd at WO
  replace WO := Lib.hid WO
  clear hin hnd
  go_enter Try.func51, Try.ntmps51
  go_wp2_with fail
  refine wp_scope_many (JB last s p n cap l U w) ?_ ?_ ?_
  · intro t m a w' h
    match t, h with
    | 0, _ => exact ⟨_, rfl⟩
    | 1, _ => exact ⟨_, rfl⟩
  · intro t m a' w' h
    match t, h with
    | 0, h =>
      obtain ⟨g, tb, ab, kt, ka, T, y9, y13, y14, y15, y16, y17, y18, y19, y20, y21, y22, y23, y24, y25, y26, y27, y28, y29, y30, y31, y32, y33, y34, y35, y36, y37, y38, y39, y40, y41, y42, y43, y44, y45, y46, rfl, HB, HF, HL⟩ := h
      dsimp only [fromLabel, findLabel]
      go_wp2_with fail
      simp only [jumpM]
      go_ret
      unfold MadeBrd
      exact ⟨_, _, _, _, _, _, rfl, HB.out, HF.out, HL.out⟩
    | 1, h =>
      obtain ⟨g, tb, ab, kt, ka, T, u, y9, y13, y14, y15, y16, y17, y18, y19, y20, y21, y22, y23, y24, y25, y26, y27, y28, y29, y30, y31, y32, y33, y34, y35, y36, y37, y38, y39, y40, y41, y42, y43, y44, y45, y46, hu, rfl, rfl, HB, HF, HL⟩ := h
      dsimp only [fromLabel, findLabel]
      obtain ⟨g0, g1, g2⟩ := HB.out.cells
      have CU := containsUp_any n g tb ab kt ka T l s (u : Int) (cabU s l u) w' HB.out (cab_inv hs1 hl u) (cab_fin u) hn hll hl ha
      by_cases hul : (u : Int) = last
      · have huU : u = U := by
          rcases Nat.lt_or_ge u U with h | h
          · exact absurd hul (hU.go u h).1
          · omega
        subst huU
        clear CU hU hl ha
        go_wp2_with fail
        go_step3
        show lessM _ _ _ _ _
        exact ⟨0, by omega, g, tb, ab, kt, ka, T, _, _, _, _, _, _, _, _, _, _, _, _, _, _, _, _, _, _, _, _, _, _, _, _, _, _, _, _, _, _, _, _, _, _, _, rfl, HB, HF, HL⟩
      · by_cases hall : allSat n (cabU s l u) = true
        · have huU : u = U := by
            rcases Nat.lt_or_ge u U with h | h
            · have := (hU.go u h).2; rw [hall] at this; cases this
            · omega
          subst huU
          rw [hall] at CU
          replace CU := Lib.hid CU
          clear hU hl ha hall
          go_wp2_with fail
          refine CU.out.mono ?_
          rintro e w2 ⟨rfl, hb2⟩
          have HB2 := Lib.hid (HB.out.below hb2)
          have HL2 := Lib.hid (HL.out.trans (hb2.mono HL.out.size))
          clear hb2
          go_wp2_with fail
          go_step3
          show lessM _ _ _ _ _
          exact ⟨0, by omega, g, tb, ab, kt, ka, T, _, _, _, _, _, _, _, _, _, _, _, _, _, _, _, _, _, _, _, _, _, _, _, _, _, _, _, _, _, _, _, _, _, _, _, rfl, HB2, HF, HL2⟩
        · have hall2 : allSat n (cabU s l u) = false := by simpa using hall
          have huU : u < U := by
            rcases Nat.lt_or_ge u U with h | h
            · exact h
            · have e : u = U := by omega
              subst e
              rcases hU.stop with h | h
              · exact absurd h hul
              · exact absurd h.2 hall
          rw [hall2] at CU
          replace CU := Lib.hid CU
          have hu1 := hU.few
          have hw : IntKind.i64.wrap ((u : Int) + 1) = (u : Int) + 1 := IntWalk.i64_in _ (by omega)
          have HACT := Lib.hid (fun (i : Nat) => And.intro (unit_ok (n := n) (s := s) (t := ((u + 1 : Nat) : Int)) (by omega) (cab_inv hs1 hl u) (fun x hx => hl x (List.mem_of_mem_take hx : x ∈ l) : ∀ x ∈ l.take i, x < n)).1 (And.intro (unit_fin (n := n) (s := s) (t := ((u + 1 : Nat) : Int)) (l := l.take i) (cab_fin (n := n) (s := s) (l := l) u)) (fun r => part_wa (s := s) (l := l) (u := u) (i := i) (r := r) (by omega) (by omega))))
          have HLM := Lib.hid hl
          have hd1 : ((u : Int) == last) = false := by simpa using hul
          have hd2 : decide ((u : Int) = last) = false := decide_eq_false hul
          clear hU hl ha hall hall2
          go_wp2_with fail
          refine CU.out.mono ?_
          rintro e w2 ⟨rfl, hb2⟩
          have HB2 := Lib.hid (HB.out.below hb2)
          have HL2 := Lib.hid (HL.out.trans (hb2.mono HL.out.size))
          clear hb2 g0 g1 g2 CU HB HL
          obtain ⟨g0, g1, g2⟩ := HB2.out.cells
          have fu := HB2.out.own.free 2
          have hB3 := HB2.out.setU ((u : Int) + 1)
          obtain ⟨z0, z1, z2⟩ := hB3.cells
          have HB3 : Hid (Brd (w2.setCell ⟨g, 2, none⟩ (.int .i64 ((u : Int) + 1))) n g tb ab kt ka T l s ((u + 1 : Nat) : Int) (unit7 s ((u + 1 : Nat) : Int) (l.take 0) (cabU s l u))) := by
            show Brd _ _ _ _ _ _ _ _ _ _ _ _
            rw [List.take_zero, show (((u + 1 : Nat)) : Int) = (u : Int) + 1 by push_cast; rfl]
            exact hB3
          have HL3 := Lib.hid (HL2.out.setCell (p := ⟨g, 2, none⟩) HF.out.g (.int .i64 ((u : Int) + 1)))
          clear hB3 HB2 HL2
          go_wp2_with fail
          go_loopw [39] (fun ii wr => ∃ (i : Nat), i ≤ n ∧ ii = .int .i64 (i : Int) ∧ Hid (Brd wr n g tb ab kt ka T l s ((u + 1 : Nat) : Int) (unit7 s ((u + 1 : Nat) : Int) (l.take i) (cabU s l u))) ∧ Hid (Below w.heap.size w wr)) (fun ii _ => n - (intOf ii).toNat)
          case atStart => exact ⟨0, Nat.zero_le _, rfl, HB3, HL3⟩
          case round =>
            obtain ⟨i, hi', rfl, HB, HL⟩ := hrel
            clear HB3 HL3 g0 g1 g2 z0 z1 z2 fu
            by_cases hin : i < n
            · have hi1 : (i : Int) < (n : Int) := by omega
              have h0 := HB.out.tr.cell hin
              have hil : i < l.length := by omega
              have hstep := unit_take (s := s) (t := ((u + 1 : Nat) : Int)) (l := l) (c := cabU s l u) hil
              have hrow := HLM.out _ (nat_mem hil)
              obtain ⟨row, hrw⟩ : ∃ row, l[i]?.getD 0 = row := ⟨_, rfl⟩
              rw [hrw] at h0 hstep hrow
              change wr.cell? ⟨tb, i, none⟩ = some (.pointer (some ⟨T row, 0, none⟩)) at h0
              have A := act_any w.heap.size n g tb ab kt ka T l s ((u + 1 : Nat) : Int) (unit7 s ((u + 1 : Nat) : Int) (l.take i) (cabU s l u)) wr HB.out HF.out row hrow hn (HACT.out i).1 (HACT.out i).2.1 hs ((HACT.out i).2.2 row)
              rw [← hstep] at A
              unfold Did7 at A
              replace A := Lib.hid A
              clear hstep hrw
              go_wp2_with fail
              refine A.out.mono ?_
              rintro E2 w3 ⟨rfl, hB4, hL4⟩
              have HB4 := Lib.hid hB4
              have HL4 := Lib.hid (HL.out.trans hL4)
              clear A hB4 hL4 h0 HB HL
              go_wp2_with fail
              go_roundw
              case rel => exact ⟨i + 1, by omega, by go_num, HB4, HL4⟩
              case measure => simp [intOf]; omega
            · have hni : i = n := by omega
              subst hni
              have hi1 : ¬ (i : Int) < (i : Int) := by omega
              have HB4 : Hid (Brd wr i g tb ab kt ka T l s ((u + 1 : Nat) : Int) (cabU s l (u + 1))) := by
                show Brd _ _ _ _ _ _ _ _ _ _ _ _
                have h := HB.out
                rw [List.take_of_length_le (by omega)] at h
                exact h
              clear HB
              go_wp2_with fail
              go_step3
              show lessM _ _ _ _ _
              exact ⟨U - (u + 1) + 1, by omega, g, tb, ab, kt, ka, T, u + 1, _, _, _, _, _, _, _, _, _, _, _, _, _, _, _, _, _, _, _, _, _, _, _, _, _, _, _, _, _, _, _, _, _, _, _, by omega, rfl, rfl, HB4, HF, HL⟩
  · intro WEAK
    go_wp2_with fail
    refine WO.out.mono ?_
    rintro E w1 ⟨g, tb, ab, kt, ka, T, rfl, hB, hF, hL⟩
    have HB := Lib.hid hB
    have HF := Lib.hid hF
    have HL := Lib.hid hL
    clear hB hF hL WO
    go_wp2_with fail
    go_step3
    refine ‹∀ (a : Act) (w : World), _ → _› _ _ ?_
    exact WEAK 1 (U - 0 + 1) _ w1 ⟨g, tb, ab, kt, ka, T, 0, _, _, _, _, _, _, _, _, _, _, _, _, _, _, _, _, _, _, _, _, _, _, _, _, _, _, _, _, _, _, _, _, _, _, _, Nat.zero_le _, rfl, rfl, HB, HF, HL⟩
end Go.Proofs.Ytlhnejjciondeaa
end

section
namespace Go.Proofs.Ytlhnejjciondeaa

theorem mx_le {F : Nat → Int} {U : Int} (hU : 0 ≤ U) : ∀ {n : Nat}, (∀ k, k < n → F k ≤ U) → mxM F n ≤ U
  | 0, _ => hU
  | n + 1, h => by
    show (if F n < mxM F n then mxM F n else F n) ≤ U
    have h1 := mx_le hU (n := n) (fun k hk => h k (by omega))
    have h2 := h n (by omega)
    split <;> omega
theorem mx_ge {F : Nat → Int} : ∀ {n k : Nat}, k < n → F k ≤ mxM F n
  | 0, _, h => absurd h (Nat.not_lt_zero _)
  | n + 1, k, h => by
    show F k ≤ (if F n < mxM F n then mxM F n else F n)
    by_cases e : k = n
    · subst e; split <;> omega
    · have := mx_ge (F := F) (n := n) (k := k) (by omega)
      split <;> omega
theorem time_is {n : Nat} {s : Int} {l : List Nat} {U : Nat} (hn : 1 ≤ n) (hs : 1 ≤ s) (hl : ∀ x ∈ l, x < n) (hU : runs7 n s (-1) l U) : mxM (cabU s l U).sa n = (U : Int) := by
  have hall : allSat n (cabU s l U) = true := by
    rcases hU.stop with h | h
    · exact absurd (Or.inl (by omega)) h
    · exact h
  cases U with
  | zero =>
    unfold allSat at hall
    rw [List.all_eq_true] at hall
    have := hall 0 (List.mem_range.2 hn)
    simp [cabU, start7] at this
  | succ V =>
    obtain ⟨r, hr, h⟩ := last_sits hs hl hall (hU.go V (by omega)).2
    have h1 := mx_le (F := (cabU s l (V + 1)).sa) (U := ((V + 1 : Nat) : Int)) (by omega) (n := n) (fun k _ => cab_sa (V + 1))
    have h2 := mx_ge (F := (cabU s l (V + 1)).sa) hr
    omega
theorem runsI_all {n : Nat} {s : Int} {l : List Nat} {U : Nat} (hU : runs7 n s (-1) l U) : runsI n s 9223372036854775807 l U := by
  have hf := hU.few
  refine ⟨hf, fun u hu => ⟨by omega, (hU.go u hu).2⟩, .inr ⟨by omega, ?_⟩⟩
  rcases hU.stop with h | h
  · exact absurd (Or.inl (by omega)) h
  · exact h
theorem runsI_at {n : Nat} {s t : Int} {l : List Nat} {U : Nat} (ht : 0 ≤ t) (hU : runs7 n s t l U) : runsI n s t l U := by
  have hle : (U : Int) ≤ t := by
    cases U with
    | zero => exact ht
    | succ V =>
      have := (hU.go V (by omega)).1
      push_cast
      omega
  refine ⟨hU.few, fun u hu => ?_, ?_⟩
  · obtain ⟨h1, h2⟩ := hU.go u hu
    exact ⟨by omega, h2⟩
  · by_cases e : (U : Int) = t
    · exact .inl e
    · rcases hU.stop with h | h
      · exact absurd (Or.inr (by omega)) h
      · exact .inr ⟨e, h⟩
theorem runs_at {n : Nat} {s t : Int} {l : List Nat} (hn : n ≤ 10) (hs1 : 1 ≤ s) (hs : s ≤ 5) (hl : ∀ x ∈ l, x < n) (ha : ∀ r, r < n → r ∈ l) (ht : 0 ≤ t) : ∃ U, runs7 n s t l U := by
  obtain ⟨F, h1, h2, h3⟩ := fin_exists hn hs1 hs hl ha
  by_cases e : (F : Int) ≤ t
  · exact ⟨F, h1, fun u hu => ⟨.inr (by omega), h3 u hu⟩, .inr h2⟩
  · exact ⟨t.toNat, by omega, fun u hu => ⟨.inr (by omega), h3 u (by omega)⟩, .inl (by omega)⟩
end Go.Proofs.Ytlhnejjciondeaa
end

section
namespace Go.Proofs.Ytlhnejjciondeaa
open Go.RowKit

theorem rows_apart {n : Nat} {l : List Nat} (h : orderB (n : Int) (ints l) = true) : ∀ j k, j < n → k < n → j ≠ k → lrow l j ≠ lrow l k := by
  obtain ⟨hg, hl⟩ := order_good h
  rw [ints_length] at hl
  have key : ∀ j k, j < k → k < n → lrow l j ≠ lrow l k := by
    intro j k hjk hk e
    have h1 := (hg k (by rw [ints_length]; omega)).2.2
    refine h1 (List.mem_iff_getElem.2 ⟨j, by rw [List.length_take, ints_length]; omega, ?_⟩)
    have h2 := ints_get (l := l) (k := k) (by omega)
    have h3 := ints_get (l := l) (k := j) (by omega)
    rw [h2, List.getElem_take]
    rw [List.getElem?_eq_getElem (by rw [ints_length]; omega)] at h3
    simp only [Option.getD_some] at h3
    rw [h3]
    show ((lrow l j : Nat) : Int) = ((lrow l k : Nat) : Int)
    rw [e]
  intro j k hj hk hne
  rcases Nat.lt_or_ge j k with h | h
  · exact key j k h hk
  · exact fun e => key k j (by omega) hj e.symm

set_option maxRecDepth 4000 in
set_option maxHeartbeats 1000000 in
theorem boardTime_any (s : Int) (n : Nat) (p : Option Addr) (cap : Nat) (l : List Nat) (U : Nat) (w : World) (lo hi : Nat) (hin : Ri lo hi w p (ints l)) (hn1 : 1 ≤ n) (hn : n ≤ 10) (hs1 : 1 ≤ s) (hs : s ≤ 5) (hll : l.length = n) (hl : ∀ x ∈ l, x < n) (ha : ∀ r, r < n → r ∈ l) (hnd : ∀ j k, j < n → k < n → j ≠ k → lrow l j ≠ lrow l k) (hU : runs7 n s (-1) l U) :
    Calls Try.prog 33 #[.int .i64 s, .slice p n cap] w fun e w' => e = .returned (.int .i64 (U : Nat)) ∧ Below w.heap.size w w' := by
  have B := until_any 9223372036854775807 s n p cap l U w lo hi hin hn1 hn hs1 hs hll hl ha hnd (runsI_all hU)
  unfold MadeBrd at B
  replace B := Lib.hid B
  clear hin hl ha hnd hU
  go_enter Try.func33, Try.ntmps33
  go_wp2_with fail
  refine B.out.mono ?_
  rintro e w1 ⟨g, tb, ab, kt, ka, T, rfl, hB, hF, hL⟩
  obtain ⟨-, -, g2⟩ := hB.cells
  have HL := Lib.hid hL
  clear hB hF hL B
  go_wp2_with fail
  go_ret
  exact ⟨rfl, HL.out⟩

theorem Brd.far {w : World} {n g tb ab kt ka : Nat} {T : Nat → Nat} {l : List Nat} {s u : Int} {C : Cab} (h : Brd w n g tb ab kt ka T l s u C) {B x i : Nat} (hF : from7 B n g tb ab T) (hx : x < B) (v : Value) : Brd (w.setCell ⟨x, i, none⟩ v) n g tb ab kt ka T l s u C := by
  have h1 := hF.g
  have h2 := hF.tb
  have h3 := hF.ab
  exact ⟨h.dis, h.own.far7 (by omega) v, h.tr.other (by omega) v, h.ai.other (by omega) v, fun r hr => (h.tv r hr).far7 (by have := hF.tr r hr; omega) v⟩
theorem IA.far {w : World} {g n : Nat} {K : Nat → Nat} {F : Nat → Int} (h : IA w g n K F) {i : Nat} {v : Int} {G : Nat → Int} (e : ∀ j, j < n → updI F i v j = G j) : IA (w.setCell ⟨g, i, none⟩ (.int .i64 v)) g n K G := (h.set i v).congr e
/-- what is told of the rows that came first -/
def toldF (l : List Nat) (F : Nat → Int) (i r : Nat) : Int := if r ∈ l.take i then F r else 0
theorem told_step {l : List Nat} {F : Nat → Int} {i n : Nat} (hi : i < l.length) (j : Nat) (hj : j < n) : updI (toldF l F i) (l[i]?.getD 0) (F (l[i]?.getD 0)) j = toldF l F (i + 1) j := by
  unfold toldF
  rw [List.take_succ_eq_append_getElem hi, List.getElem?_eq_getElem hi]
  simp only [Option.getD_some, List.mem_append, List.mem_singleton]
  by_cases e : j = l[i]
  · rw [e, upd_at, if_pos (.inr rfl)]
  · rw [upd_ne e]
    by_cases h : j ∈ l.take i
    · rw [if_pos h, if_pos (.inl h)]
    · rw [if_neg h, if_neg (by rintro (h' | h'); exact h h'; exact e h')]
theorem told_all {n : Nat} {l : List Nat} {F : Nat → Int} (hll : l.length = n) (ha : ∀ r, r < n → r ∈ l) (j : Nat) (hj : j < n) : toldF l F n j = F j := by
  unfold toldF
  rw [List.take_of_length_le (by omega), if_pos (ha j hj)]
end Go.Proofs.Ytlhnejjciondeaa
end
