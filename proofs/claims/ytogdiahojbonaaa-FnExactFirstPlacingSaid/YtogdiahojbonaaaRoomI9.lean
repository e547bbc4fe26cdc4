/- Chapter 9, impl side: impl.canPlace, impl.hasRoom. -/
import Derived.Test.YtogdiahojbonaaaPlcM9
import Derived.Test.YtogdiahojbonaaaOut
import Derived.Test.YtogdiahojbonaaaRowI
import Derived.Test.YtogdiahojbonaaaMax9
import Derived.StillTailTactics
namespace Go.Proofs.Ytogdiahojbonaaa
open Go.RowKit

set_option maxRecDepth 4000 in
set_option maxHeartbeats 1600000 in
theorem canPlace_any (s : Int) (ring : Bool) (p : Option Addr) (cap : Nat) (xs : List Int) (q : Option Addr) (c : Nat) (gs : List Int) (d : Int) (w : World) (lo hi lo2 hi2 : Nat) (hin : Ri lo hi w p xs) (hlen : xs.length ≤ 1048576) (hin2 : Ri lo2 hi2 w q gs) (hlen2 : gs.length ≤ 1048576) :
    Calls Try.prog 42 #[rowV s ring p xs.length cap, .slice q gs.length c, .int .i64 d] w fun e w' => e = .returned (.bool (pvB s ring xs gs d)) ∧ Below w.heap.size w w' := by
  have hX := OwnArr.made w 28 [.int .i64 s, .bool ring, .slice p xs.length cap]
  have hB := box_below w s ring p xs.length cap 28
  have I := Lib.hid (isRow_any s ring p cap xs _ lo hi (hin.below hB hin.top) hlen)
  have HI2 := Lib.hid (fun (w' : World) (h' : Below w.heap.size w w') => hin2.below h' hin2.top)
  have HE : Hid (pvB s ring xs gs d = (rowB s ring xs && (!ring && (decide (0 ≤ d) && (decide (1 ≤ gs.length) && (decide (gs.length ≤ 5) && gs.all (fun g => decide (1 ≤ g)))))))) := by
    show _ = _
    unfold pvB
    have e1 : decide ((1 : Int) ≤ (gs.length : Int)) = decide (1 ≤ gs.length) := decide_eq_decide.2 (by omega)
    have e2 : decide ((gs.length : Int) ≤ 5) = decide (gs.length ≤ 5) := decide_eq_decide.2 (by omega)
    rw [e1, e2]
    cases rowB s ring xs <;> cases ring <;> cases decide (0 ≤ d) <;> cases decide (1 ≤ gs.length) <;> cases decide (gs.length ≤ 5) <;> cases gs.all (fun g => decide (1 ≤ g)) <;> rfl
  have HMN : Hid (∀ M, (∀ x ∈ gs, M ≤ x) → M ∈ gs → gs.all (fun g => decide (1 ≤ g)) = decide (1 ≤ M)) := by
    show ∀ _, _
    intro M h1 h2
    rw [Bool.eq_iff_iff, List.all_eq_true, decide_eq_true_eq]
    constructor
    · intro h; simpa using h M h2
    · intro h x hx
      have := h1 x hx
      exact decide_eq_true (by omega)
  obtain ⟨R, hR⟩ : ∃ R, pvB s ring xs gs d = R := ⟨_, rfl⟩
  rw [hR] at HE ⊢
  obtain ⟨RB, hRB⟩ : ∃ RB, rowB s ring xs = RB := ⟨_, rfl⟩
  rw [hRB] at HE I
  obtain ⟨AB, hAB⟩ : ∃ AB, gs.all (fun g => decide (1 ≤ g)) = AB := ⟨_, rfl⟩
  rw [hAB] at HE HMN
  obtain ⟨m0, hm0⟩ : ∃ m, xs.length = m := ⟨_, rfl⟩
  rw [hm0] at hX hB I ⊢
  obtain ⟨m, hm⟩ : ∃ m, gs.length = m := ⟨_, rfl⟩
  rw [hm] at HE hlen2 ⊢
  have HM := Lib.hid hm
  have HX := Lib.hid hX
  have HB := Lib.hid hB
  obtain ⟨c0, c1, c2, -⟩ := HX.out.three
  clear hin hin2 hR hm0 hm hlen hRB hAB hX hB
  cases RB with
  | false =>
    have hr : R = false := HE.out
    subst hr
    go_enter Try.func42, Try.ntmps42
    go_wp2_with fail
    refine I.out.mono ?_
    rintro e w2 ⟨rfl, hb2⟩
    have HB2 := Lib.hid (HB.out.trans (hb2.mono HB.out.size))
    clear hb2 I c0 c1 c2
    go_wp2_with fail
    go_ret
    exact ⟨rfl, HB2.out⟩
  | true =>
    cases ring with
    | true =>
      have hr : R = false := HE.out
      subst hr
      go_enter Try.func42, Try.ntmps42
      go_wp2_with fail
      refine I.out.mono ?_
      rintro e w2 ⟨rfl, hb2⟩
      have HB2 := Lib.hid (HB.out.trans (hb2.mono HB.out.size))
      have HX2 := Lib.hid (HX.out.below hb2 HX.out.lt)
      clear hb2 I c0 c1 c2
      obtain ⟨c0, c1, c2, -⟩ := HX2.out.three
      go_wp2_with fail
      go_ret
      exact ⟨rfl, HB2.out⟩
    | false =>
      by_cases hd : d < 0
      · have hr : R = false := by rw [HE.out, decide_eq_false (by omega : ¬ 0 ≤ d)]; rfl
        subst hr
        go_enter Try.func42, Try.ntmps42
        go_wp2_with fail
        refine I.out.mono ?_
        rintro e w2 ⟨rfl, hb2⟩
        have HB2 := Lib.hid (HB.out.trans (hb2.mono HB.out.size))
        have HX2 := Lib.hid (HX.out.below hb2 HX.out.lt)
        clear hb2 I c0 c1 c2
        obtain ⟨c0, c1, c2, -⟩ := HX2.out.three
        go_wp2_with fail
        go_ret
        exact ⟨rfl, HB2.out⟩
      · by_cases h1 : (m : Int) < 1
        · have hr : R = false := by rw [HE.out, decide_eq_false (by omega : ¬ 1 ≤ m)]; simp
          subst hr
          go_enter Try.func42, Try.ntmps42
          go_wp2_with fail
          refine I.out.mono ?_
          rintro e w2 ⟨rfl, hb2⟩
          have HB2 := Lib.hid (HB.out.trans (hb2.mono HB.out.size))
          have HX2 := Lib.hid (HX.out.below hb2 HX.out.lt)
          clear hb2 I c0 c1 c2
          obtain ⟨c0, c1, c2, -⟩ := HX2.out.three
          go_wp2_with fail
          go_ret
          exact ⟨rfl, HB2.out⟩
        · by_cases h5 : (m : Int) > 5
          · have hr : R = false := by rw [HE.out, decide_eq_false (by omega : ¬ m ≤ 5)]; simp
            subst hr
            go_enter Try.func42, Try.ntmps42
            go_wp2_with fail
            refine I.out.mono ?_
            rintro e w2 ⟨rfl, hb2⟩
            have HB2 := Lib.hid (HB.out.trans (hb2.mono HB.out.size))
            have HX2 := Lib.hid (HX.out.below hb2 HX.out.lt)
            clear hb2 I c0 c1 c2
            obtain ⟨c0, c1, c2, -⟩ := HX2.out.three
            go_wp2_with fail
            go_ret
            exact ⟨rfl, HB2.out⟩
          · have hr : R = AB := by
              rw [HE.out, decide_eq_true (by omega : 0 ≤ d), decide_eq_true (by omega : 1 ≤ m), decide_eq_true (by omega : m ≤ 5)]; rfl
            replace hr := Lib.hid hr
            clear HE
            go_enter Try.func42, Try.ntmps42
            go_wp2_with fail
            refine I.out.mono ?_
            rintro e w2 ⟨rfl, hb2⟩
            have HB2 := Lib.hid (HB.out.trans (hb2.mono HB.out.size))
            have HX2 := Lib.hid (HX.out.below hb2 HX.out.lt)
            clear hb2 I c0 c1 c2
            obtain ⟨c0, c1, c2, -⟩ := HX2.out.three
            have MN := Lib.hid (min9_any q c gs m HM.out (by omega) (by omega) _ lo2 hi2 (HI2.out _ HB2.out))
            go_wp2_with fail
            refine MN.out.mono ?_
            rintro e w3 ⟨M, rfl, h6, h7, rfl⟩
            have HA := Lib.hid (HMN.out M h6 h7)
            clear h6 h7 MN
            go_wp2_with fail
            go_ret
            exact ⟨ret_bool (by rw [hr.out, HA.out]), HB2.out⟩

theorem isNear_any (a b g : Nat) (x last d q : Int) (w : World) (hA : OwnArr w a 3 [.int .i64 x]) (hB : OwnArr w b 3 [.int .i64 last]) (hD : OwnArr w g 3 [.int .i64 d]) (hx : 0 ≤ x ∧ x ≤ 24) (hl : -1 ≤ last ∧ last ≤ 48) (hq : 0 ≤ q ∧ q ≤ 24) :
    Calls Try.prog 56 #[.int .i64 q, .pointer (some ⟨a, 0, none⟩), .pointer (some ⟨b, 0, none⟩), .pointer (some ⟨g, 0, none⟩)] w fun e w' => e = .returned (.bool (decide (x - q ≤ d) && decide (q - last ≤ d))) ∧ Below w.heap.size w w' := by
  have c0 := hA.cell 0
  have c1 := hB.cell 0
  have c2 := hD.cell 0
  simp only [List.getElem?_cons_zero] at c0 c1 c2
  have w1 : IntKind.i64.wrap (x - q) = x - q := IntWalk.i64_in _ (by omega)
  have w2 : IntKind.i64.wrap (q - last) = q - last := IntWalk.i64_in _ (by omega)
  obtain ⟨y, hy⟩ : ∃ y, x - q = y := ⟨_, rfl⟩
  obtain ⟨z, hz⟩ : ∃ z, q - last = z := ⟨_, rfl⟩
  rw [hy] at w1 ⊢
  rw [hz] at w2 ⊢
  have HY := Lib.hid hy
  have HZ := Lib.hid hz
  clear hA hB hD
  by_cases h : y < z
  · have h1 : ¬ z ≤ y := by omega
    have h2 : y ≤ z := by omega
    go_enter Try.func56, Try.ntmps56
    go_wp2_with fail
    go_ret
    exact ⟨ret_bool (by
      by_cases h3 : z ≤ d
      · have h4 : y ≤ d := by omega
        simp [h3, h4]
      · simp [h3]), Below.refl _ _⟩
  · have h1 : z ≤ y := by omega
    go_enter Try.func56, Try.ntmps56
    go_wp2_with fail
    go_ret
    exact ⟨ret_bool (by
      by_cases h3 : y ≤ d
      · have h4 : z ≤ d := by omega
        simp [h3, h4]
      · simp [h3]), Below.refl _ _⟩

theorem any_take9 {P : Int → Bool} {xs : List Int} {k : Nat} (h : k < xs.length) : (xs.take (k + 1)).any P = ((xs.take k).any P || P (xs[k]?.getD 0)) := by
  rw [List.take_succ_eq_append_getElem h, List.any_append, List.getElem?_eq_getElem h]
  simp

set_option maxHeartbeats 1000000 in
theorem index9_any (P : Int → Bool) (v1 v2 v3 : Value) (xs : List Int) (q : Option Addr) (c : Nat) (w : World) (lo hi : Nat) (hin : Ri lo hi w q xs) (hll : xs.length ≤ 1048576)
    (hG : ∀ x ∈ xs, ∀ w', Below w.heap.size w w' → Calls Try.prog 56 #[.int .i64 x, v1, v2, v3] w' fun e w'' => e = .returned (.bool (P x)) ∧ Below w'.heap.size w' w'') :
    Calls Try.prog 63 #[.slice q xs.length c, .func (.func 56) #[] #[v1, v2, v3]] w fun e w' => ∃ r : Int, e = .returned (.int .i64 r) ∧ (0 ≤ r ↔ xs.any P = true) ∧ Below w.heap.size w w' := by
  have HI := Lib.hid hin
  have G := Lib.hid hG
  obtain ⟨k0, hk0⟩ : ∃ k, xs.length = k := ⟨_, rfl⟩
  rw [hk0] at hll ⊢
  have HM := Lib.hid hk0
  clear hin hk0 hG
  go_enter Try.func63, Try.ntmps63
  go_wp2_with fail
  go_loopw [5, 8] (fun _ i wr => ∃ (k : Nat), k ≤ k0 ∧ i = .int .i64 k ∧ Hid ((xs.take k).any P = false) ∧ Hid (Below w.heap.size w wr)) (fun _ i _ => k0 - (intOf i).toNat)
  case atStart => exact ⟨0, Nat.zero_le _, rfl, by show _ = _; simp, Lib.hid (Below.refl _ _)⟩
  case round =>
    obtain ⟨k, hk, rfl, HF, HB⟩ := hrel
    by_cases hlt : k < k0
    · have hk1 : (k : Int) < (k0 : Int) := by omega
      have hkl : k < xs.length := by have := HM.out; omega
      obtain ⟨b, off, rfl, -, -, hbw, hc⟩ := HI.out.int (by omega)
      have h0 := (HB.out.cell (p := ⟨b, off + k, none⟩) hbw).trans (hc k hkl)
      have hmem : xs[k]?.getD 0 ∈ xs := by rw [List.getElem?_eq_getElem hkl]; exact List.getElem_mem hkl
      have HT := Lib.hid (any_take9 (P := P) hkl)
      have G2 := G.out _ hmem wr HB.out
      obtain ⟨y, hy⟩ : ∃ y, xs[k]?.getD 0 = y := ⟨_, rfl⟩
      rw [hy] at h0 HT hmem G2
      have HY : Hid (P y = true → xs.any P = true) := by
        show _ → _
        intro h
        exact List.any_eq_true.2 ⟨y, hmem, h⟩
      obtain ⟨t, ht⟩ : ∃ t, P y = t := ⟨_, rfl⟩
      rw [ht] at G2 HT HY
      replace G2 := Lib.hid G2
      clear hc hy ht hmem
      cases t with
      | true =>
        go_wp2_with fail
        refine G2.out.mono ?_
        rintro e w2 ⟨rfl, hb2⟩
        have HB2 := Lib.hid (HB.out.trans (hb2.mono HB.out.size))
        clear hb2
        go_wp2_with fail
        go_ret
        exact ⟨_, rfl, by have := HY.out trivial; simp [this], HB2.out⟩
      | false =>
        have HF2 : Hid ((xs.take (k + 1)).any P = false) := by
          show _ = _
          rw [HT.out, HF.out]; rfl
        clear HT HF HY
        go_wp2_with fail
        refine G2.out.mono ?_
        rintro e w2 ⟨rfl, hb2⟩
        have HB2 := Lib.hid (HB.out.trans (hb2.mono HB.out.size))
        clear hb2 h0 G2 HB
        go_wp2_with fail
        go_roundw
        case rel => exact ⟨k + 1, by omega, by go_num, HF2, HB2⟩
        case measure => simp [intOf]; omega
    · have hkm : xs.take k = xs := List.take_of_length_le (by have := HM.out; omega)
      have hF := HF.out
      rw [hkm] at hF
      replace hF := Lib.hid hF
      clear HF hkm
      go_wp2_with fail
      go_ret
      exact ⟨_, rfl, by have := hF.out; simp [this], HB.out⟩

set_option maxHeartbeats 1000000 in
theorem contains9_any (P : Int → Bool) (v1 v2 v3 : Value) (xs : List Int) (q : Option Addr) (c : Nat) (w : World) (lo hi : Nat) (hin : Ri lo hi w q xs) (hll : xs.length ≤ 1048576)
    (hG : ∀ x ∈ xs, ∀ w', Below w.heap.size w w' → Calls Try.prog 56 #[.int .i64 x, v1, v2, v3] w' fun e w'' => e = .returned (.bool (P x)) ∧ Below w'.heap.size w' w'') :
    Calls Try.prog 57 #[.slice q xs.length c, .func (.func 56) #[] #[v1, v2, v3]] w fun e w' => e = .returned (.bool (xs.any P)) ∧ Below w.heap.size w w' := by
  have I := Lib.hid (index9_any P v1 v2 v3 xs q c w lo hi hin hll hG)
  obtain ⟨B, hB⟩ : ∃ B, xs.any P = B := ⟨_, rfl⟩
  rw [hB] at I ⊢
  clear hin hG hB
  go_enter Try.func57, Try.ntmps57
  go_wp2_with fail
  refine I.out.mono ?_
  rintro e w' ⟨r, rfl, hr, hb⟩
  replace hr := Lib.hid hr
  have HB := Lib.hid hb
  go_wp2_with fail
  go_ret
  exact ⟨ret_bool (by have := hr.out; cases B <;> simp_all), HB.out⟩

theorem fit_any {n : Nat} {S : Nat → Bool} {d size p : Int} (h0 : 0 ≤ p) (h1 : size ≤ (n : Int) - p) : fitG n S d size p = !((ints (tk n S)).any fun q => decide (p - q ≤ d) && decide (q - (p + size - 1) ≤ d)) := by
  rw [Bool.eq_iff_iff, fitG_true, Bool.not_eq_true', List.any_eq_false]
  constructor
  · rintro ⟨-, -, h⟩ q hq
    obtain ⟨k, rfl, hk, hS⟩ := mem_ints_tk.1 hq
    simpa using h k hk hS
  · intro h
    refine ⟨h0, h1, fun q hq hS => ?_⟩
    have := h q (mem_ints_tk.2 ⟨q, rfl, hq, hS⟩)
    simpa using this

set_option maxRecDepth 4000 in
set_option maxHeartbeats 2000000 in
theorem hasRoom_any (n : Nat) (p : Option Addr) (cap : Nat) (S : Nat → Bool) (z d x : Int) (w : World) (lo hi : Nat) (hin : Ri lo hi w p (ints (tk n S))) (hn : n ≤ 24) (hz : 1 ≤ z) (_ : -9223372036854775808 ≤ x ∧ x ≤ 9223372036854775807) :
    Calls Try.prog 46 #[rowV n false p (ints (tk n S)).length cap, .int .i64 z, .int .i64 d, .int .i64 x] w fun e w' => e = .returned (.bool (fitG n S d z x)) ∧ Below w.heap.size w w' := by
  have hlen := ints_tk_len n S
  have HNO : Hid (¬ (0 ≤ x ∧ z ≤ (n : Int) - x) → fitG n S d z x = false) := by
    show _ → _
    intro h
    cases hC : fitG n S d z x with
    | false => rfl
    | true =>
      have := fitG_true.1 hC
      omega
  have HYE := Lib.hid (fun h0 h1 => fit_any (n := n) (S := S) (d := d) (size := z) (p := x) h0 h1)
  obtain ⟨R, hR⟩ : ∃ R, fitG n S d z x = R := ⟨_, rfl⟩
  rw [hR] at HNO HYE ⊢
  clear hR
  by_cases hx0 : x < 0
  · have hr := HNO.out (by omega)
    subst hr
    have hB2 : Below w.heap.size w (((w.alloc (.cells #[.int .i64 n, .bool false, .slice p (ints (tk n S)).length cap] 28)).alloc (.cells #[.int .i64 d] 3)).alloc (.cells #[.int .i64 x] 3)) := (((Below.refl _ _).alloc (Nat.le_refl _) _).alloc (by simp) _).alloc (by simp; omega) _
    replace hB2 := Lib.hid hB2
    clear HYE HNO hin
    go_enter Try.func46, Try.ntmps46
    go_wp2_with fail
    go_ret
    exact ⟨rfl, hB2.out⟩
  · have w1 : IntKind.i64.wrap ((n : Int) - x) = (n : Int) - x := IntWalk.i64_in _ (by omega)
    by_cases hx1 : z > (n : Int) - x
    · have hr := HNO.out (by omega)
      subst hr
      have hB2 : Below w.heap.size w (((w.alloc (.cells #[.int .i64 n, .bool false, .slice p (ints (tk n S)).length cap] 28)).alloc (.cells #[.int .i64 d] 3)).alloc (.cells #[.int .i64 x] 3)) := (((Below.refl _ _).alloc (Nat.le_refl _) _).alloc (by simp) _).alloc (by simp; omega) _
      replace hB2 := Lib.hid hB2
      clear HYE HNO hin
      go_enter Try.func46, Try.ntmps46
      go_wp2_with fail
      go_ret
      exact ⟨rfl, hB2.out⟩
    · have hr := HYE.out (by omega) (by omega)
      clear HNO HYE
      obtain ⟨X, rfl⟩ : ∃ X : Nat, x = X := ⟨x.toNat, by omega⟩
      obtain ⟨Z, rfl⟩ : ∃ Z : Nat, z = Z := ⟨z.toNat, by omega⟩
      have hX24 : X ≤ 24 := by omega
      have hZ24 : Z ≤ 24 := by omega
      have hZ1 : 1 ≤ Z := by omega
      obtain ⟨L, hL⟩ : ∃ L, (X : Int) + Z - 1 = L := ⟨_, rfl⟩
      have w2 : IntKind.i64.wrap ((X : Int) + Z) = (X : Int) + Z := IntWalk.i64_in _ (by omega)
      have w3 : IntKind.i64.wrap ((X : Int) + Z - 1) = (X : Int) + Z - 1 := IntWalk.i64_in _ (by omega)
      have hLb : -1 ≤ L ∧ L ≤ 48 := by omega
      rw [hL] at hr w3
      have hB4 : Below w.heap.size w ((((w.alloc (.cells #[.int .i64 n, .bool false, .slice p (ints (tk n S)).length cap] 28)).alloc (.cells #[.int .i64 d] 3)).alloc (.cells #[.int .i64 (X : Int)] 3)).alloc (.cells #[.int .i64 L] 3)) := ((((Below.refl _ _).alloc (Nat.le_refl _) _).alloc (by simp) _).alloc (by simp; omega) _).alloc (by simp; omega) _
      have hA : OwnArr ((((w.alloc (.cells #[.int .i64 n, .bool false, .slice p (ints (tk n S)).length cap] 28)).alloc (.cells #[.int .i64 d] 3)).alloc (.cells #[.int .i64 (X : Int)] 3)).alloc (.cells #[.int .i64 L] 3)) (w.heap.size + 1 + 1) 3 [.int .i64 (X : Int)] := (OwnArr.mk' rfl (by simp)).alloc _
      have hBb : OwnArr ((((w.alloc (.cells #[.int .i64 n, .bool false, .slice p (ints (tk n S)).length cap] 28)).alloc (.cells #[.int .i64 d] 3)).alloc (.cells #[.int .i64 (X : Int)] 3)).alloc (.cells #[.int .i64 L] 3)) (w.heap.size + 1 + 1 + 1) 3 [.int .i64 L] := OwnArr.mk' rfl (by simp)
      have hDb : OwnArr ((((w.alloc (.cells #[.int .i64 n, .bool false, .slice p (ints (tk n S)).length cap] 28)).alloc (.cells #[.int .i64 d] 3)).alloc (.cells #[.int .i64 (X : Int)] 3)).alloc (.cells #[.int .i64 L] 3)) (w.heap.size + 1) 3 [.int .i64 d] := ((OwnArr.mk' rfl (by simp)).alloc _).alloc _
      have CF := contains9_any (fun q => decide ((X : Int) - q ≤ d) && decide (q - L ≤ d)) (.pointer (some ⟨w.heap.size + 1 + 1, 0, none⟩)) (.pointer (some ⟨w.heap.size + 1 + 1 + 1, 0, none⟩)) (.pointer (some ⟨w.heap.size + 1, 0, none⟩)) (ints (tk n S)) p cap _ lo hi (hin.bel hB4) (by omega)
        (fun q hq w2 hb2 => by
          obtain ⟨k, rfl, hk, -⟩ := mem_ints_tk.1 hq
          exact isNear_any _ _ _ _ _ _ _ w2 (hA.below hb2 hA.lt) (hBb.below hb2 hBb.lt) (hDb.below hb2 hDb.lt) (by omega) (by omega) (by omega))
      replace CF := Lib.hid CF
      replace hB4 := Lib.hid hB4
      obtain ⟨T, hT⟩ : ∃ T, (ints (tk n S)).any (fun q => decide ((X : Int) - q ≤ d) && decide (q - L ≤ d)) = T := ⟨_, rfl⟩
      rw [hT] at CF hr
      subst hr
      clear hA hBb hDb hin hT hlen
      go_enter Try.func46, Try.ntmps46
      go_wp2_with fail
      refine CF.out.mono ?_
      rintro e w2 ⟨rfl, hb2⟩
      have HB2 := Lib.hid (hB4.out.trans (hb2.mono hB4.out.size))
      clear hb2 CF hB4
      go_wp2_with fail
      go_ret
      exact ⟨rfl, HB2.out⟩
end Go.Proofs.Ytogdiahojbonaaa
