/- The laws' own helpers on lists of lists: eqIntSS, markIntSS, heldIntSS. -/
import Derived.Test.YtkbpfjhikabbmaaInts
import Derived.StillTailTactics
namespace Go.Proofs.Ytkbpfjhikabbmaa
open Go.RowKit

/-- a list of lists that can be read -/
def RdS (lo hi : Nat) (w : World) (p : Option Addr) (Ls : List (List Int)) : Prop :=
  ∃ us : List Value, Rd lo hi w p us ∧ us.length = Ls.length ∧ ∀ (i : Nat) (x : List Int), Ls[i]? = some x → ∃ q c, us[i]? = some (.slice q x.length c) ∧ Ri lo hi w q x
theorem RdS.bel {lo hi : Nat} {w w' : World} {p : Option Addr} {Ls : List (List Int)} (h : RdS lo hi w p Ls) (hb : Below w.heap.size w w') : RdS lo hi w' p Ls := by
  obtain ⟨us, h1, h2, h3⟩ := h
  refine ⟨us, h1.bel hb, h2, fun i x hx => ?_⟩
  obtain ⟨q, c, e, hr⟩ := h3 i x hx
  exact ⟨q, c, e, hr.bel hb⟩
theorem RdS.keep {lo hi a b : Nat} {w w' : World} {p : Option Addr} {Ls : List (List Int)} (h : RdS a b w p Ls) (hk : Keep lo hi w w') (hd : b ≤ lo ∨ hi ≤ a) : RdS a b w' p Ls := by
  obtain ⟨us, h1, h2, h3⟩ := h
  refine ⟨us, h1.keep hk hd, h2, fun i x hx => ?_⟩
  obtain ⟨q, c, e, hr⟩ := h3 i x hx
  exact ⟨q, c, e, hr.keep hk hd⟩
/-- what is read of one of the lists -/
theorem RdS.at {lo hi : Nat} {w : World} {p : Option Addr} {Ls : List (List Int)} (h : RdS lo hi w p Ls) {i : Nat} (hi' : i < Ls.length) : ∃ b off q c x, Ls[i]? = some x ∧ p = some ⟨b, off, none⟩ ∧ w.cell? ⟨b, off + i, none⟩ = some (.slice q x.length c) ∧ Ri lo hi w q x := by
  obtain ⟨us, h1, h2, h3⟩ := h
  obtain ⟨b, off, e, -, -, hc⟩ := h1.cells (by omega)
  obtain ⟨q, c, e2, hr⟩ := h3 i Ls[i] (List.getElem?_eq_getElem hi')
  exact ⟨b, off, q, c, Ls[i], List.getElem?_eq_getElem hi', e, (hc i (by omega)).trans e2, hr⟩

set_option maxRecDepth 4000 in
set_option maxHeartbeats 1000000 in
theorem eqSS_same (p p' : Option Addr) (cap cap' : Nat) (Ls : List (List Int)) (w : World) (lo hi lo' hi' : Nat) (hin : RdS lo hi w p Ls) (hin' : RdS lo' hi' w p' Ls) (hl : Ls.length ≤ 1048576) (hlx : ∀ x ∈ Ls, x.length ≤ 1048576) :
    Calls Try.prog 8 #[.slice p Ls.length cap, .slice p' Ls.length cap'] w fun e w' => e = .returned (.bool true) ∧ Below w.heap.size w w' := by
  have H1 := Lib.hid hin
  have H2 := Lib.hid hin'
  have HX := Lib.hid hlx
  obtain ⟨n, hn⟩ : ∃ n, Ls.length = n := ⟨_, rfl⟩
  have HN := Lib.hid hn
  rw [hn] at hl ⊢
  clear hin hin' hlx hn
  go_enter Try.func8, Try.ntmps8
  go_wp2_with fail
  go_loopw [5] (fun i wr => ∃ k : Nat, k ≤ n ∧ i = .int .i64 (k : Int) ∧ Hid (Below w.heap.size w wr)) (fun i _ => n - (intOf i).toNat)
  case atStart => exact ⟨0, Nat.zero_le _, rfl, Below.refl _ _⟩
  case round =>
    obtain ⟨k, hk, rfl, HB⟩ := hrel
    by_cases hlt : k < n
    · have hki : (k : Int) < (n : Int) := by omega
      have hwk : IntKind.i64.wrap ((k : Int) + 1) = (k : Int) + 1 := IntWalk.i64_in _ (by omega)
      obtain ⟨b, off, q, c, x, hx, rfl, c1, r1⟩ := (H1.out.bel HB.out).at (i := k) (by rw [HN.out]; exact hlt)
      obtain ⟨b', off', q', c', x', hx', rfl, c2, r2⟩ := (H2.out.bel HB.out).at (i := k) (by rw [HN.out]; exact hlt)
      have hxx : x' = x := by rw [hx] at hx'; simpa using hx'.symm
      subst hxx
      have hxl := HX.out x' (List.mem_of_getElem? hx)
      have hbd : Below wr.heap.size wr wr.drew := (Below.refl _ wr).drew
      have EQ := Lib.hid (eqI_same q q' c c' x' wr.drew _ _ _ _ (r1.bel hbd) (r2.bel hbd) (by omega))
      obtain ⟨m, hm⟩ : ∃ m, x'.length = m := ⟨_, rfl⟩
      rw [hm] at c1 c2 EQ
      have HBD := Lib.hid HB.out.drew
      clear hx hx' r1 r2 hbd hm hxl HB
      go_wp2_with fail
      go_still_tail 8, (by kernel_rfl)
      change wpList _ _ _ _ _ wr.drew
      go_wp2_with fail
      refine EQ.out.mono ?_
      rintro e w2 ⟨rfl, hb⟩
      have HB2 := Lib.hid (HBD.out.trans (hb.mono HBD.out.size))
      clear hb EQ c1 c2
      go_wp2_with fail
      go_roundw
      case rel => exact ⟨k + 1, by omega, by go_num, HB2⟩
      case measure => simp [intOf]; omega
    · have hkn : k = n := by omega
      subst hkn
      have hno : ¬ (k : Int) < (k : Int) := by omega
      go_wp2_with fail
      go_ret
      exact ⟨rfl, HB.out⟩

/-- the marks of lists: each goes on where the one before it ends -/
def mkS : Nat → List Nat → List (List Int)
  | _, [] => []
  | k, n :: ns => mk k n :: mkS (k + n) ns
def sumS (ns : List Nat) : Nat := ns.foldl (· + ·) 0
theorem sum_acc (ns : List Nat) : ∀ a, ns.foldl (· + ·) a = a + sumS ns := by
  unfold sumS
  induction ns with
  | nil => intro a; rfl
  | cons n ns ih => intro a; rw [List.foldl_cons, List.foldl_cons, ih (a + n), ih (0 + n)]; omega
theorem sumS_cons (n : Nat) (ns : List Nat) : sumS (n :: ns) = n + sumS ns := by
  show (n :: ns).foldl (· + ·) 0 = _
  rw [List.foldl_cons, sum_acc]; omega
theorem mkS_len : ∀ (k : Nat) (ns : List Nat), (mkS k ns).length = ns.length
  | _, [] => rfl
  | k, n :: ns => by show (mkS (k + n) ns).length + 1 = _; rw [mkS_len]; rfl
theorem sumS_take_succ {ns : List Nat} {i : Nat} (h : i < ns.length) : sumS (ns.take (i + 1)) = sumS (ns.take i) + ns[i]?.getD 0 := by
  rw [List.take_succ_eq_append_getElem h]
  unfold sumS
  rw [List.foldl_append, List.getElem?_eq_getElem h]
  rfl
theorem mkS_get : ∀ (k : Nat) (ns : List Nat) (i : Nat), i < ns.length → (mkS k ns)[i]? = some (mk (k + sumS (ns.take i)) (ns[i]?.getD 0))
  | _, [], i, h => by simp at h
  | k, n :: ns, 0, _ => by simp [mkS, sumS]
  | k, n :: ns, i + 1, h => by
    have := mkS_get (k + n) ns i (by simpa using h)
    show (mkS (k + n) ns)[i]? = _
    rw [this, List.take_succ_cons, sumS_cons, ← Nat.add_assoc]
    rfl
theorem sumS_le {ns : List Nat} {i : Nat} (h : i < ns.length) : sumS (ns.take i) + ns[i]?.getD 0 ≤ sumS ns := by
  have e : ns = ns.take (i + 1) ++ ns.drop (i + 1) := (List.take_append_drop _ _).symm
  have h2 : sumS ns = sumS (ns.take (i + 1)) + sumS (ns.drop (i + 1)) := by
    conv => lhs; rw [e]
    unfold sumS
    rw [List.foldl_append, sum_acc]
    rfl
  rw [h2, sumS_take_succ h]
  omega
theorem sumS_all (ns : List Nat) : sumS (ns.take ns.length) = sumS ns := by rw [List.take_length]

set_option maxRecDepth 4000 in
set_option maxHeartbeats 1000000 in
theorem heldSS_any (p : Option Addr) (cap : Nat) (ns : List Nat) (k : Nat) (w : World) (lo hi : Nat) (hin : RdS lo hi w p (mkS k ns)) (hl : ns.length ≤ 1048576) (h1 : k + sumS ns ≤ 10000000) :
    Calls Try.prog 10 #[.slice p ns.length cap, .int .i64 (k : Int)] w fun e w' => e = .returned (.int .i64 ((k + sumS ns : Nat) : Int)) ∧ Below w.heap.size w w' := by
  have H1 := Lib.hid hin
  have HG := Lib.hid (mkS_get k ns)
  have HL := Lib.hid (mkS_len k ns)
  have HS := Lib.hid (fun i (h : i < ns.length) => sumS_le h)
  have HT := Lib.hid (fun i (h : i < ns.length) => sumS_take_succ h)
  have HA := Lib.hid (sumS_all ns)
  obtain ⟨T, hT⟩ : ∃ T : Nat → Nat, (fun i => sumS (ns.take i)) = T := ⟨_, rfl⟩
  have HTT : Hid (∀ i, sumS (ns.take i) = T i) := fun i => by rw [← hT]
  have hT0 : T 0 = 0 := by rw [← HTT.out]; rfl
  obtain ⟨R, hR⟩ : ∃ R, sumS ns = R := ⟨_, rfl⟩
  rw [hR] at HS HA h1 ⊢
  simp only [HTT.out] at HG HS HT HA
  obtain ⟨n, hn⟩ : ∃ n, ns.length = n := ⟨_, rfl⟩
  rw [hn] at hl HG HL HS HT HA ⊢
  have HT0 := Lib.hid hT0
  clear hin hT hR hn hT0
  go_enter Try.func10, Try.ntmps10
  go_wp2_with fail
  go_loopw [1, 5] (fun v i wr => ∃ j : Nat, j ≤ n ∧ v = .int .i64 ((k + T j : Nat) : Int) ∧ i = .int .i64 (j : Int) ∧ Hid (Below w.heap.size w wr)) (fun _ i _ => n - (intOf i).toNat)
  case atStart => exact ⟨0, Nat.zero_le _, by rw [HT0.out]; rfl, rfl, Below.refl _ _⟩
  case round =>
    obtain ⟨j, hj, rfl, rfl, HB⟩ := hrel
    by_cases hlt : j < n
    · have hji : (j : Int) < (n : Int) := by omega
      have hwj : IntKind.i64.wrap ((j : Int) + 1) = (j : Int) + 1 := IntWalk.i64_in _ (by omega)
      obtain ⟨b, off, q, c, x, hx, rfl, c1, r1⟩ := (H1.out.bel HB.out).at (i := j) (by rw [HL.out]; exact hlt)
      have hg := HG.out j hlt
      rw [hx] at hg
      simp only [Option.some.injEq] at hg
      have hs := HS.out j hlt
      have ht := HT.out j hlt
      obtain ⟨m, hm⟩ : ∃ m, ns[j]?.getD 0 = m := ⟨_, rfl⟩
      rw [hm] at hg hs ht
      obtain ⟨t, htt⟩ : ∃ t, T j = t := ⟨_, rfl⟩
      rw [htt] at hg hs ht ⊢
      subst hg
      rw [mk_length] at c1
      have HE := Lib.hid (heldI_any q _ _ m c (k + t) wr r1 (by omega))
      have HTE := Lib.hid ht
      have h0 : ¬ ((k + t + m : Nat) : Int) < 0 := by omega
      clear hx hs ht hm htt r1
      go_wp2_with fail
      refine HE.out.mono ?_
      rintro e w2 ⟨rfl, hb⟩
      have HB2 := Lib.hid (HB.out.trans (hb.mono HB.out.size))
      clear hb HE c1
      go_wp2_with fail
      go_roundw
      case rel => exact ⟨j + 1, by omega, by rw [HTE.out]; congr 1; omega, by go_num, HB2⟩
      case measure => simp [intOf]; omega
    · have hjn : j = n := by omega
      subst hjn
      have hno : ¬ (j : Int) < (j : Int) := by omega
      have hr := HA.out
      rw [hr]
      go_wp2_with fail
      go_ret
      exact ⟨rfl, HB.out⟩

/-- lists that may be written, each in a block of its own -/
structure OwnS (lo hi : Nat) (w : World) (p : Option Addr) (ns : List Nat) (g : Nat) (bs : Nat → Nat) (cs : Nat → Nat) : Prop where
  out : Rd g (g + 1) w p ((List.range ns.length).map fun i => Value.slice (some ⟨bs i, 0, none⟩) (ns[i]?.getD 0) (cs i))
  glo : lo ≤ g ∧ g < hi
  top : hi ≤ w.heap.size
  inn : ∀ i, i < ns.length → Own (bs i) (bs i + 1) w 3 (some ⟨bs i, 0, none⟩) (ns[i]?.getD 0)
  low : ∀ i, i < ns.length → lo ≤ bs i ∧ bs i < hi ∧ bs i ≠ g
  apart : ∀ i j, i < ns.length → j < ns.length → i ≠ j → bs i ≠ bs j
theorem OwnS.bel {lo hi : Nat} {w w' : World} {p : Option Addr} {ns : List Nat} {g : Nat} {bs cs : Nat → Nat} (h : OwnS lo hi w p ns g bs cs) (hb : Below w.heap.size w w') : OwnS lo hi w' p ns g bs cs :=
  ⟨h.out.bel hb, h.glo, Nat.le_trans h.top hb.size, fun i hi' => (h.inn i hi').bel hb, h.low, h.apart⟩
theorem OwnS.cell {lo hi : Nat} {w : World} {p : Option Addr} {ns : List Nat} {g : Nat} {bs cs : Nat → Nat} (h : OwnS lo hi w p ns g bs cs) {i : Nat} (hi' : i < ns.length) : ∃ b off, p = some ⟨b, off, none⟩ ∧ w.cell? ⟨b, off + i, none⟩ = some (.slice (some ⟨bs i, 0, none⟩) (ns[i]?.getD 0) (cs i)) := by
  obtain ⟨b, off, e, -, -, hc⟩ := h.out.cells (by rw [List.length_map, List.length_range]; omega)
  refine ⟨b, off, e, (hc i (by rw [List.length_map, List.length_range]; exact hi')).trans ?_⟩
  rw [List.getElem?_map, List.getElem?_range hi']; rfl
/-- one of the lists is marked -/
theorem OwnS.mark {lo hi : Nat} {w w' : World} {p : Option Addr} {ns : List Nat} {g : Nat} {bs cs : Nat → Nat} (h : OwnS lo hi w p ns g bs cs) {i : Nat} (hi' : i < ns.length) (ho : Own (bs i) (bs i + 1) w' 3 (some ⟨bs i, 0, none⟩) (ns[i]?.getD 0)) (hk : Keep (bs i) (bs i + 1) w w') : OwnS lo hi w' p ns g bs cs := by
  obtain ⟨l1, l2, l3⟩ := h.low i hi'
  refine ⟨h.out.keep hk (by omega), h.glo, Nat.le_trans h.top hk.size, fun j hj => ?_, h.low, h.apart⟩
  by_cases e : j = i
  · subst e; exact ho
  · have := h.apart j i hj hi' e
    exact (h.inn j hj).keep hk (by omega)
theorem ownS_read {lo hi : Nat} {w : World} {p : Option Addr} {ns : List Nat} {g : Nat} {bs cs : Nat → Nat} (h : OwnS lo hi w p ns g bs cs) (k : Nat) (hr : ∀ i, i < ns.length → Ri (bs i) (bs i + 1) w (some ⟨bs i, 0, none⟩) (mk (k + sumS (ns.take i)) (ns[i]?.getD 0))) : RdS lo hi w p (mkS k ns) := by
  obtain ⟨g1, g2⟩ := h.glo
  refine ⟨_, h.out.mono g1 g2 h.top, by rw [List.length_map, List.length_range, mkS_len], fun i x hx => ?_⟩
  have hi' : i < ns.length := by have := (List.getElem?_eq_some_iff.1 hx).1; rw [mkS_len] at this; exact this
  rw [mkS_get k ns i hi'] at hx
  simp only [Option.some.injEq] at hx
  subst hx
  obtain ⟨l1, l2, -⟩ := h.low i hi'
  refine ⟨some ⟨bs i, 0, none⟩, cs i, ?_, (hr i hi').mono l1 l2 h.top⟩
  rw [List.getElem?_map, List.getElem?_range hi', mk_length]; rfl

set_option maxRecDepth 4000 in
set_option maxHeartbeats 1000000 in
theorem markSS_any (p : Option Addr) (cap : Nat) (ns : List Nat) (k : Nat) (w : World) (lo hi g : Nat) (bs cs : Nat → Nat) (hin : OwnS lo hi w p ns g bs cs) (hl : ns.length ≤ 1048576) (h1 : k + sumS ns ≤ 10000000) :
    Calls Try.prog 9 #[.slice p ns.length cap, .int .i64 (k : Int)] w fun e w' => e = .returned (.int .i64 ((k + sumS ns : Nat) : Int)) ∧ RdS lo hi w' p (mkS k ns) ∧ OwnS lo hi w' p ns g bs cs ∧ Keep lo hi w w' := by
  have H1 := Lib.hid hin
  have HRD := Lib.hid (fun (w' : World) (h : OwnS lo hi w' p ns g bs cs) hr => ownS_read h k hr)
  have HS := Lib.hid (fun i (h : i < ns.length) => sumS_le h)
  have HT := Lib.hid (fun i (h : i < ns.length) => sumS_take_succ h)
  have HA := Lib.hid (sumS_all ns)
  obtain ⟨T, hT⟩ : ∃ T : Nat → Nat, (fun i => sumS (ns.take i)) = T := ⟨_, rfl⟩
  have HTT : Hid (∀ i, sumS (ns.take i) = T i) := fun i => by rw [← hT]
  have hT0 : T 0 = 0 := by rw [← HTT.out]; rfl
  obtain ⟨R, hR⟩ : ∃ R, sumS ns = R := ⟨_, rfl⟩
  rw [hR] at HS HA h1 ⊢
  simp only [HTT.out] at HS HT HA HRD
  obtain ⟨n, hn⟩ : ∃ n, ns.length = n := ⟨_, rfl⟩
  have HN := Lib.hid hn
  rw [hn] at hl HS HT HA HRD ⊢
  have HT0 := Lib.hid hT0
  clear hin hT hR hn hT0
  go_enter Try.func9, Try.ntmps9
  go_wp2_with fail
  go_loopw [1, 5] (fun v i wr => ∃ j : Nat, j ≤ n ∧ v = .int .i64 ((k + T j : Nat) : Int) ∧ i = .int .i64 (j : Int) ∧ Hid (OwnS lo hi wr p ns g bs cs) ∧ Hid (∀ i', i' < j → Ri (bs i') (bs i' + 1) wr (some ⟨bs i', 0, none⟩) (mk (k + T i') (ns[i']?.getD 0))) ∧ Hid (Keep lo hi w wr)) (fun _ i _ => n - (intOf i).toNat)
  case atStart => exact ⟨0, Nat.zero_le _, by rw [HT0.out]; rfl, rfl, H1, by show ∀ _, _; intro i h; omega, Keep.refl _ _ _⟩
  case round =>
    obtain ⟨j, hj, rfl, rfl, HO, HM, HK⟩ := hrel
    clear H1
    by_cases hlt : j < n
    · have hji : (j : Int) < (n : Int) := by omega
      have hwj : IntKind.i64.wrap ((j : Int) + 1) = (j : Int) + 1 := IntWalk.i64_in _ (by omega)
      obtain ⟨b, off, rfl, c1⟩ := HO.out.cell (i := j) (by rw [HN.out]; exact hlt)
      have hs := HS.out j hlt
      have ht := HT.out j hlt
      have MI := markI_any (some ⟨bs j, 0, none⟩) (bs j) (bs j + 1) (ns[j]?.getD 0) (cs j) (k + T j) wr (HO.out.inn j (by rw [HN.out]; exact hlt)) (by omega)
      have NX : Hid (∀ w', Ri (bs j) (bs j + 1) w' (some ⟨bs j, 0, none⟩) (mk (k + T j) (ns[j]?.getD 0)) → Own (bs j) (bs j + 1) w' 3 (some ⟨bs j, 0, none⟩) (ns[j]?.getD 0) → Keep (bs j) (bs j + 1) wr w' → OwnS lo hi w' (some ⟨b, off, none⟩) ns g bs cs ∧ (∀ i', i' < j + 1 → Ri (bs i') (bs i' + 1) w' (some ⟨bs i', 0, none⟩) (mk (k + T i') (ns[i']?.getD 0))) ∧ Keep lo hi w w') := by
        intro w' hr ho hk
        obtain ⟨l1, l2, -⟩ := HO.out.low j (by rw [HN.out]; exact hlt)
        refine ⟨HO.out.mark (by rw [HN.out]; exact hlt) ho hk, fun i' hi' => ?_, HK.out.trans (hk.mono l1 l2)⟩
        by_cases e : i' = j
        · subst e; exact hr
        · have := HO.out.apart i' j (by rw [HN.out]; omega) (by rw [HN.out]; exact hlt) e
          exact (HM.out i' (by omega)).keep hk (by omega)
      obtain ⟨m, hm⟩ : ∃ m, ns[j]?.getD 0 = m := ⟨_, rfl⟩
      rw [hm] at c1 hs ht MI NX
      obtain ⟨t, htt⟩ : ∃ t, T j = t := ⟨_, rfl⟩
      rw [htt] at hs ht MI NX ⊢
      have HTE := Lib.hid ht
      replace MI := Lib.hid MI
      clear hm htt ht hs HO HM HK
      go_wp2_with fail
      refine MI.out.mono ?_
      rintro e w2 ⟨rfl, hr, ho, hk⟩
      obtain ⟨n1, n2, n3⟩ := NX.out w2 hr ho hk
      have N1 := Lib.hid n1
      have N2 := Lib.hid n2
      have N3 := Lib.hid n3
      clear MI c1 n1 n2 n3 hr ho hk NX
      go_wp2_with fail
      go_roundw
      case rel => exact ⟨j + 1, by omega, by rw [HTE.out]; congr 1; omega, by go_num, N1, N2, N3⟩
      case measure => simp [intOf]; omega
    · have hjn : j = n := by omega
      subst hjn
      have hno : ¬ (j : Int) < (j : Int) := by omega
      have hr := HA.out
      rw [hr]
      go_wp2_with fail
      go_ret
      exact ⟨rfl, HRD.out _ HO.out HM.out, HO.out, HK.out⟩
end Go.Proofs.Ytkbpfjhikabbmaa
