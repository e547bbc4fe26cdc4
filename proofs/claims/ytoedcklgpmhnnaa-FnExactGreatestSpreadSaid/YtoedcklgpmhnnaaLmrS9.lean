/- Chapter 9, spec side: spec.l9More, spec.l9First. -/
import Derived.Test.YtoedcklgpmhnnaaLmrM9
import Derived.Test.YtoedcklgpmhnnaaOwnL
import Derived.Deep.RegionLaw
namespace Go.Proofs.Ytoedcklgpmhnnaa
open Go.RowKit

/-- what the search gives -/
def rsL (n : Nat) (ring : Bool) (S : Nat → Bool) (D j : Nat) (c : List Nat) : List Nat := (resL n ring S D j c).getD []
def okL (n : Nat) (ring : Bool) (S : Nat → Bool) (D j : Nat) (c : List Nat) : Bool := (resL n ring S D j c).isSome
theorem rsL_no {n : Nat} {ring : Bool} {S : Nat → Bool} {D j : Nat} {c : List Nat} (h : okL n ring S D j c = false) : rsL n ring S D j c = [] := by
  unfold okL at h
  unfold rsL
  cases e : resL n ring S D j c with
  | none => rfl
  | some y => rw [e] at h; cases h
theorem okL_none {n : Nat} {ring : Bool} {S : Nat → Bool} {D j : Nat} {c : List Nat} (h : okL n ring S D j c = false) : resL n ring S D j c = none := by
  unfold okL at h
  cases e : resL n ring S D j c with
  | none => rfl
  | some y => rw [e] at h; cases h
theorem rsL_next {n : Nat} {ring : Bool} {S : Nat → Bool} {D j : Nat} {c : List Nat} {p : Nat} (hc : c ≠ []) (h1 : frG9 c ≤ p) (h2 : p < n) (h3 : mayM n ring S D c p = true) (h4 : ∀ q, frG9 c ≤ q → q < p → mayM n ring S D c q = false) :
    rsL n ring S D (j + 1) c = rsL n ring S D j (c ++ [p]) ∧ okL n ring S D (j + 1) c = okL n ring S D j (c ++ [p]) := by
  unfold rsL okL
  rw [resL_next hc h1 h2 h3 h4]
  exact ⟨rfl, rfl⟩
theorem rsL_stop {n : Nat} {ring : Bool} {S : Nat → Bool} {D j : Nat} {c : List Nat} (hc : c ≠ []) (h : ∀ q, frG9 c ≤ q → q < n → mayM n ring S D c q = false) : rsL n ring S D (j + 1) c = [] ∧ okL n ring S D (j + 1) c = false := by
  unfold rsL okL
  rw [resL_stop hc h]
  exact ⟨rfl, rfl⟩
theorem rsL_first {n : Nat} {ring : Bool} {S : Nat → Bool} {D j p : Nat} (h2 : p < n) (h3 : mayM n ring S D [] p = true) (hy : okL n ring S D j [p] = true) (h4 : ∀ q, q < p → mayM n ring S D [] q = true → okL n ring S D j [q] = false) : rsL n ring S D (j + 1) [] = rsL n ring S D j [p] ∧ okL n ring S D (j + 1) [] = true := by
  unfold okL at hy
  cases e : resL n ring S D j [p] with
  | none => rw [e] at hy; cases hy
  | some y =>
    unfold rsL okL
    rw [resL_first h2 h3 e (fun q h5 h6 => okL_none (h4 q h5 h6)), e]
    exact ⟨rfl, rfl⟩
theorem rsL_nofirst {n : Nat} {ring : Bool} {S : Nat → Bool} {D j : Nat} (h4 : ∀ q, q < n → mayM n ring S D [] q = true → okL n ring S D j [q] = false) : rsL n ring S D (j + 1) [] = [] ∧ okL n ring S D (j + 1) [] = false := by
  unfold rsL okL
  rw [resL_nofirst (fun q h5 h6 => okL_none (h4 q h5 h6))]
  exact ⟨rfl, rfl⟩
theorem ints_snocL (l : List Nat) (k : Nat) : ints (l ++ [k]) = ints l ++ [(k : Int)] := by unfold ints; rw [List.map_append]; rfl

set_option maxRecDepth 4000 in
set_option maxHeartbeats 10000000 in
theorem l9More_any (n : Nat) (ring : Bool) (p : Option Addr) (cap : Nat) (S : Nat → Bool) (D K : Nat) (hn1 : 1 ≤ n) (hn : n ≤ 24) (hK : K ≤ 24) : ∀ (j : Nat) (b : List Nat) (B : Nat) (v : Value) (w : World) (lo hi : Nat), Ri lo hi w p (ints (tk n S)) → b.length + j = K → b.Pairwise (· < ·) → (∀ x ∈ b, x < n) → Out B w v (ints b) → B ≤ w.heap.size →
    Calls Try.prog 65 #[rowV n ring p (ints (tk n S)).length cap, v, .int .i64 (K : Int), .int .i64 (D : Int)] w fun e w' => ∃ v', e = .returned (.tuple #[v', .bool (okL n ring S D j b)]) ∧ Out B w' v' (ints (rsL n ring S D j b)) ∧ Below w.heap.size w w' := by
  intro j
  induction j with
  | zero =>
    intro b B v w lo hi hin hbj hs hb hO hB
    obtain ⟨q, c, rfl, -, -, hR, -⟩ := Out.rd hO
    have HB := Lib.hid (box_below w n ring p (ints (tk n S)).length cap 28)
    have z1 : okL n ring S D 0 b = true := by unfold okL; rw [resL_zero]; rfl
    have z2 : rsL n ring S D 0 b = b := by unfold rsL; rw [resL_zero]; rfl
    rw [z1, z2]
    have HO := Lib.hid (hO.below HB.out)
    have hlK : (ints b).length = K := by rw [ints_length]; omega
    rw [hlK] at HO ⊢
    obtain ⟨m, hm⟩ : ∃ m, (ints (tk n S)).length = m := ⟨_, rfl⟩
    rw [hm] at HB HO ⊢
    clear hO hR hs hb z1 z2 hlK hbj hin hm
    go_enter Try.func65, Try.ntmps65
    go_wp2_with fail
    go_ret2
    exact ⟨_, rfl, HO.out, HB.out⟩
  | succ j ih =>
    intro b B v w lo hi hin hbj hs hb hO hB
    obtain ⟨q, c, rfl, hlc, -, hR, -⟩ := Out.rd hO
    have HX := Lib.hid (OwnArr.made w 28 [.int .i64 n, .bool ring, .slice p (ints (tk n S)).length cap])
    have HB := Lib.hid (box_below w n ring p (ints (tk n S)).length cap 28)
    have hmi : (ints b).length = b.length := ints_length b
    have OWN := Lib.hid (fun (w' : World) (h' : Below w.heap.size w w') => l1Own_any q c (ints b) w' B w.heap.size (hR.below h' hR.top) (by omega))
    have MY := Lib.hid (fun (x : Nat) (hx : x < n) (w' : World) (h' : Below w.heap.size w w') => by
      have h := l9May_any n ring p cap S q c b x D w' lo hi B w.heap.size (hin.below h' hin.top) hn (hR.below h' hR.top) hb (by omega) hx
      rw [← ints_length b] at h
      exact h)
    have hNXT := fun (hc : b ≠ []) x h1 h2 h3 h4 => rsL_next (n := n) (ring := ring) (S := S) (D := D) (j := j) (c := b) (p := x) hc h1 h2 h3 h4
    have hSTP := fun (hc : b ≠ []) h => rsL_stop (n := n) (ring := ring) (S := S) (D := D) (j := j) (c := b) hc h
    have hRNO := fun x h => rsL_no (n := n) (ring := ring) (S := S) (D := D) (j := j) (c := b ++ [x]) h
    have hFST : b = [] → ∀ x, x < n → mayM n ring S D b x = true → okL n ring S D j (b ++ [x]) = true → (∀ q, q < x → mayM n ring S D b q = true → okL n ring S D j (b ++ [q]) = false) → rsL n ring S D (j + 1) b = rsL n ring S D j (b ++ [x]) ∧ okL n ring S D (j + 1) b = true := by
      rintro rfl x h1 h2 h3 h4
      exact rsL_first h1 h2 h3 h4
    have hNFS : b = [] → (∀ q, q < n → mayM n ring S D b q = true → okL n ring S D j (b ++ [q]) = false) → rsL n ring S D (j + 1) b = [] ∧ okL n ring S D (j + 1) b = false := by
      rintro rfl h
      exact rsL_nofirst h
    have hIH := fun (x : Nat) (hx : frG9 b ≤ x) (hx2 : x < n) (v' : Value) (w' : World) (hw : Below w.heap.size w w') (B' : Nat) (h1 : Out B' w' v' (ints b ++ [(x : Int)])) (h2 : B' ≤ w'.heap.size) => ih (b ++ [x]) B' v' w' lo hi (hin.below hw hin.top) (by rw [List.length_append]; simp; omega) (snoc_ok hs hb hx hx2).1 (snoc_ok hs hb hx hx2).2 (by rw [ints_snocL]; exact h1) h2
    have HLC := Lib.hid (fun (w' : World) (h' : Below w.heap.size w w') (h0 : 0 < b.length) => by
      obtain ⟨bb, off, e, -, -, -, hc⟩ := (hR.below h' hR.top).int (by rw [ints_length]; exact h0)
      have := hc (b.length - 1) (by rw [ints_length]; omega)
      rw [ints_get (by omega)] at this
      exact (⟨bb, off, e, this⟩ : ∃ bb off, q = some ⟨bb, off, none⟩ ∧ w'.cell? ⟨bb, off + (b.length - 1), none⟩ = some (.int .i64 ((b[b.length - 1]?.getD 0 : Nat) : Int))))
    have hLST : 0 < b.length → b ≠ [] ∧ frG9 b = b[b.length - 1]?.getD 0 + 1 ∧ b[b.length - 1]?.getD 0 < n := by
      intro h0
      have hne : b ≠ [] := fun e => by rw [e] at h0; cases h0
      have hl := List.getLast?_eq_some_getLast hne
      have e2 : b.getLast hne = b[b.length - 1]?.getD 0 := by
        rw [List.getLast_eq_getElem, List.getElem?_eq_getElem (by omega)]; rfl
      refine ⟨hne, ?_, hb _ (nat_mem (by omega))⟩
      unfold frG9; rw [hl, e2]
    have hEMP : b.length = 0 → b = [] ∧ frG9 b = 0 := by
      intro h0
      have : b = [] := List.length_eq_zero_iff.1 h0
      subst this
      exact ⟨rfl, rfl⟩
    obtain ⟨R, hRR⟩ : ∃ R, rsL n ring S D (j + 1) b = R := ⟨_, rfl⟩
    obtain ⟨T, hDD⟩ : ∃ T, okL n ring S D (j + 1) b = T := ⟨_, rfl⟩
    simp only [hRR, hDD] at hNXT hSTP hFST hNFS ⊢
    obtain ⟨F, hF⟩ : ∃ F, frG9 b = F := ⟨_, rfl⟩
    simp only [hF] at hNXT hSTP hIH hLST hEMP
    obtain ⟨OK, hOK⟩ : ∃ f : Nat → Bool, f = fun x => okL n ring S D j (b ++ [x]) := ⟨_, rfl⟩
    obtain ⟨RS, hRS⟩ : ∃ f : Nat → List Nat, f = fun x => rsL n ring S D j (b ++ [x]) := ⟨_, rfl⟩
    obtain ⟨MA, hMA⟩ : ∃ f : Nat → Bool, f = fun x => mayM n ring S D b x := ⟨_, rfl⟩
    have hok : ∀ x, okL n ring S D j (b ++ [x]) = OK x := fun x => by rw [hOK]
    have hrs : ∀ x, rsL n ring S D j (b ++ [x]) = RS x := fun x => by rw [hRS]
    have hma : ∀ x, mayM n ring S D b x = MA x := fun x => by rw [hMA]
    simp only [hok, hrs, hma] at hNXT hSTP hFST hNFS hRNO hIH MY
    have NXT := Lib.hid hNXT
    have STP := Lib.hid hSTP
    have FST := Lib.hid hFST
    have NFS := Lib.hid hNFS
    have RNO := Lib.hid hRNO
    obtain ⟨mb, hmb⟩ : ∃ k, b.length = k := ⟨_, rfl⟩
    rw [hmb] at hmi hLST hEMP HLC
    rw [hmi] at OWN MY ⊢
    obtain ⟨m, hm⟩ : ∃ m, (ints (tk n S)).length = m := ⟨_, rfl⟩
    rw [hm] at HX HB MY hIH ⊢
    have IH : Hid (∀ (x : Nat), F ≤ x → x < n → ∀ (p3 : Option Addr) (c3 : Nat) (w' : World), Below w.heap.size w w' → ∀ (B' : Nat), Out B' w' (.slice p3 (mb + 1) c3) (ints b ++ [(x : Int)]) → B' ≤ w'.heap.size → Calls Try.prog 65 #[rowV n ring p m cap, .slice p3 (mb + 1) c3, .int .i64 (K : Int), .int .i64 (D : Int)] w' fun e w'' => ∃ v', e = .returned (.tuple #[v', .bool (OK x)]) ∧ Out B' w'' v' (ints (RS x)) ∧ Below w'.heap.size w' w'') := fun x h1 h2 p3 c3 w' hw B' h3 h4 => hIH x h1 h2 _ w' hw B' h3 h4
    have HMI := Lib.hid hmi
    have hmbK : mb + 1 ≤ 24 := by omega
    have hne : ¬ (mb : Int) = (K : Int) := by omega
    have hne2 : ¬ mb = K := by omega
    have hne3 : ((mb : Int) == (K : Int)) = false := by rw [beq_eq_false_iff_ne]; omega
    have hFN : F ≤ n := by
      rcases Nat.eq_zero_or_pos mb with e | e
      · have := hEMP e; omega
      · have := hLST e; omega
    clear hO hR hs hb ih hNXT hSTP hFST hNFS hRNO hIH hok hrs hma hRR hDD hF hOK hRS hMA hmi hmb hlc hin hm
    obtain ⟨c0, c1, c2, -⟩ := HX.out.three
    by_cases hmb0 : 0 < mb
    · obtain ⟨hbne, h1, h3⟩ := hLST hmb0
      obtain ⟨bb, off, rfl, cl⟩ := HLC.out _ HB.out hmb0
      obtain ⟨y, hy⟩ : ∃ y, b[mb - 1]?.getD 0 = y := ⟨_, rfl⟩
      rw [hy] at h1 h3 cl
      have hmi0 : (0 : Int) < (mb : Int) := by omega
      obtain ⟨t, htm⟩ : ∃ t, mb - 1 = t := ⟨_, rfl⟩
      rw [htm] at cl
      have ht1 : (mb : Int) - 1 = (t : Int) := by omega
      have hwt : IntKind.i64.wrap (t : Int) = (t : Int) := IntWalk.i64_in _ (by omega)
      have htt : (t : Int) < (mb : Int) := by omega
      have ht0 : (0 : Int) ≤ (t : Int) := by omega
      have hy1 : (y : Int) + 1 = (F : Int) := by omega
      have hwF : IntKind.i64.wrap (F : Int) = (F : Int) := IntWalk.i64_in _ (by omega)
      have HBN := Lib.hid hbne
      clear hLST hEMP HLC hy htm h1 h3 hbne
      go_enter Try.func65, Try.ntmps65
      go_wp2_with fail
      clear c0 c1 c2 cl
      go_loopw [11, 12, 13] (fun i _ _ wr => ∃ (x : Nat), F ≤ x ∧ x ≤ n ∧ i = .int .i64 (x : Int) ∧ Hid (∀ q, F ≤ q → q < x → MA q = false) ∧ Hid (OwnArr wr w.heap.size 28 [.int .i64 n, .bool ring, .slice p m cap]) ∧ Hid (Below w.heap.size w wr)) (fun i _ _ _ => n - (intOf i).toNat)
      case atStart => exact ⟨F, Nat.le_refl _, hFN, rfl, Lib.hid (fun q h1 h2 => absurd h1 (by omega)), HX, HB⟩
      case round =>
        obtain ⟨x, hx1, hx2, rfl, HN, HX0, HB0⟩ := hrel
        clear HX HB
        obtain ⟨c0, c1, c2, -⟩ := HX0.out.three
        by_cases hlt : x < n
        · have hk1 : (x : Int) < (n : Int) := by omega
          have hwx : IntKind.i64.wrap ((x : Int) + 1) = (x : Int) + 1 := IntWalk.i64_in _ (by omega)
          have M2 := MY.out x hlt wr HB0.out
          obtain ⟨y, hy⟩ : ∃ y, MA x = y := ⟨_, rfl⟩
          rw [hy] at M2
          have HY := Lib.hid hy
          replace M2 := Lib.hid M2
          clear hy
          go_wp2_with fail
          refine M2.out.mono ?_
          rintro e wy ⟨rfl, hby⟩
          have HX' := Lib.hid (HX0.out.below hby HX0.out.lt)
          have HB' := Lib.hid (HB0.out.trans (hby.mono HB0.out.size))
          clear hby M2 HX0 HB0 c0 c1 c2
          obtain ⟨c0, c1, c2, -⟩ := HX'.out.three
          cases y with
          | false =>
            have HN2 : Hid (∀ q, F ≤ q → q < x + 1 → MA q = false) := by
              show ∀ _, _
              intro q h1 h2
              by_cases e : q = x
              · subst e; exact HY.out
              · exact HN.out q h1 (by omega)
            clear HN HY
            go_wp2_with fail
            go_roundw
            case rel => exact ⟨x + 1, by omega, by omega, by go_num, HN2, HX', HB'⟩
            case measure => simp [intOf]; omega
          | true =>
            have hsz := HB'.out.size
            have RWC : Hid (∀ w2, Below wy.heap.size wy w2 → w2.cell? ⟨w.heap.size, 0, none⟩ = some (.int .i64 n) ∧ w2.cell? ⟨w.heap.size, 1, none⟩ = some (.bool ring) ∧ w2.cell? ⟨w.heap.size, 2, none⟩ = some (.slice p m cap)) := fun w2 h2 => by
              obtain ⟨k0, k1, k2, -⟩ := (HX'.out.below h2 HX'.out.lt).three
              exact ⟨k0, k1, k2⟩
            obtain ⟨k3, k4, k5⟩ := RWC.out (wy.alloc (.cells #[.int .i64 (x : Int)] 3)) ((Below.refl _ wy).alloc (Nat.le_refl _) _)
            have HBd := Lib.hid HB'.out.drew
            have HBa : Hid (Below w.heap.size w (wy.alloc (.cells #[.int .i64 (x : Int)] 3)).drew) := by show Below _ _ _; exact (HB'.out.alloc hsz _).drew
            have AFd : Hid (∀ w2 g c2, Out wy.drew.heap.size w2 (.slice (some ⟨g, 0, none⟩) mb c2) (ints b) → Below wy.drew.heap.size wy.drew w2 → Hid (Out wy.heap.size w2 (.slice (some ⟨g, 0, none⟩) mb c2) (ints b)) ∧ Hid (Below wy.heap.size wy w2) ∧ Hid True ∧ (w2.cell? ⟨w.heap.size, 0, none⟩ = some (.int .i64 n) ∧ w2.cell? ⟨w.heap.size, 1, none⟩ = some (.bool ring) ∧ w2.cell? ⟨w.heap.size, 2, none⟩ = some (.slice p m cap))) := by
              show ∀ _, _
              intro w2 g c2 h1 h2
              exact ⟨h1, (Below.refl _ wy).drew.trans h2, True.intro, RWC.out w2 ((Below.refl _ wy).drew.trans h2)⟩
            have AFa : Hid (∀ w2 g c2, Out (wy.alloc (.cells #[.int .i64 (x : Int)] 3)).drew.heap.size w2 (.slice (some ⟨g, 0, none⟩) mb c2) (ints b) → Below (wy.alloc (.cells #[.int .i64 (x : Int)] 3)).drew.heap.size (wy.alloc (.cells #[.int .i64 (x : Int)] 3)).drew w2 → Hid (Out wy.heap.size w2 (.slice (some ⟨g, 0, none⟩) mb c2) (ints b)) ∧ Hid (Below wy.heap.size wy w2) ∧ Hid (OwnArr w2 wy.heap.size 3 [.int .i64 (x : Int)]) ∧ (w2.cell? ⟨w.heap.size, 0, none⟩ = some (.int .i64 n) ∧ w2.cell? ⟨w.heap.size, 1, none⟩ = some (.bool ring) ∧ w2.cell? ⟨w.heap.size, 2, none⟩ = some (.slice p m cap))) := by
              show ∀ _, _
              intro w2 g c2 h1 h2
              have hs : (wy.alloc (.cells #[.int .i64 (x : Int)] 3)).drew.heap.size = wy.heap.size + 1 := by simp
              have h2' : Below wy.heap.size wy w2 := (((Below.refl _ wy).alloc (Nat.le_refl _) _).drew).trans (h2.mono (by omega))
              refine ⟨Out.mono h1 (by omega), h2', ?_, RWC.out w2 h2'⟩
              show OwnArr _ _ _ _
              have h5 : OwnArr (wy.alloc (.cells #[.int .i64 (x : Int)] 3)).drew wy.heap.size 3 [.int .i64 (x : Int)] := OwnArr.made wy _ [_]
              exact h5.below h2 (by omega)
            have HC0 : Hid (∀ (p3 : Option Addr) (c3 : Nat) (w' : World), Below wy.heap.size wy w' → Out wy.heap.size w' (.slice p3 (mb + 1) c3) (ints b ++ [(x : Int)]) → Calls Try.prog 65 #[rowV n ring p m cap, .slice p3 (mb + 1) c3, .int .i64 (K : Int), .int .i64 (D : Int)] w' fun e w'' => ∃ v', e = .returned (.tuple #[v', .bool (OK x)]) ∧ Out wy.heap.size w'' v' (ints (RS x)) ∧ Below w'.heap.size w' w'') := fun p3 c3 w' hw h1 => IH.out x hx1 hlt p3 c3 w' (HB'.out.trans (hw.mono hsz)) wy.heap.size h1 hw.size
            obtain ⟨hr1, hr2⟩ := NXT.out HBN.out x hx1 hlt HY.out HN.out
            have hrno := RNO.out x
            obtain ⟨K2, hK2⟩ : ∃ K2, OK x = K2 := ⟨_, rfl⟩
            obtain ⟨R2, hR2⟩ : ∃ R2, RS x = R2 := ⟨_, rfl⟩
            rw [hK2] at HC0 hr2 hrno
            rw [hR2] at HC0 hr1 hrno
            have HRNO := Lib.hid hrno
            replace hr1 := hr1.symm
            replace hr2 := hr2.symm
            subst hr1
            subst hr2
            clear hrno
            have hl6 : (ints b).length + 1 ≤ 100000 := by have := HMI.out; omega
            have HL1 : Hid ((ints b ++ [(x : Int)]).length = mb + 1) := by show _ = _; rw [List.length_append, HMI.out]; rfl
            clear hK2 hR2 HN HY
            go_wp2_with fail
            go_region_law (first
              | (go_simp; go_at_call 80; refine (OWN.out _ HBd.out).mono ?_; rintro e w2 ⟨g, c2, rfl, hg, hc21, hc22, hO, hb2⟩; obtain ⟨HO1, HB2, HLT, d0, d1, d2⟩ := AFd.out _ _ _ hO hb2; obtain ⟨d3, d4, d5⟩ := RWC.out (w2.alloc (.cells #[.int .i64 (x : Int)] 3)) (HB2.out.alloc HB2.out.size _); clear hO hb2)
              | (go_simp; go_at_call 80; refine (OWN.out _ HBa.out).mono ?_; rintro e w2 ⟨g, c2, rfl, hg, hc21, hc22, hO, hb2⟩; obtain ⟨HO1, HB2, HLT, d0, d1, d2⟩ := AFa.out _ _ _ hO hb2; clear hO hb2)
              | (refine step_app rfl (.tmp 45) (.tmp 47) rfl wy.heap.size (.slice (some ⟨g, 0, none⟩) mb c2) (ints b) (by simp [Act.eval]) (World.ownsRow.alloc HO1.out _) _ 1 1 0 (w2.heap.size + 1) [(x : Int)] (by simp [Act.eval]) (lit_one (OwnArr.made w2 _ [_]) _ (Nat.lt_succ_self _) (by simp)) rfl hl6 (by have := HB2.out.size; simp; omega) ?_; intro v3 w3 hO3 hg3 hn3; have HB3 := Lib.hid ((HB2.out.alloc HB2.out.size (.cells #[.int .i64 (x : Int)] 3)).grown hg3 (by have := HB2.out.size; simp; omega) (own_block HO1.out)); obtain ⟨p3, c3, e3, -, -, -, -⟩ := hO3.rd; rw [HL1.out] at e3; rw [e3] at hO3 ⊢; have HO3 := Lib.hid hO3; obtain ⟨e0, e1, e2⟩ := RWC.out w3 HB3.out; clear hO3 hg3 hn3 e3)
              | (refine step_app rfl (.tmp 45) (.tmp 47) rfl wy.heap.size (.slice (some ⟨g, 0, none⟩) mb c2) (ints b) (by simp [Act.eval]) HO1.out _ 1 1 0 w2.heap.size [(x : Int)] (by simp [Act.eval]) (lit_one HLT.out _ HLT.out.lt (Nat.le_refl _)) rfl hl6 HB2.out.size ?_; intro v3 w3 hO3 hg3 hn3; have HB3 := Lib.hid (HB2.out.grown hg3 HB2.out.size (own_block HO1.out)); obtain ⟨p3, c3, e3, -, -, -, -⟩ := hO3.rd; rw [HL1.out] at e3; rw [e3] at hO3 ⊢; have HO3 := Lib.hid hO3; obtain ⟨e0, e1, e2⟩ := RWC.out w3 HB3.out; clear hO3 hg3 hn3 e3)
              | (go_simp; go_at_call 65; refine (HC0.out _ _ _ HB3.out HO3.out).mono ?_; rintro e w4 ⟨v4, rfl, hO4, hb4⟩; have HB4 := Lib.hid (HB3.out.trans (hb4.mono HB3.out.size)); have HO4 := Lib.hid (hO4.mono (Nat.le_trans hB hsz)); clear hO4 hb4))
            all_goals
              have HX4 := Lib.hid (HX'.out.below HB4.out HX'.out.lt)
              have HB5 := Lib.hid (HB'.out.trans (HB4.out.mono hsz))
              clear HB2 HB3 HO1 HO3 HLT HBd HBa AFd AFa HC0 HX' HB' HB4 d0 d1 d2 e0 e1 e2 RWC k3 k4 k5
              try clear d3 d4 d5
              cases K2 with
              | true =>
                clear HRNO
                go_wp2_with fail
                go_ret2
                exact ⟨_, rfl, HO4.out, HB5.out⟩
              | false =>
                have hrn := HRNO.out rfl
                have hsz5 := HB5.out.size
                have HOZ := Lib.hid ((Out.nilLit w4).mono (Nat.le_trans hB hsz5))
                have HBZ := Lib.hid (HB5.out.alloc hsz5 (.cells #[] 3))
                clear HRNO HO4 HB5 HX4
                subst hrn
                go_wp2_with fail
                go_ret2
                exact ⟨_, rfl, HOZ.out, HBZ.out⟩
        · have hk1 : ¬ (x : Int) < (n : Int) := by omega
          obtain ⟨rfl, rfl⟩ := STP.out HBN.out (fun q h1 h2 => HN.out q h1 (by omega))
          have hsz := HB0.out.size
          have HOZ := Lib.hid ((Out.nilLit wr).mono (Nat.le_trans hB hsz))
          have HBZ := Lib.hid (HB0.out.alloc hsz (.cells #[] 3))
          go_wp2_with fail
          go_ret2
          exact ⟨_, rfl, HOZ.out, HBZ.out⟩
    · have hm0 : mb = 0 := by omega
      obtain ⟨hbe, h1⟩ := hEMP hm0
      have hmi0 : ¬ (0 : Int) < (mb : Int) := by omega
      have HBE := Lib.hid hbe
      have HF0 := Lib.hid h1
      clear hLST hEMP HLC hbe hm0 h1
      go_enter Try.func65, Try.ntmps65
      go_wp2_with fail
      clear c0 c1 c2
      go_loopw [11, 12, 13] (fun i _ _ wr => ∃ (x : Nat), F ≤ x ∧ x ≤ n ∧ i = .int .i64 (x : Int) ∧ Hid (∀ q, F ≤ q → q < x → MA q = true → OK q = false) ∧ Hid (OwnArr wr w.heap.size 28 [.int .i64 n, .bool ring, .slice p m cap]) ∧ Hid (Below w.heap.size w wr)) (fun i _ _ _ => n - (intOf i).toNat)
      case atStart => exact ⟨0, (by have := HF0.out; omega), Nat.zero_le _, rfl, Lib.hid (fun q h1 h2 => absurd h2 (by omega)), HX, HB⟩
      case round =>
        obtain ⟨x, hx1, hx2, rfl, HN, HX0, HB0⟩ := hrel
        clear HX HB
        obtain ⟨c0, c1, c2, -⟩ := HX0.out.three
        by_cases hlt : x < n
        · have hk1 : (x : Int) < (n : Int) := by omega
          have hwx : IntKind.i64.wrap ((x : Int) + 1) = (x : Int) + 1 := IntWalk.i64_in _ (by omega)
          have M2 := MY.out x hlt wr HB0.out
          obtain ⟨y, hy⟩ : ∃ y, MA x = y := ⟨_, rfl⟩
          rw [hy] at M2
          have HY := Lib.hid hy
          replace M2 := Lib.hid M2
          clear hy
          go_wp2_with fail
          refine M2.out.mono ?_
          rintro e wy ⟨rfl, hby⟩
          have HX' := Lib.hid (HX0.out.below hby HX0.out.lt)
          have HB' := Lib.hid (HB0.out.trans (hby.mono HB0.out.size))
          clear hby M2 HX0 HB0 c0 c1 c2
          obtain ⟨c0, c1, c2, -⟩ := HX'.out.three
          cases y with
          | false =>
            have HN2 : Hid (∀ q, F ≤ q → q < x + 1 → MA q = true → OK q = false) := by
              show ∀ _, _
              intro q h1 h2
              by_cases e : q = x
              · subst e; intro h; rw [HY.out] at h; cases h
              · exact HN.out q h1 (by omega)
            clear HN HY
            go_wp2_with fail
            go_roundw
            case rel => exact ⟨x + 1, by omega, by omega, by go_num, HN2, HX', HB'⟩
            case measure => simp [intOf]; omega
          | true =>
            have hsz := HB'.out.size
            have RWC : Hid (∀ w2, Below wy.heap.size wy w2 → w2.cell? ⟨w.heap.size, 0, none⟩ = some (.int .i64 n) ∧ w2.cell? ⟨w.heap.size, 1, none⟩ = some (.bool ring) ∧ w2.cell? ⟨w.heap.size, 2, none⟩ = some (.slice p m cap)) := fun w2 h2 => by
              obtain ⟨k0, k1, k2, -⟩ := (HX'.out.below h2 HX'.out.lt).three
              exact ⟨k0, k1, k2⟩
            obtain ⟨k3, k4, k5⟩ := RWC.out (wy.alloc (.cells #[.int .i64 (x : Int)] 3)) ((Below.refl _ wy).alloc (Nat.le_refl _) _)
            have HBd := Lib.hid HB'.out.drew
            have HBa : Hid (Below w.heap.size w (wy.alloc (.cells #[.int .i64 (x : Int)] 3)).drew) := by show Below _ _ _; exact (HB'.out.alloc hsz _).drew
            have AFd : Hid (∀ w2 g c2, Out wy.drew.heap.size w2 (.slice (some ⟨g, 0, none⟩) mb c2) (ints b) → Below wy.drew.heap.size wy.drew w2 → Hid (Out wy.heap.size w2 (.slice (some ⟨g, 0, none⟩) mb c2) (ints b)) ∧ Hid (Below wy.heap.size wy w2) ∧ Hid True ∧ (w2.cell? ⟨w.heap.size, 0, none⟩ = some (.int .i64 n) ∧ w2.cell? ⟨w.heap.size, 1, none⟩ = some (.bool ring) ∧ w2.cell? ⟨w.heap.size, 2, none⟩ = some (.slice p m cap))) := by
              show ∀ _, _
              intro w2 g c2 h1 h2
              exact ⟨h1, (Below.refl _ wy).drew.trans h2, True.intro, RWC.out w2 ((Below.refl _ wy).drew.trans h2)⟩
            have AFa : Hid (∀ w2 g c2, Out (wy.alloc (.cells #[.int .i64 (x : Int)] 3)).drew.heap.size w2 (.slice (some ⟨g, 0, none⟩) mb c2) (ints b) → Below (wy.alloc (.cells #[.int .i64 (x : Int)] 3)).drew.heap.size (wy.alloc (.cells #[.int .i64 (x : Int)] 3)).drew w2 → Hid (Out wy.heap.size w2 (.slice (some ⟨g, 0, none⟩) mb c2) (ints b)) ∧ Hid (Below wy.heap.size wy w2) ∧ Hid (OwnArr w2 wy.heap.size 3 [.int .i64 (x : Int)]) ∧ (w2.cell? ⟨w.heap.size, 0, none⟩ = some (.int .i64 n) ∧ w2.cell? ⟨w.heap.size, 1, none⟩ = some (.bool ring) ∧ w2.cell? ⟨w.heap.size, 2, none⟩ = some (.slice p m cap))) := by
              show ∀ _, _
              intro w2 g c2 h1 h2
              have hs : (wy.alloc (.cells #[.int .i64 (x : Int)] 3)).drew.heap.size = wy.heap.size + 1 := by simp
              have h2' : Below wy.heap.size wy w2 := (((Below.refl _ wy).alloc (Nat.le_refl _) _).drew).trans (h2.mono (by omega))
              refine ⟨Out.mono h1 (by omega), h2', ?_, RWC.out w2 h2'⟩
              show OwnArr _ _ _ _
              have h5 : OwnArr (wy.alloc (.cells #[.int .i64 (x : Int)] 3)).drew wy.heap.size 3 [.int .i64 (x : Int)] := OwnArr.made wy _ [_]
              exact h5.below h2 (by omega)
            have HC0 : Hid (∀ (p3 : Option Addr) (c3 : Nat) (w' : World), Below wy.heap.size wy w' → Out wy.heap.size w' (.slice p3 (mb + 1) c3) (ints b ++ [(x : Int)]) → Calls Try.prog 65 #[rowV n ring p m cap, .slice p3 (mb + 1) c3, .int .i64 (K : Int), .int .i64 (D : Int)] w' fun e w'' => ∃ v', e = .returned (.tuple #[v', .bool (OK x)]) ∧ Out wy.heap.size w'' v' (ints (RS x)) ∧ Below w'.heap.size w' w'') := fun p3 c3 w' hw h1 => IH.out x hx1 hlt p3 c3 w' (HB'.out.trans (hw.mono hsz)) wy.heap.size h1 hw.size
            have hfst := fun h => FST.out HBE.out x hlt HY.out h (fun q h1 h2 => HN.out q (by have := HF0.out; omega) h1 h2)
            have hno2 : OK x = false → ∀ q, F ≤ q → q < x + 1 → MA q = true → OK q = false := by
              intro h q h1 h2
              by_cases e : q = x
              · subst e; exact fun _ => h
              · exact HN.out q h1 (by omega)
            obtain ⟨K2, hK2⟩ : ∃ K2, OK x = K2 := ⟨_, rfl⟩
            obtain ⟨R2, hR2⟩ : ∃ R2, RS x = R2 := ⟨_, rfl⟩
            rw [hK2] at HC0 hfst hno2
            rw [hR2] at HC0 hfst
            have HFS := Lib.hid hfst
            have HNO2 := Lib.hid hno2
            clear hfst hno2
            have hl6 : (ints b).length + 1 ≤ 100000 := by have := HMI.out; omega
            have HL1 : Hid ((ints b ++ [(x : Int)]).length = mb + 1) := by show _ = _; rw [List.length_append, HMI.out]; rfl
            clear hK2 hR2 HN HY
            go_wp2_with fail
            go_region_law (first
              | (go_simp; go_at_call 80; refine (OWN.out _ HBd.out).mono ?_; rintro e w2 ⟨g, c2, rfl, hg, hc21, hc22, hO, hb2⟩; obtain ⟨HO1, HB2, HLT, d0, d1, d2⟩ := AFd.out _ _ _ hO hb2; obtain ⟨d3, d4, d5⟩ := RWC.out (w2.alloc (.cells #[.int .i64 (x : Int)] 3)) (HB2.out.alloc HB2.out.size _); clear hO hb2)
              | (go_simp; go_at_call 80; refine (OWN.out _ HBa.out).mono ?_; rintro e w2 ⟨g, c2, rfl, hg, hc21, hc22, hO, hb2⟩; obtain ⟨HO1, HB2, HLT, d0, d1, d2⟩ := AFa.out _ _ _ hO hb2; clear hO hb2)
              | (refine step_app rfl (.tmp 45) (.tmp 47) rfl wy.heap.size (.slice (some ⟨g, 0, none⟩) mb c2) (ints b) (by simp [Act.eval]) (World.ownsRow.alloc HO1.out _) _ 1 1 0 (w2.heap.size + 1) [(x : Int)] (by simp [Act.eval]) (lit_one (OwnArr.made w2 _ [_]) _ (Nat.lt_succ_self _) (by simp)) rfl hl6 (by have := HB2.out.size; simp; omega) ?_; intro v3 w3 hO3 hg3 hn3; have HB3 := Lib.hid ((HB2.out.alloc HB2.out.size (.cells #[.int .i64 (x : Int)] 3)).grown hg3 (by have := HB2.out.size; simp; omega) (own_block HO1.out)); obtain ⟨p3, c3, e3, -, -, -, -⟩ := hO3.rd; rw [HL1.out] at e3; rw [e3] at hO3 ⊢; have HO3 := Lib.hid hO3; obtain ⟨e0, e1, e2⟩ := RWC.out w3 HB3.out; clear hO3 hg3 hn3 e3)
              | (refine step_app rfl (.tmp 45) (.tmp 47) rfl wy.heap.size (.slice (some ⟨g, 0, none⟩) mb c2) (ints b) (by simp [Act.eval]) HO1.out _ 1 1 0 w2.heap.size [(x : Int)] (by simp [Act.eval]) (lit_one HLT.out _ HLT.out.lt (Nat.le_refl _)) rfl hl6 HB2.out.size ?_; intro v3 w3 hO3 hg3 hn3; have HB3 := Lib.hid (HB2.out.grown hg3 HB2.out.size (own_block HO1.out)); obtain ⟨p3, c3, e3, -, -, -, -⟩ := hO3.rd; rw [HL1.out] at e3; rw [e3] at hO3 ⊢; have HO3 := Lib.hid hO3; obtain ⟨e0, e1, e2⟩ := RWC.out w3 HB3.out; clear hO3 hg3 hn3 e3)
              | (go_simp; go_at_call 65; refine (HC0.out _ _ _ HB3.out HO3.out).mono ?_; rintro e w4 ⟨v4, rfl, hO4, hb4⟩; have HB4 := Lib.hid (HB3.out.trans (hb4.mono HB3.out.size)); have HO4 := Lib.hid (hO4.mono (Nat.le_trans hB hsz)); clear hO4 hb4))
            all_goals
              have HX4 := Lib.hid (HX'.out.below HB4.out HX'.out.lt)
              have HB5 := Lib.hid (HB'.out.trans (HB4.out.mono hsz))
              clear HB2 HB3 HO1 HO3 HLT HBd HBa AFd AFa HC0 HX' HB' HB4 d0 d1 d2 e0 e1 e2 RWC k3 k4 k5
              try clear d3 d4 d5
              cases K2 with
              | true =>
                obtain ⟨rfl, rfl⟩ := HFS.out rfl
                clear HFS HNO2
                go_wp2_with fail
                go_ret2
                exact ⟨_, rfl, HO4.out, HB5.out⟩
              | false =>
                have HN4 := Lib.hid (HNO2.out rfl)
                clear HFS HNO2
                go_wp2_with fail
                go_roundw
                case rel => exact ⟨x + 1, by omega, by omega, by go_num, HN4, HX4, HB5⟩
                case measure => simp [intOf]; omega
        · have hk1 : ¬ (x : Int) < (n : Int) := by omega
          obtain ⟨rfl, rfl⟩ := NFS.out HBE.out (fun q h1 h2 => HN.out q (by have := HF0.out; omega) (by omega) h2)
          have hsz := HB0.out.size
          have HOZ := Lib.hid ((Out.nilLit wr).mono (Nat.le_trans hB hsz))
          have HBZ := Lib.hid (HB0.out.alloc hsz (.cells #[] 3))
          go_wp2_with fail
          go_ret2
          exact ⟨_, rfl, HOZ.out, HBZ.out⟩
end Go.Proofs.Ytoedcklgpmhnnaa
