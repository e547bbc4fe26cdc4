/- Chapter 7, spec side: spec.l7Run, given spec.l7Start. -/
import Derived.Test.YtohnjdlhgcemjaaRun7
namespace Go.Proofs.Ytohnjdlhgcemjaa
open Go.RowKit

/-- a cabin of a call's own -/
def MadeCab (w0 : World) (n : Nat) (C : Cab) : Ending → World → Prop := fun E w' => ∃ K a b c d e f, E = .returned (.agg #[.slice (some ⟨a, 0, none⟩) n (K a), .slice (some ⟨b, 0, none⟩) n (K b), .slice (some ⟨c, 0, none⟩) n (K c), .slice (some ⟨d, 0, none⟩) n (K d), .slice (some ⟨e, 0, none⟩) n (K e), .slice (some ⟨f, 0, none⟩) n (K f)]) ∧ Cabs w' n K a b c d e f C ∧ from6 w0.heap.size a b c d e f ∧ (∀ g, K g ≤ maxLen) ∧ Below w0.heap.size w0 w'
/-- so many units go by -/
structure runs7 (n : Nat) (s t0 : Int) (l : List Nat) (U : Nat) : Prop where
  few : U ≤ 151
  go : ∀ u, u < U → (t0 < 0 ∨ (u : Int) + 1 ≤ t0) ∧ allSat n (cabU s l u) = false
  stop : ¬ (t0 < 0 ∨ (U : Int) + 1 ≤ t0) ∨ allSat n (cabU s l U) = true

theorem cab_cells {w : World} {g : Nat} {T : TypeId} {v0 v1 v2 v3 v4 v5 : Value} (h : OwnArr w g T [v0, v1, v2, v3, v4, v5]) :
    w.cell? ⟨g, 0, none⟩ = some v0 ∧ w.cell? ⟨g, 1, none⟩ = some v1 ∧ w.cell? ⟨g, 2, none⟩ = some v2 ∧ w.cell? ⟨g, 3, none⟩ = some v3 ∧ w.cell? ⟨g, 4, none⟩ = some v4 ∧ w.cell? ⟨g, 5, none⟩ = some v5 :=
  ⟨h.cell 0, h.cell 1, h.cell 2, h.cell 3, h.cell 4, h.cell 5⟩
theorem cabz_cells {w : World} {g : Nat} {T : TypeId} {v0 v1 v2 v3 v4 v5 : Value} (h : OwnArr w g T [v0, v1, v2, v3, v4, v5]) :
    w.cell? ⟨g, 0, none⟩ = some v0 ∧ w.cell? ⟨g, 1, none⟩ = some v1 ∧ w.cell? ⟨g, 2, none⟩ = some v2 ∧ w.cell? ⟨g, 3, none⟩ = some v3 ∧ w.cell? ⟨g, 4, none⟩ = some v4 ∧ w.cell? ⟨g, 5, none⟩ = some v5 ∧ w.frozen? ⟨g, 0, none⟩ = false ∧ w.frozen? ⟨g, 1, none⟩ = false ∧ w.frozen? ⟨g, 2, none⟩ = false ∧ w.frozen? ⟨g, 3, none⟩ = false ∧ w.frozen? ⟨g, 4, none⟩ = false ∧ w.frozen? ⟨g, 5, none⟩ = false :=
  ⟨h.cell 0, h.cell 1, h.cell 2, h.cell 3, h.cell 4, h.cell 5, h.free 0, h.free 1, h.free 2, h.free 3, h.free 4, h.free 5⟩
theorem ne_of6 {a b c d e f x : Nat} (h : a < x ∧ b < x ∧ c < x ∧ d < x ∧ e < x ∧ f < x) : a ≠ x ∧ b ≠ x ∧ c ≠ x ∧ d ≠ x ∧ e ≠ x ∧ f ≠ x := by omega
theorem ne_of6r {a b c d e f r : Nat} (h : from6 (r + 1) a b c d e f) : a ≠ r ∧ b ≠ r ∧ c ≠ r ∧ d ≠ r ∧ e ≠ r ∧ f ≠ r := by unfold from6 at h; omega
theorem from6_r {a b c d e f r r' : Nat} (hr : r' = r) (h : from6 (r + 1) a b c d e f) : from6 r' a b c d e f := by unfold from6 at *; omega
set_option maxRecDepth 4000 in
set_option maxHeartbeats 2000000 in
theorem l7Run_any (ST : ∀ (n : Nat) (w' : World), 1 ≤ n → n ≤ 10 → Calls Try.prog 45 #[.int .i64 (n : Nat)] w' (MadeCab w' n start7))
    (n : Nat) (s t0 : Int) (p : Option Addr) (cap : Nat) (l : List Nat) (U : Nat) (w : World) (lo hi : Nat) (hin : Ri lo hi w p (ints l)) (hn1 : 1 ≤ n) (hn : n ≤ 10) (hs1 : 1 ≤ s) (hs : s ≤ 5) (hl : ∀ x ∈ l, x < n) (hll : l.length = n) (hU : runs7 n s t0 l U) :
    Calls Try.prog 29 #[.int .i64 (n : Nat), .int .i64 s, .slice p n cap, .int .i64 t0] w (MadeCab w n (cabU s l U)) := by
  have hU1 := hU.few
  have HGO := Lib.hid hU.go
  have HST := Lib.hid hU.stop
  have HI := Lib.hid (fun (w' : World) (h' : Below w.heap.size w w') => hin.below h' hin.top)
  have HINV := Lib.hid (fun u => cab_inv (n := n) hs1 hl u)
  have HACT := Lib.hid (fun (u i : Nat) => And.intro (unit_ok (n := n) (s := s) (t := ((u + 1 : Nat) : Int)) (by omega) (cab_inv hs1 hl u) (fun x hx => hl x (List.mem_of_mem_take hx : x ∈ l) : ∀ x ∈ l.take i, x < n)).1 (fun r (hu : u ≤ 151) => part_wa (s := s) (l := l) (u := u) (i := i) (r := r) hu (by omega)))
  have HL := Lib.hid hl
  have HLL := Lib.hid hll
  have S1 := ST n (w.alloc (.cells #[.slice none 0 0, .slice none 0 0, .slice none 0 0, .slice none 0 0, .slice none 0 0, .slice none 0 0] 37)) hn1 hn
  unfold MadeCab at S1 ⊢
  replace S1 := Lib.hid S1
  clear ST hU hin hl hll
  go_enter Try.func29, Try.ntmps29
  go_wp2_with fail
  refine S1.out.mono ?_
  rintro E w2 ⟨K, a, b, c, d, e, f, rfl, hC, hF, hK, hb⟩
  obtain ⟨r0, hr0⟩ : ∃ r, w.heap.size = r := ⟨_, rfl⟩
  have hz : (w.alloc (.cells #[.slice none 0 0, .slice none 0 0, .slice none 0 0, .slice none 0 0, .slice none 0 0, .slice none 0 0] 37)).heap.size = r0 + 1 := by simp [hr0]
  rw [hz] at hF hb
  have hZ2 : OwnArr w2 r0 37 cabZ := by
    rw [← hr0]
    exact (OwnArr.made w 37 cabZ).below hb (by omega)
  have hB2 : Below r0 w w2 := by
    have h1 : Below r0 w (w.alloc (.cells #[.slice none 0 0, .slice none 0 0, .slice none 0 0, .slice none 0 0, .slice none 0 0, .slice none 0 0] 37)) := (Below.refl _ _).alloc (by omega) _
    exact h1.trans (hb.mono (by omega))
  have hX := OwnArr.made w2 37 (cabL n K a b c d e f)
  have hr2 : r0 < w2.heap.size := hZ2.lt
  obtain ⟨x0, hx0⟩ : ∃ x, w2.heap.size = x := ⟨_, rfl⟩
  rw [hx0] at hX hr2
  have hw2 : ∃ wa, w2.alloc (.cells #[.slice (some ⟨a, 0, none⟩) n (K a), .slice (some ⟨b, 0, none⟩) n (K b), .slice (some ⟨c, 0, none⟩) n (K c), .slice (some ⟨d, 0, none⟩) n (K d), .slice (some ⟨e, 0, none⟩) n (K e), .slice (some ⟨f, 0, none⟩) n (K f)] 37) = wa := ⟨_, rfl⟩
  obtain ⟨wa, hwa⟩ := hw2
  have hXa : OwnArr wa x0 37 (cabL n K a b c d e f) := by rw [← hwa]; exact hX
  have hCa : Cabs wa n K a b c d e f start7 := by rw [← hwa]; exact hC.alloc _
  have hZa : OwnArr wa r0 37 cabZ := by rw [← hwa]; exact hZ2.alloc _
  have hBa : Below r0 w wa := by rw [← hwa]; exact hB2.alloc (by omega) _
  have hlt : (a < x0 ∧ b < x0 ∧ c < x0 ∧ d < x0 ∧ e < x0 ∧ f < x0) := by
    have h1 := hC.ai.lt; have h2 := hC.at_.lt; have h3 := hC.st.lt; have h4 := hC.en.lt; have h5 := hC.sa.lt; have h6 := hC.wa.lt
    omega
  have HC0 : Hid (Cabs wa n K a b c d e f (cabU s l 0)) := hCa
  have HX0 := Lib.hid hXa
  have HZ0 := Lib.hid hZa
  have HB0 := Lib.hid hBa
  have HLT := Lib.hid hlt
  have HFR := Lib.hid hF
  have HK := Lib.hid hK
  have HR0 := Lib.hid hr0
  have HXX := Lib.hid hx0
  have HWA := Lib.hid hwa
  clear hC hF hK hb hz hZ2 hB2 hX hXa hCa hZa hBa hlt hr0 hx0 hwa S1
  go_upto_region 2 with fail
  rw [HR0.out, HXX.out, HWA.out]
  go_wp2_with fail
  go_loopw [10] (fun iu wr => ∃ (u : Nat), u ≤ U ∧ iu = .int .i64 ((u : Int) + 1) ∧ Hid (Cabs wr n K a b c d e f (cabU s l u)) ∧ Hid (OwnArr wr x0 37 (cabL n K a b c d e f)) ∧ Hid (OwnArr wr r0 37 cabZ) ∧ Hid (Below r0 w wr)) (fun iu _ => U + 1 - (intOf iu).toNat)
  case atStart => exact ⟨0, Nat.zero_le _, by go_num, HC0, HX0, HZ0, HB0⟩
  case round =>
    obtain ⟨u, hu, rfl, HC, HX, HZ, HB⟩ := hrel
    clear HC0 HX0 HZ0 HB0
    have H7 := has7 HC.out hn
    obtain ⟨y0, y1, y2, y3, y4, y5⟩ := cab_cells HX.out
    by_cases huU : u < U
    · obtain ⟨hgo, hns⟩ := HGO.out u huU
      rw [hns] at H7
      replace H7 := Lib.hid H7
      have HC1 : Hid (Cabs wr n K a b c d e f (unit7 s ((u + 1 : Nat) : Int) (l.take 0) (cabU s l u))) := by
        show Cabs _ _ _ _ _ _ _ _ _ _
        rw [List.take_zero]; exact HC.out
      clear HC hns
      by_cases ht0 : t0 < 0
      · clear hgo
        go_wp2_with fail
        refine H7.out.mono ?_
        rintro E1 w1 ⟨rfl, rfl⟩
        clear H7 y0 y1 y2 y3 y4 y5
        go_wp2_with fail
        go_loopw [11] (fun ii wr => ∃ (i : Nat), i ≤ n ∧ ii = .int .i64 (i : Int) ∧ Hid (Cabs wr n K a b c d e f (unit7 s ((u + 1 : Nat) : Int) (l.take i) (cabU s l u))) ∧ Hid (OwnArr wr x0 37 (cabL n K a b c d e f)) ∧ Hid (OwnArr wr r0 37 cabZ) ∧ Hid (Below r0 w wr)) (fun ii _ => n - (intOf ii).toNat)
        case atStart => exact ⟨0, Nat.zero_le _, rfl, HC1, HX, HZ, HB⟩
        case round =>
          obtain ⟨i, hi', rfl, HC, HX, HZ, HB⟩ := hrel
          clear HC1
          by_cases hin : i < n
          · have hi1 : (i : Int) < (n : Int) := by omega
            have hi0 : (0 : Int) ≤ (i : Int) := by omega
            have hil : i < l.length := by rw [HLL.out]; exact hin
            have hbw : Below w.heap.size w wr := by rw [HR0.out]; exact HB.out
            obtain ⟨bq, off, rfl, -, -, -, hc⟩ := (HI.out wr hbw).int (by rw [ints_length]; omega)
            have h0 := hc i (by rw [ints_length]; exact hil)
            rw [ints_get hil] at h0
            have hstep := unit_take (s := s) (t := ((u + 1 : Nat) : Int)) (l := l) (c := cabU s l u) hil
            have hrow := HL.out _ (nat_mem hil)
            obtain ⟨row, hrw⟩ : ∃ row, l[i]?.getD 0 = row := ⟨_, rfl⟩
            rw [hrw] at h0 hstep hrow
            obtain ⟨hi7, hw7⟩ := HACT.out u i
            have A := l7Act_any n K a b c d e f row ((u + 1 : Nat) : Int) s (unit7 s ((u + 1 : Nat) : Int) (l.take i) (cabU s l u)) wr.drew (r0 + 1) HC.out.drew HFR.out (by have := HZ.out.lt; show r0 + 1 ≤ wr.heap.size; omega) hrow hn hi7 hs (hw7 row (by omega))
            rw [← hstep, show (((u + 1 : Nat) : Int)) = (u : Int) + 1 by push_cast; rfl] at A
            obtain ⟨x0a, x1a, x2a, x3a, x4a, x5a⟩ := cab_cells HX.out
            replace A := Lib.hid A
            clear hc hbw hstep hi7 hw7 hrw
            go_wp2_with fail
            go_still_tail 7, (by kernel_rfl)
            change wpList _ _ _ _ _ wr.drew
            go_wp2_with fail
            refine A.out.mono ?_
            rintro E2 w3 ⟨rfl, hC3, hB3, hK3⟩
            have HC3 : Hid (Cabs w3 n K a b c d e f (unit7 s ((u + 1 : Nat) : Int) (l.take (i + 1)) (cabU s l u))) := by
              show Cabs _ _ _ _ _ _ _ _ _ _
              rw [show (((u + 1 : Nat) : Int)) = (u : Int) + 1 by push_cast; rfl]
              exact hC3
            have HX3 := Lib.hid (hK3 x0 _ _ (ne_of6 HLT.out) (HX.out.drew))
            have HZ3 := Lib.hid (HZ.out.below (w' := w3) (((Below.refl (r0 + 1) wr).drew).trans hB3) (by omega))
            have HB3 := Lib.hid (HB.out.trans ((((Below.refl (r0 + 1) wr).drew).trans hB3).mono (by omega)))
            clear A hC3 hB3 hK3 x0a x1a x2a x3a x4a x5a h0
            go_wp2_with fail
            go_roundw
            case rel => exact ⟨i + 1, by omega, by go_num, HC3, HX3, HZ3, HB3⟩
            case measure => simp [intOf]; omega
          · have hni : i = n := by omega
            subst hni
            have hi1 : ¬ (i : Int) < (i : Int) := by omega
            have HC3 : Hid (Cabs wr i K a b c d e f (cabU s l (u + 1))) := by
              show Cabs _ _ _ _ _ _ _ _ _ _
              have h := HC.out
              rw [List.take_of_length_le (by rw [HLL.out]; exact Nat.le_refl _)] at h
              exact h
            go_wp2_with fail
            go_roundw
            case rel => exact ⟨u + 1, by omega, by go_num, HC3, HX, HZ, HB⟩
            case measure => simp [intOf]; omega
      · have ht1 : (u : Int) + 1 ≤ t0 := by omega
        clear hgo
        go_wp2_with fail
        refine H7.out.mono ?_
        rintro E1 w1 ⟨rfl, rfl⟩
        clear H7 y0 y1 y2 y3 y4 y5
        go_wp2_with fail
        go_loopw [11] (fun ii wr => ∃ (i : Nat), i ≤ n ∧ ii = .int .i64 (i : Int) ∧ Hid (Cabs wr n K a b c d e f (unit7 s ((u + 1 : Nat) : Int) (l.take i) (cabU s l u))) ∧ Hid (OwnArr wr x0 37 (cabL n K a b c d e f)) ∧ Hid (OwnArr wr r0 37 cabZ) ∧ Hid (Below r0 w wr)) (fun ii _ => n - (intOf ii).toNat)
        case atStart => exact ⟨0, Nat.zero_le _, rfl, HC1, HX, HZ, HB⟩
        case round =>
          obtain ⟨i, hi', rfl, HC, HX, HZ, HB⟩ := hrel
          clear HC1
          by_cases hin : i < n
          · have hi1 : (i : Int) < (n : Int) := by omega
            have hi0 : (0 : Int) ≤ (i : Int) := by omega
            have hil : i < l.length := by rw [HLL.out]; exact hin
            have hbw : Below w.heap.size w wr := by rw [HR0.out]; exact HB.out
            obtain ⟨bq, off, rfl, -, -, -, hc⟩ := (HI.out wr hbw).int (by rw [ints_length]; omega)
            have h0 := hc i (by rw [ints_length]; exact hil)
            rw [ints_get hil] at h0
            have hstep := unit_take (s := s) (t := ((u + 1 : Nat) : Int)) (l := l) (c := cabU s l u) hil
            have hrow := HL.out _ (nat_mem hil)
            obtain ⟨row, hrw⟩ : ∃ row, l[i]?.getD 0 = row := ⟨_, rfl⟩
            rw [hrw] at h0 hstep hrow
            obtain ⟨hi7, hw7⟩ := HACT.out u i
            have A := l7Act_any n K a b c d e f row ((u + 1 : Nat) : Int) s (unit7 s ((u + 1 : Nat) : Int) (l.take i) (cabU s l u)) wr.drew (r0 + 1) HC.out.drew HFR.out (by have := HZ.out.lt; show r0 + 1 ≤ wr.heap.size; omega) hrow hn hi7 hs (hw7 row (by omega))
            rw [← hstep, show (((u + 1 : Nat) : Int)) = (u : Int) + 1 by push_cast; rfl] at A
            obtain ⟨x0a, x1a, x2a, x3a, x4a, x5a⟩ := cab_cells HX.out
            replace A := Lib.hid A
            clear hc hbw hstep hi7 hw7 hrw
            go_wp2_with fail
            go_still_tail 7, (by kernel_rfl)
            change wpList _ _ _ _ _ wr.drew
            go_wp2_with fail
            refine A.out.mono ?_
            rintro E2 w3 ⟨rfl, hC3, hB3, hK3⟩
            have HC3 : Hid (Cabs w3 n K a b c d e f (unit7 s ((u + 1 : Nat) : Int) (l.take (i + 1)) (cabU s l u))) := by
              show Cabs _ _ _ _ _ _ _ _ _ _
              rw [show (((u + 1 : Nat) : Int)) = (u : Int) + 1 by push_cast; rfl]
              exact hC3
            have HX3 := Lib.hid (hK3 x0 _ _ (ne_of6 HLT.out) (HX.out.drew))
            have HZ3 := Lib.hid (HZ.out.below (w' := w3) (((Below.refl (r0 + 1) wr).drew).trans hB3) (by omega))
            have HB3 := Lib.hid (HB.out.trans ((((Below.refl (r0 + 1) wr).drew).trans hB3).mono (by omega)))
            clear A hC3 hB3 hK3 x0a x1a x2a x3a x4a x5a h0
            go_wp2_with fail
            go_roundw
            case rel => exact ⟨i + 1, by omega, by go_num, HC3, HX3, HZ3, HB3⟩
            case measure => simp [intOf]; omega
          · have hni : i = n := by omega
            subst hni
            have hi1 : ¬ (i : Int) < (i : Int) := by omega
            have HC3 : Hid (Cabs wr i K a b c d e f (cabU s l (u + 1))) := by
              show Cabs _ _ _ _ _ _ _ _ _ _
              have h := HC.out
              rw [List.take_of_length_le (by rw [HLL.out]; exact Nat.le_refl _)] at h
              exact h
            go_wp2_with fail
            go_roundw
            case rel => exact ⟨u + 1, by omega, by go_num, HC3, HX, HZ, HB⟩
            case measure => simp [intOf]; omega
    · have huu : u = U := by omega
      subst huu
      have hst := HST.out
      obtain ⟨z0, z1, z2, z3, z4, z5, f0, f1, f2, f3, f4, f5⟩ := cabz_cells HZ.out
      by_cases ht0 : t0 < 0
      · have has : allSat n (cabU s l u) = true := by rcases hst with h | h
                                                      · exact absurd (Or.inl ht0) h
                                                      · exact h
        rw [has] at H7
        replace H7 := Lib.hid H7
        clear hst has
        go_wp2_with fail
        refine H7.out.mono ?_
        rintro E1 w1 ⟨rfl, rfl⟩
        go_wp2_with fail
        exact ret_cab Try.results29 rfl (HZ.out.box7 _ _ _ _ _ _) rfl ⟨K, a, b, c, d, e, f, rfl, HC.out.box (ne_of6r HFR.out) _ _ _ _ _ _, from6_r HR0.out HFR.out, HK.out, by rw [HR0.out]; exact Below.box7 HB.out (Nat.le_refl _) _ _ _ _ _ _⟩
      · by_cases ht1 : (u : Int) + 1 ≤ t0
        · have has : allSat n (cabU s l u) = true := by rcases hst with h | h
                                                        · exact absurd (Or.inr (by omega)) h
                                                        · exact h
          rw [has] at H7
          replace H7 := Lib.hid H7
          clear hst has
          go_wp2_with fail
          refine H7.out.mono ?_
          rintro E1 w1 ⟨rfl, rfl⟩
          go_wp2_with fail
          exact ret_cab Try.results29 rfl (HZ.out.box7 _ _ _ _ _ _) rfl ⟨K, a, b, c, d, e, f, rfl, HC.out.box (ne_of6r HFR.out) _ _ _ _ _ _, from6_r HR0.out HFR.out, HK.out, by rw [HR0.out]; exact Below.box7 HB.out (Nat.le_refl _) _ _ _ _ _ _⟩
        · clear hst H7
          go_wp2_with fail
          exact ret_cab Try.results29 rfl (HZ.out.box7 _ _ _ _ _ _) rfl ⟨K, a, b, c, d, e, f, rfl, HC.out.box (ne_of6r HFR.out) _ _ _ _ _ _, from6_r HR0.out HFR.out, HK.out, by rw [HR0.out]; exact Below.box7 HB.out (Nat.le_refl _) _ _ _ _ _ _⟩
end Go.Proofs.Ytohnjdlhgcemjaa
