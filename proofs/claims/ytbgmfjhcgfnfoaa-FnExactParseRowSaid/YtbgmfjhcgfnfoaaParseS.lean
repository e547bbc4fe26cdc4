/- spec.ParseRow, for every text of at most 1048576 bytes. -/
import Derived.Test.YtbgmfjhcgfnfoaaParseM
import Derived.Test.YtbgmfjhcgfnfoaaIsRow
import Derived.Test.YtbgmfjhcgfnfoaaNe
import Derived.Test.YtbgmfjhcgfnfoaaMade0
import Derived.Lib.SmallJoins
namespace Go.Proofs.Ytbgmfjhcgfnfoaa
open Go.RowKit

theorem rowB_lim' {n : Nat} {ring : Bool} {xs : List Int} (h : rowB n ring xs = true) : 2 ≤ n ∧ n ≤ 24 ∧ (ring = true → 3 ≤ n) := by
  obtain ⟨k, S, e, -, h1, h2, h3⟩ := rowB_is h
  have : n = k := by omega
  subst this
  exact ⟨h1, h2, h3⟩

set_option maxHeartbeats 800000 in
theorem parseS_short (s : ByteArray) (w : World) (h : s.size < 5) : Calls Try.prog 30 #[.string s] w (MadeRow w 0 false [] false) := by
  have h1 : (s.size : Int) < 5 := by omega
  have hz := OwnArr.made w 28 [.int .i64 0, .bool false, .slice none 0 0]
  have HZ := Lib.hid hz
  have HB := Lib.hid ((Below.refl w.heap.size w).alloc (Nat.le_refl _) (.cells #[.int .i64 0, .bool false, .slice none 0 0] 28))
  clear hz
  unfold MadeRow
  go_enter Try.func30, Try.ntmps30
  go_wp2_with fail
  exact ret_row2 Try.results30 rfl rfl HZ.out rfl ⟨_, rfl, Out.none _ _, HB.out⟩
set_option maxHeartbeats 800000 in
theorem parseS_long (s : ByteArray) (w : World) (h : 29 < s.size) : Calls Try.prog 30 #[.string s] w (MadeRow w 0 false [] false) := by
  have h1 : ¬ (s.size : Int) < 5 := by omega
  have h2 : (29 : Int) < (s.size : Int) := by omega
  have hz := OwnArr.made w 28 [.int .i64 0, .bool false, .slice none 0 0]
  have HZ := Lib.hid hz
  have HB := Lib.hid ((Below.refl w.heap.size w).alloc (Nat.le_refl _) (.cells #[.int .i64 0, .bool false, .slice none 0 0] 28))
  clear hz
  unfold MadeRow
  go_enter Try.func30, Try.ntmps30
  go_wp2_with fail
  exact ret_row2 Try.results30 rfl rfl HZ.out rfl ⟨_, rfl, Out.none _ _, HB.out⟩

set_option maxRecDepth 4000 in
set_option maxHeartbeats 2000000 in
theorem parseS_mid (s : ByteArray) (w : World) (N : Nat) (ring : Bool) (T : Nat → Bool) (hN : s.size = 5 + N) (hN24 : N ≤ 24) (hr : has5 s (preT true) = ring) (B : Bool) (hB : rowB N ring (ints (tk N T)) = B)
    (hT : ∀ (p : Nat) (h : 5 + p < s.size), ((s[5 + p].toNat : Int) == 120) = T p) (s' : Int) (ring' : Bool) (L : List Int) (R : Bool)
    (hyes : Hid (B = true → ((textT ring T N).toList == s.toList) = true → s' = N ∧ ring' = ring ∧ L = ints (tk N T) ∧ R = true))
    (hno : Hid (B = false ∨ ((textT ring T N).toList == s.toList) = false → s' = 0 ∧ ring' = false ∧ L = [] ∧ R = false)) :
    Calls Try.prog 30 #[.string s] w (MadeRow w s' ring' L R) := by
  obtain ⟨i0, hi, hz0, hz1, hz2⟩ := info_parts infoInt
  have h1 : ¬ (s.size : Int) < 5 := by omega
  have h2 : ¬ (29 : Int) < (s.size : Int) := by omega
  have hw : IntKind.i64.wrap ((s.size : Int) - 5) = (s.size : Int) - 5 := IntWalk.i64_in _ (by omega)
  have hn5 : (5 : Int) + (N : Int) - 5 = (N : Int) := by omega
  have h5 : 5 ≤ s.size := by omega
  have hr2 : ((s.extract 0 5).toList == [114, 105, 110, 103, 32]) = ring := by
    have e : (preT true).toList = [114, 105, 110, 103, 32] := by rw [Lib.toList_data]; rfl
    unfold has5 at hr
    rw [e] at hr
    exact hr
  obtain ⟨w2, hw2⟩ : ∃ w2, w2 = ((w.alloc (.cells #[Value.int .i64 0, Value.bool false, Value.slice none 0 0] 28)).alloc (.cells #[] 3)).alloc (.cells #[Value.int .i64 N, Value.bool ring, Value.slice (some ⟨w.heap.size + 1, 0, none⟩) 0 0] 28) := ⟨_, rfl⟩
  have hZ : OwnArr w2 w.heap.size 28 [.int .i64 0, .bool false, .slice none 0 0] := by rw [hw2]; exact ((OwnArr.mk' rfl rfl).alloc _).alloc _
  have hX : OwnArr w2 (w.heap.size + 1 + 1) 28 [.int .i64 N, .bool ring, .slice (some ⟨w.heap.size + 1, 0, none⟩) 0 0] := by rw [hw2]; exact OwnArr.mk' rfl (by simp)
  have hb0 : Below w.heap.size w w2 := by rw [hw2]; exact ((((Below.refl _ w).alloc (Nat.le_refl _) _).alloc (by simp) _).alloc (by simp; omega) _)
  have hO : Out (w.heap.size + 1) w2 (.slice (some ⟨w.heap.size + 1, 0, none⟩) 0 0) [] := by
    have h := Out.nilLit (w.alloc (.cells #[Value.int .i64 0, Value.bool false, Value.slice none 0 0] 28))
    have hs : (w.alloc (.cells #[Value.int .i64 0, Value.bool false, Value.slice none 0 0] 28)).heap.size = w.heap.size + 1 := by simp
    rw [hs] at h
    rw [hw2]
    exact h.below ((Below.refl _ _).alloc (Nat.le_refl _) _)
  have HZ0 := Lib.hid hZ
  have HX0 := Lib.hid hX
  have HB0 := Lib.hid hb0
  have HO0 := Lib.hid hO
  have HT := Lib.hid hT
  clear hZ hX hb0 hO hT hr
  replace hB := Lib.hid hB
  have hNs := Lib.hid hN
  unfold MadeRow
  go_enter Try.func30, Try.ntmps30
  go_wp2_with fail
  rw [← hw2]
  clear hw2
  go_loopw [5] (fun i wr => ∃ (k : Nat) (v : Value), k ≤ N ∧ i = .int .i64 k ∧ Hid (OwnArr wr (w.heap.size + 1 + 1) 28 [.int .i64 N, .bool ring, v]) ∧ Hid (OwnArr wr w.heap.size 28 [.int .i64 0, .bool false, .slice none 0 0]) ∧ Hid (Out (w.heap.size + 1) wr v (ints (tk k T))) ∧ Hid (Below w.heap.size w wr)) (fun i _ => N - (intOf i).toNat)
  case atStart => exact ⟨0, _, Nat.zero_le _, rfl, HX0, HZ0, HO0, HB0⟩
  case round =>
    obtain ⟨k, v, hk, rfl, HX, HZ, HO, HB⟩ := hrel
    clear HX0 HZ0 HO0 HB0
    obtain ⟨c0, c1, c2, f0, f1, f2⟩ := HX.out.three
    by_cases hlt : k < N
    · have hk1 : (k : Int) < (N : Int) := by omega
      have hk0 : (0 : Int) ≤ (k : Int) := by omega
      have hks : 5 + k < s.size := by omega
      have hb := HT.out k hks
      obtain ⟨t, ht⟩ : ∃ t, T k = t := ⟨_, rfl⟩
      rw [ht] at hb
      cases t with
      | true =>
        have HTT := Lib.hid (ints_tk_yes ht)
        have HL := Lib.hid (ints_tk_len k T)
        have hne1 := Lib.hid (own_ne HO.out HX.out)
        have hne2 := Lib.hid (own_ne HO.out HZ.out)
        have hblk := Lib.hid (own_block HO.out)
        obtain ⟨l, vs, hl, hvs, hown⟩ := HO.out.open'
        have hlk := HL.out
        rw [hl] at hlk
        have hsz2 := HX.out.lt
        replace hl := Lib.hid hl
        replace hvs := Lib.hid hvs
        clear ht
        go_wp2_with (at_builtin; refine wpList_append_own _ rfl _ _ 22 rfl (w.heap.size + 1) 3 i0 (.int .i64 0) 1 8 Try.underlying22 hi hz0 hz1 hz2 rfl (by decide) _ _ _ rfl (hown.alloc _) ⟨wr.heap.size, 0, none⟩ 1 1 [.int .i64 (k : Int)] rfl rfl (cell_one_new _ _ _) (fun x hx => by simp at hx; subst hx; rfl) (by unfold maxLen; omega) (by omega) (by simp; omega) ?_; intro v' w3 hown' hgrow3 hnil3; obtain ⟨g', cp', rfl⟩ := Go.Joins.ownsRow_form hown' (by omega); have HX3 := Lib.hid (OwnArr.grown (HX.out.alloc _) hgrow3 hne1.out); have HZ3 := Lib.hid (OwnArr.grown (HZ.out.alloc _) hgrow3 hne2.out); obtain ⟨d0, d1, d2, g0, g1, g2⟩ := HX3.out.three)
        have hG : Below w.heap.size wr w3 := ((Below.refl w.heap.size wr).alloc (by omega) _).grown hgrow3 (by simp; omega) (fun k' h' => by have := hblk.out k' h'; omega)
        have HO3 : Hid (Out (w.heap.size + 1) w3 (.slice (some ⟨g', 0, none⟩) (l + 1) cp') (ints (tk (k + 1) T))) := by
          show Out _ _ _ _
          rw [HTT.out]; exact Out.close hl.out hvs.out hown'
        have hne3 := Lib.hid (own_ne HO3.out HX3.out)
        have HX4 := Lib.hid (HX3.out.set 2 (.slice (some ⟨g', 0, none⟩) (l + 1) cp'))
        have HZ4 := Lib.hid (HZ3.out.other (a := ⟨w.heap.size + 1 + 1, 2, none⟩) (by show w.heap.size ≠ w.heap.size + 1 + 1; omega) (.slice (some ⟨g', 0, none⟩) (l + 1) cp'))
        have HO4 := Lib.hid (HO3.out.other (a := ⟨w.heap.size + 1 + 1, 2, none⟩) hne3.out (.slice (some ⟨g', 0, none⟩) (l + 1) cp'))
        have HB4 := Lib.hid ((HB.out.trans hG).setCell (p := ⟨w.heap.size + 1 + 1, 2, none⟩) (by show _ ≤ w.heap.size + 1 + 1; omega) (.slice (some ⟨g', 0, none⟩) (l + 1) cp'))
        clear hown' hgrow3 hnil3 hown hG HO3 HX3 HZ3 hne3 HX HZ HO HB
        go_wp2_with fail
        go_roundw
        case rel => exact ⟨k + 1, _, by omega, by go_num, HX4, HZ4, HO4, HB4⟩
        case measure => simp [intOf]; omega
      | false =>
        have HTT := Lib.hid (ints_tk_no ht)
        clear ht
        have ho3 := HO.out
        rw [← HTT.out] at ho3
        have HO3 := Lib.hid ho3
        clear ho3 HO
        go_wp2_with fail
        go_roundw
        case rel => exact ⟨k + 1, v, by omega, by go_num, HX, HZ, HO3, HB⟩
        case measure => simp [intOf]; omega
    · have hkn : k = N := by omega
      subst hkn
      obtain ⟨qa, qc, rfl, -, -, hR, -⟩ := HO.out.rd
      have HO2 := Lib.hid HO.out
      have I := Lib.hid (l2Row_any k ring qa qc (ints (tk k T)) wr _ _ hR (by have := ints_tk_len k T; omega))
      rw [hB.out] at I
      have LT := fun (w' : World) (h' : Below wr.heap.size wr w') => l2Text_any k ring qa qc T w' _ _ (hR.bel h') hN24
      obtain ⟨m, hm⟩ : ∃ m, (ints (tk k T)).length = m := ⟨_, rfl⟩
      rw [hm] at I HO2 HX LT
      rw [hm] at c2
      obtain ⟨X, hX⟩ : ∃ X, textT ring T k = X := ⟨_, rfl⟩
      rw [hX] at LT hyes hno
      replace LT := Lib.hid LT
      clear HO hR hm hX
      cases B with
      | true =>
        go_wp2_with fail
        refine I.out.mono ?_
        rintro e w3 ⟨rfl, hb3⟩
        have HX3 := Lib.hid (HX.out.below hb3 HX.out.lt)
        have HZ3 := Lib.hid (HZ.out.below hb3 HZ.out.lt)
        have HO3 := Lib.hid (HO2.out.below hb3)
        have HB3 := Lib.hid (HB.out.trans (hb3.mono HB.out.size))
        have HLT := Lib.hid (LT.out w3 hb3)
        clear HX HZ HO2 HB hb3 I c0 c1 c2 f0 f1 f2 LT
        obtain ⟨d0, d1, d2, -⟩ := HX3.out.three
        go_wp2_with fail
        refine HLT.out.mono ?_
        rintro e w4 ⟨rfl, hb4⟩
        have HX4 := Lib.hid (HX3.out.below hb4 HX3.out.lt)
        have HZ4 := Lib.hid (HZ3.out.below hb4 HZ3.out.lt)
        have HO4 := Lib.hid (HO3.out.below hb4)
        have HB4 := Lib.hid (HB3.out.trans (hb4.mono HB3.out.size))
        clear HX3 HZ3 HO3 HB3 hb4 HLT d0 d1 d2
        obtain ⟨d0, d1, d2, -⟩ := HX4.out.three
        obtain ⟨z0, z1, z2, y0, y1, y2⟩ := HZ4.out.three
        obtain ⟨C, hC⟩ : ∃ C, (X.toList == s.toList) = C := ⟨_, rfl⟩
        rw [hC] at hyes hno
        cases C with
        | false =>
          obtain ⟨rfl, rfl, rfl, rfl⟩ := hno.out (.inr (by first | trivial | rfl))
          go_wp2_with fail
          exact ret_row2 Try.results30 rfl rfl (((HZ4.out.set 0 _).set 1 _).set 2 _) rfl ⟨_, rfl, Out.none _ _, ((HB4.out.setCell (Nat.le_refl _) _).setCell (Nat.le_refl _) _).setCell (Nat.le_refl _) _⟩
        | true =>
          obtain ⟨rfl, rfl, rfl, rfl⟩ := hyes.out (by first | trivial | rfl) (by first | trivial | rfl)
          go_wp2_with fail
          exact ret_row2 Try.results30 rfl rfl (((HZ4.out.set 0 _).set 1 _).set 2 _) rfl ⟨_, rfl, (HO4.out.boxed HZ4.out _ _ _).mono (Nat.le_succ _), ((HB4.out.setCell (Nat.le_refl _) _).setCell (Nat.le_refl _) _).setCell (Nat.le_refl _) _⟩
      | false =>
        obtain ⟨rfl, rfl, rfl, rfl⟩ := hno.out (.inl (by first | trivial | rfl))
        go_wp2_with fail
        refine I.out.mono ?_
        rintro e w3 ⟨rfl, hb3⟩
        have HZ3 := Lib.hid (HZ.out.below hb3 HZ.out.lt)
        have HB3 := Lib.hid (HB.out.trans (hb3.mono HB.out.size))
        clear HX HZ HO2 HB hb3 I c0 c1 c2 f0 f1 f2 LT
        obtain ⟨z0, z1, z2, y0, y1, y2⟩ := HZ3.out.three
        go_wp2_with fail
        exact ret_row2 Try.results30 rfl rfl (((HZ3.out.set 0 _).set 1 _).set 2 _) rfl ⟨_, rfl, Out.none _ _, ((HB3.out.setCell (Nat.le_refl _) _).setCell (Nat.le_refl _) _).setCell (Nat.le_refl _) _⟩
end Go.Proofs.Ytbgmfjhcgfnfoaa
