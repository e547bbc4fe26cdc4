/- spec.l1Put: an element put into an ascending list. -/
import Derived.Test.YtogdiahojbonaaaOwnL
namespace Go.Proofs.Ytogdiahojbonaaa
open Go.RowKit


set_option maxRecDepth 4000 in
set_option maxHeartbeats 2000000 in
theorem l1Put_any (b off cap : Nat) (xs : List Int) (x : Int) (w : World) (lo hi : Nat) (hin : Ri lo hi w (some ⟨b, off, none⟩) xs) (hlen : xs.length ≤ 1000) (hcap : xs.length ≤ cap) (_ : cap ≤ maxLen) (hx : x ∉ xs) :
    Calls Try.prog 60 #[.slice (some ⟨b, off, none⟩) xs.length cap, .int .i64 x] w fun e w' => ∃ g c, e = .returned (.slice (some ⟨g, 0, none⟩) (xs.length + 1) c) ∧ w.heap.size ≤ g ∧ xs.length + 1 ≤ c ∧ c ≤ maxLen ∧ Out w.heap.size w' (.slice (some ⟨g, 0, none⟩) (xs.length + 1) c) (putM x xs) ∧ Below w.heap.size w w' := by
  have HIN := Lib.hid hin
  have HX := Lib.hid hx
  obtain ⟨m, hm⟩ : ∃ m, xs.length = m := ⟨_, rfl⟩
  rw [hm] at hlen hcap ⊢
  have HM := Lib.hid hm
  clear hin hx hm
  go_enter Try.func60, Try.ntmps60
  go_wp2_with fail
  go_loopw [5] (fun i wr => ∃ (k : Nat), k ≤ m ∧ i = .int .i64 k ∧ Hid (∀ j, j < k → xs[j]?.getD 0 < x) ∧ Hid (Below w.heap.size w wr)) (fun i _ => m - (intOf i).toNat)
  case atStart => exact ⟨0, Nat.zero_le _, rfl, by show ∀ _, _; intro j hj; omega, by show Below _ _ _; exact Below.refl _ _⟩
  case round =>
    obtain ⟨k, hk, rfl, HL, HB⟩ := hrel
    by_cases hlt : k < m
    · have hk1 : (k : Int) < (m : Int) := by omega
      obtain ⟨b', off', hbo, -, -, hbw, hc⟩ := HIN.out.int (by rw [HM.out]; omega)
      simp only [Option.some.injEq, Addr.mk.injEq, and_true] at hbo
      obtain ⟨rfl, rfl⟩ := hbo
      have h0 := (HB.out.cell (p := ⟨b, off + k, none⟩) hbw).trans (hc k (by rw [HM.out]; omega))
      obtain ⟨y, hy⟩ : ∃ y, xs[k]?.getD 0 = y := ⟨_, rfl⟩
      rw [hy] at h0
      have HY := Lib.hid hy
      clear hc hy
      by_cases hyx : y < x
      · have HL2 : Hid (∀ j, j < k + 1 → xs[j]?.getD 0 < x) := by
          show ∀ _, _
          intro j hj
          by_cases e : j = k
          · rw [e, HY.out]; exact hyx
          · exact HL.out j (by omega)
        go_wp2_with fail
        go_roundw
        case rel => exact ⟨k + 1, by omega, by go_num, HL2, HB⟩
        case measure => simp [intOf]; omega
      · have hne : ¬ y = x := by
          intro e
          apply HX.out
          rw [← e, ← HY.out]
          have h' : k < xs.length := by rw [HM.out]; exact hlt
          rw [List.getElem?_eq_getElem h']; exact List.getElem_mem h'
        have hne2 : ¬ x = y := fun e => hne e.symm
        have hb0 : (0 : Int) ≤ (k : Int) := by omega
        have hb1 : (k : Int) ≤ (m : Int) := by omega
        have hb2 : (k : Int) ≤ (cap : Int) := by omega
        have hb3 : (m : Int) ≤ (cap : Int) := by omega
        have hb3' : m ≤ cap := hcap
        have hb3' : m ≤ cap := hcap
        have hb3' : m ≤ cap := hcap
        have hb3' : m ≤ cap := hcap
        have hb3' : m ≤ cap := hcap
        go_wp2_with fail
        -- TAIL
        have hpm : putM x xs = xs.take k ++ [x] ++ xs.drop k := by
          rw [putM_at x xs k (by have := HM.out; omega) HL.out (by intro h; have hy := HY.out; have hm := HM.out; omega)]
          simp
        have hlt1 : (xs.take k).length = k := by rw [List.length_take, HM.out]; omega
        have hld1 : (xs.drop k).length = (m - k) := by have := HM.out; rw [List.length_drop]; omega
        have hsz := HB.out.size
        have HA : Hid (Out w.heap.size (wr.alloc (.cells #[] 3)).drew (.slice (some ⟨wr.heap.size, 0, none⟩) 0 0) []) := (Out.nilLit wr).mono hsz
        have HBB : Hid (Out w.heap.size ((wr.alloc (.cells #[] 3)).alloc (.cells #[.int .i64 x] 3)).drew (.slice (some ⟨wr.heap.size, 0, none⟩) 0 0) []) := World.ownsRow.alloc HA.out (.cells #[.int .i64 x] 3)
        have HC : Hid (Out w.heap.size ((wr.alloc (.cells #[.int .i64 x] 3)).alloc (.cells #[] 3)).drew (.slice (some ⟨wr.heap.size + 1, 0, none⟩) 0 0) []) := by
          show Out _ _ _ _
          have h := Out.nilLit (wr.alloc (.cells #[.int .i64 x] 3))
          have hs : (wr.alloc (.cells #[.int .i64 x] 3)).heap.size = wr.heap.size + 1 := by simp
          rw [hs] at h
          exact h.mono (by omega)
        have LB : Hid (OwnArr ((wr.alloc (.cells #[] 3)).alloc (.cells #[.int .i64 x] 3)).drew (wr.heap.size + 1) 3 [.int .i64 x]) := OwnArr.mk' (w := wr.alloc (.cells #[] 3)) rfl (by simp)
        have LC : Hid (OwnArr ((wr.alloc (.cells #[.int .i64 x] 3)).alloc (.cells #[] 3)).drew wr.heap.size 3 [.int .i64 x]) := (OwnArr.made wr _ [_]).alloc _
        have bA : Hid (Below w.heap.size w (wr.alloc (.cells #[] 3)).drew) := by show Below _ _ _; exact (HB.out.alloc hsz _).drew
        have bB : Hid (Below w.heap.size w ((wr.alloc (.cells #[] 3)).alloc (.cells #[.int .i64 x] 3)).drew) := by show Below _ _ _; exact ((HB.out.alloc hsz _).alloc (by simp; omega) _).drew
        have bC : Hid (Below w.heap.size w ((wr.alloc (.cells #[.int .i64 x] 3)).alloc (.cells #[] 3)).drew) := by show Below _ _ _; exact ((HB.out.alloc hsz _).alloc (by simp; omega) _).drew
        have RT : Hid (∀ w', Below w.heap.size w w' → Ri lo hi w' (some ⟨b, off, none⟩) (xs.take k)) := by
          show ∀ _, _
          intro w' hb
          have := (HIN.out.below hb HIN.out.top).pfx k
          rw [iv_take] at this
          exact this
        have RD : Hid (∀ w', Below w.heap.size w w' → Ri lo hi w' (if cap = k then some ⟨b, off, none⟩ else some ⟨b, off + k, none⟩) (xs.drop k)) := by
          show ∀ _, _
          intro w' hb
          exact (HIN.out.below hb HIN.out.top).behind (by rw [HM.out]; exact hb3')
        replace hpm := Lib.hid hpm
        clear h0 hbw hyx
        go_region_law (first
          | (refine step_app rfl (.tmp 33) (.tmp 36) rfl w.heap.size (.slice (some ⟨wr.heap.size, 0, none⟩) 0 0) [] (by rfl) HA.out _ k cap lo hi (xs.take k) (by rfl) (RT.out _ bA.out) hlt1 (by simp; omega) bA.out.size ?_; intro v1 w1 hO1 hg1 hn1; have Hb1 := Lib.hid (bA.out.grown hg1 bA.out.size (own_block HA.out)); have HO1 := Lib.hid hO1; have HL1 := Lib.hid (True.intro); clear hO1 hg1 hn1)
          | (refine step_app rfl (.tmp 33) (.tmp 36) rfl w.heap.size (.slice (some ⟨wr.heap.size, 0, none⟩) 0 0) [] (by rfl) HBB.out _ k cap lo hi (xs.take k) (by rfl) (RT.out _ bB.out) hlt1 (by simp; omega) bB.out.size ?_; intro v1 w1 hO1 hg1 hn1; have Hb1 := Lib.hid (bB.out.grown hg1 bB.out.size (own_block HBB.out)); have HO1 := Lib.hid hO1; have HL1 := Lib.hid (OwnArr.grown LB.out hg1 (by simp [Value.ownBlock])); clear hO1 hg1 hn1)
          | (refine step_app rfl (.tmp 33) (.tmp 36) rfl w.heap.size (.slice (some ⟨wr.heap.size + 1, 0, none⟩) 0 0) [] (by rfl) HC.out _ k cap lo hi (xs.take k) (by rfl) (RT.out _ bC.out) hlt1 (by simp; omega) bC.out.size ?_; intro v1 w1 hO1 hg1 hn1; have Hb1 := Lib.hid (bC.out.grown hg1 bC.out.size (own_block HC.out)); have HO1 := Lib.hid hO1; have HL1 := Lib.hid (OwnArr.grown LC.out hg1 (by simp [Value.ownBlock])); clear hO1 hg1 hn1)
          | (refine step_app rfl (.tmp 37) (.tmp 39) rfl w.heap.size v1 ([] ++ xs.take k) (by rfl) HO1.out _ 1 1 0 w1.heap.size [x] (by rfl) (lit_one HL1.out _ HL1.out.lt (Nat.le_refl _)) rfl (by simp; omega) Hb1.out.size ?_; intro v2 w2 hO2 hg2 hn2; have Hb2 := Lib.hid (Hb1.out.grown hg2 Hb1.out.size (own_block HO1.out)); have HO2 := Lib.hid hO2; clear hO2 hg2 hn2)
          | (refine step_app rfl (.tmp 37) (.tmp 39) rfl w.heap.size v1 ([] ++ xs.take k) (by rfl) (World.ownsRow.alloc HO1.out _) _ 1 1 0 (w1.alloc (.cells #[.int .i64 x] 3)).heap.size [x] (by rfl) (lit_one (OwnArr.made w1 _ [_]) _ (by simp) (Nat.le_refl _)) rfl (by simp; omega) ((Hb1.out.alloc Hb1.out.size (.cells #[.int .i64 x] 3)).size) ?_; intro v2 w2 hO2 hg2 hn2; have Hb2 := Lib.hid ((Hb1.out.alloc Hb1.out.size (.cells #[.int .i64 x] 3)).grown hg2 (Hb1.out.alloc Hb1.out.size (.cells #[.int .i64 x] 3)).size (own_block HO1.out)); have HO2 := Lib.hid hO2; clear hO2 hg2 hn2)
          | (refine step_app rfl (.tmp 40) (.tmp 43) rfl w.heap.size v2 ([] ++ xs.take k ++ [x]) (by rfl) HO2.out _ (m - k) (cap - k) lo hi (xs.drop k) (by rfl) (RD.out _ Hb2.out) hld1 (by simp; omega) Hb2.out.size ?_; intro v3 w3 hO3 hg3 hn3; have Hb3 := Lib.hid (Hb2.out.grown hg3 Hb2.out.size (own_block HO2.out)); rw [List.nil_append, ← hpm.out] at hO3; have HO3 := Lib.hid hO3; clear hO3 hg3 hn3))
        all_goals
          have hpl : (putM x xs).length = m + 1 := by rw [putM_length, HM.out]
          have hf := World.ownsRow.form HO3.out (by omega)
          rw [hpl] at hf
          obtain ⟨g, c, rfl, hg1, hg2⟩ := hf
          have hcc := HO3.out.some' (by simp)
          rw [hpl] at hcc
          obtain ⟨g', c', he, -, -, h4, h5⟩ := hcc
          simp only [Value.slice.injEq, Option.some.injEq, Addr.mk.injEq, and_true, true_and] at he
          obtain ⟨rfl, rfl⟩ := he
          go_wp2_with fail
          all_goals
            go_ret
            exact ⟨g, c, rfl, hg1, h4, h5, HO3.out, Hb3.out⟩
    · have hkm : k = m := by omega
      subst hkm
      have hb0 : (0 : Int) ≤ (k : Int) := by omega
      have hb2 : (k : Int) ≤ (cap : Int) := by omega
      have hb3' : k ≤ cap := hcap
      have HY := Lib.hid (True.intro)
      go_wp2_with fail
      -- TAIL
      have hpm : putM x xs = xs.take k ++ [x] ++ xs.drop k := by
        rw [putM_at x xs k (by have := HM.out; omega) HL.out (by intro h; have hy := HY.out; have hm := HM.out; omega)]
        simp
      have hlt1 : (xs.take k).length = k := by rw [List.length_take, HM.out]; omega
      have hld1 : (xs.drop k).length = 0 := by have := HM.out; rw [List.length_drop]; omega
      have hsz := HB.out.size
      have HA : Hid (Out w.heap.size (wr.alloc (.cells #[] 3)).drew (.slice (some ⟨wr.heap.size, 0, none⟩) 0 0) []) := (Out.nilLit wr).mono hsz
      have HBB : Hid (Out w.heap.size ((wr.alloc (.cells #[] 3)).alloc (.cells #[.int .i64 x] 3)).drew (.slice (some ⟨wr.heap.size, 0, none⟩) 0 0) []) := World.ownsRow.alloc HA.out (.cells #[.int .i64 x] 3)
      have HC : Hid (Out w.heap.size ((wr.alloc (.cells #[.int .i64 x] 3)).alloc (.cells #[] 3)).drew (.slice (some ⟨wr.heap.size + 1, 0, none⟩) 0 0) []) := by
        show Out _ _ _ _
        have h := Out.nilLit (wr.alloc (.cells #[.int .i64 x] 3))
        have hs : (wr.alloc (.cells #[.int .i64 x] 3)).heap.size = wr.heap.size + 1 := by simp
        rw [hs] at h
        exact h.mono (by omega)
      have LB : Hid (OwnArr ((wr.alloc (.cells #[] 3)).alloc (.cells #[.int .i64 x] 3)).drew (wr.heap.size + 1) 3 [.int .i64 x]) := OwnArr.mk' (w := wr.alloc (.cells #[] 3)) rfl (by simp)
      have LC : Hid (OwnArr ((wr.alloc (.cells #[.int .i64 x] 3)).alloc (.cells #[] 3)).drew wr.heap.size 3 [.int .i64 x]) := (OwnArr.made wr _ [_]).alloc _
      have bA : Hid (Below w.heap.size w (wr.alloc (.cells #[] 3)).drew) := by show Below _ _ _; exact (HB.out.alloc hsz _).drew
      have bB : Hid (Below w.heap.size w ((wr.alloc (.cells #[] 3)).alloc (.cells #[.int .i64 x] 3)).drew) := by show Below _ _ _; exact ((HB.out.alloc hsz _).alloc (by simp; omega) _).drew
      have bC : Hid (Below w.heap.size w ((wr.alloc (.cells #[.int .i64 x] 3)).alloc (.cells #[] 3)).drew) := by show Below _ _ _; exact ((HB.out.alloc hsz _).alloc (by simp; omega) _).drew
      have RT : Hid (∀ w', Below w.heap.size w w' → Ri lo hi w' (some ⟨b, off, none⟩) (xs.take k)) := by
        show ∀ _, _
        intro w' hb
        have := (HIN.out.below hb HIN.out.top).pfx k
        rw [iv_take] at this
        exact this
      have RD : Hid (∀ w', Below w.heap.size w w' → Ri lo hi w' (if cap = k then some ⟨b, off, none⟩ else some ⟨b, off + k, none⟩) (xs.drop k)) := by
        show ∀ _, _
        intro w' hb
        exact (HIN.out.below hb HIN.out.top).behind (by rw [HM.out]; exact hb3')
      replace hpm := Lib.hid hpm
      clear HY
      go_region_law (first
        | (refine step_app rfl (.tmp 33) (.tmp 36) rfl w.heap.size (.slice (some ⟨wr.heap.size, 0, none⟩) 0 0) [] (by rfl) HA.out _ k cap lo hi (xs.take k) (by rfl) (RT.out _ bA.out) hlt1 (by simp; omega) bA.out.size ?_; intro v1 w1 hO1 hg1 hn1; have Hb1 := Lib.hid (bA.out.grown hg1 bA.out.size (own_block HA.out)); have HO1 := Lib.hid hO1; have HL1 := Lib.hid (True.intro); clear hO1 hg1 hn1)
        | (refine step_app rfl (.tmp 33) (.tmp 36) rfl w.heap.size (.slice (some ⟨wr.heap.size, 0, none⟩) 0 0) [] (by rfl) HBB.out _ k cap lo hi (xs.take k) (by rfl) (RT.out _ bB.out) hlt1 (by simp; omega) bB.out.size ?_; intro v1 w1 hO1 hg1 hn1; have Hb1 := Lib.hid (bB.out.grown hg1 bB.out.size (own_block HBB.out)); have HO1 := Lib.hid hO1; have HL1 := Lib.hid (OwnArr.grown LB.out hg1 (by simp [Value.ownBlock])); clear hO1 hg1 hn1)
        | (refine step_app rfl (.tmp 33) (.tmp 36) rfl w.heap.size (.slice (some ⟨wr.heap.size + 1, 0, none⟩) 0 0) [] (by rfl) HC.out _ k cap lo hi (xs.take k) (by rfl) (RT.out _ bC.out) hlt1 (by simp; omega) bC.out.size ?_; intro v1 w1 hO1 hg1 hn1; have Hb1 := Lib.hid (bC.out.grown hg1 bC.out.size (own_block HC.out)); have HO1 := Lib.hid hO1; have HL1 := Lib.hid (OwnArr.grown LC.out hg1 (by simp [Value.ownBlock])); clear hO1 hg1 hn1)
        | (refine step_app rfl (.tmp 37) (.tmp 39) rfl w.heap.size v1 ([] ++ xs.take k) (by rfl) HO1.out _ 1 1 0 w1.heap.size [x] (by rfl) (lit_one HL1.out _ HL1.out.lt (Nat.le_refl _)) rfl (by simp; omega) Hb1.out.size ?_; intro v2 w2 hO2 hg2 hn2; have Hb2 := Lib.hid (Hb1.out.grown hg2 Hb1.out.size (own_block HO1.out)); have HO2 := Lib.hid hO2; clear hO2 hg2 hn2)
        | (refine step_app rfl (.tmp 37) (.tmp 39) rfl w.heap.size v1 ([] ++ xs.take k) (by rfl) (World.ownsRow.alloc HO1.out _) _ 1 1 0 (w1.alloc (.cells #[.int .i64 x] 3)).heap.size [x] (by rfl) (lit_one (OwnArr.made w1 _ [_]) _ (by simp) (Nat.le_refl _)) rfl (by simp; omega) ((Hb1.out.alloc Hb1.out.size (.cells #[.int .i64 x] 3)).size) ?_; intro v2 w2 hO2 hg2 hn2; have Hb2 := Lib.hid ((Hb1.out.alloc Hb1.out.size (.cells #[.int .i64 x] 3)).grown hg2 (Hb1.out.alloc Hb1.out.size (.cells #[.int .i64 x] 3)).size (own_block HO1.out)); have HO2 := Lib.hid hO2; clear hO2 hg2 hn2)
        | (refine step_app rfl (.tmp 40) (.tmp 43) rfl w.heap.size v2 ([] ++ xs.take k ++ [x]) (by rfl) HO2.out _ 0 (cap - k) lo hi (xs.drop k) (by rfl) (RD.out _ Hb2.out) hld1 (by simp; omega) Hb2.out.size ?_; intro v3 w3 hO3 hg3 hn3; have Hb3 := Lib.hid (Hb2.out.grown hg3 Hb2.out.size (own_block HO2.out)); rw [List.nil_append, ← hpm.out] at hO3; have HO3 := Lib.hid hO3; clear hO3 hg3 hn3))
      all_goals
        have hpl : (putM x xs).length = k + 1 := by rw [putM_length, HM.out]
        have hf := World.ownsRow.form HO3.out (by omega)
        rw [hpl] at hf
        obtain ⟨g, c, rfl, hg1, hg2⟩ := hf
        have hcc := HO3.out.some' (by simp)
        rw [hpl] at hcc
        obtain ⟨g', c', he, -, -, h4, h5⟩ := hcc
        simp only [Value.slice.injEq, Option.some.injEq, Addr.mk.injEq, and_true, true_and] at he
        obtain ⟨rfl, rfl⟩ := he
        go_wp2_with fail
        all_goals
          go_ret
          exact ⟨g, c, rfl, hg1, h4, h5, HO3.out, Hb3.out⟩
end Go.Proofs.Ytogdiahojbonaaa
