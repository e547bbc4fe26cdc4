/- spec.l4Blocks and spec.BlocksOf, for every Row. -/
import Derived.Test.YtbgmfjhcgfnfoaaFill
import Derived.Test.YtbgmfjhcgfnfoaaLonS
import Derived.Test.YtbgmfjhcgfnfoaaMade
import Derived.Test.YtbgmfjhcgfnfoaaRuns
namespace Go.Proofs.Ytbgmfjhcgfnfoaa
open Go.RowKit

theorem own_lt {B b : Nat} {w : World} {v : Value} {xs : List Int} (h : Out B w v xs) (e : v.ownBlock = some b) : b < w.heap.size := by
  rcases h.2 with ⟨hv, _⟩ | ⟨g, cap, cur, hv, _, hh, _⟩
  · subst hv; simp [Value.ownBlock] at e
  · subst hv
    simp only [Value.ownBlock, Option.some.injEq] at e
    subst e
    rcases Nat.lt_or_ge g w.heap.size with h1 | h1
    · exact h1
    · rw [Array.getElem?_eq_none h1] at hh; cases hh

set_option maxRecDepth 4000 in
set_option maxHeartbeats 2000000 in
theorem blkS_any (n : Nat) (ring : Bool) (p : Option Addr) (cap : Nat) (S : Nat → Bool) (w : World) (lo hi : Nat) (hin : Ri lo hi w p (ints (tk n S))) (h2 : 2 ≤ n) (hn : n ≤ 24) :
    Calls Try.prog 43 #[rowV n ring p (ints (tk n S)).length cap] w fun e w' => ∃ v, e = .returned v ∧ OutP w.heap.size w' v (prs (runsM n ring fun k => !lonM n ring S k)) ∧ Below w.heap.size w w' := by
  obtain ⟨i0, hi0, hz0, hz1, hz2⟩ := info_parts infoInt
  have LN := Lib.hid (fun (w' : World) (h' : Below w.heap.size w w') => lonS_any n ring p cap S w' lo hi (hin.below h' hin.top) hn)
  have RU := Lib.hid (fun (M : Nat → Bool) (q : Option Addr) (c : Nat) (w' : World) (l h' : Nat) (h : Ri l h' w' q (ints (tk n M))) => runsS_any n ring q c M w' l h' h h2 hn)
  obtain ⟨T, hT⟩ : ∃ T : Nat → Bool, lonM n ring S = T := ⟨_, rfl⟩
  obtain ⟨M, hM⟩ : ∃ M : Nat → Bool, (fun k => !lonM n ring S k) = M := ⟨_, rfl⟩
  have HM : Hid (∀ k, M k = !T k) := by show ∀ _, _; intro k; rw [← hM, ← hT]
  rw [hM]
  rw [hT] at LN
  have HTL := Lib.hid (ints_tk_len n T)
  have LH := Lib.hid (fun (q : Option Addr) (c : Nat) (x : Int) (w' : World) (l h' : Nat) (h : Ri l h' w' q (ints (tk n T))) => l1Has_any q c (ints (tk n T)) x w' l h' h (by have := ints_tk_len n T; omega))
  have HH : Hid (∀ k, k < n → decide ((k : Int) ∈ ints (tk n T)) = T k) := by show ∀ _, _; intro k hk; exact has_tk hk
  obtain ⟨F, hF⟩ : ∃ F, ints (tk n T) = F := ⟨_, rfl⟩
  rw [hF] at LN LH HH HTL
  have hst := loop_start w n ring p (ints (tk n S)).length cap
  obtain ⟨m, hm⟩ : ∃ m, (ints (tk n S)).length = m := ⟨_, rfl⟩
  rw [hm] at LN hst ⊢
  have HX0 := Lib.hid hst.1
  have HO0 := Lib.hid hst.2.1
  have HB0 := Lib.hid hst.2.2
  clear hst hin hT hM hF hm
  obtain ⟨c0, c1, c2, -⟩ := HX0.out.three
  go_enter Try.func43, Try.ntmps43
  go_wp2_with fail
  refine (LN.out _ HB0.out).mono ?_
  rintro e w1 ⟨lv, rfl, hL, hb1⟩
  have HLN := Lib.hid hL
  have HX1 := Lib.hid (HX0.out.below hb1 HX0.out.lt)
  have HO1 := Lib.hid (HO0.out.below hb1)
  have HB1 := Lib.hid (HB0.out.trans (hb1.mono HB0.out.size))
  have HNE : Hid (lv.ownBlock = none ∨ lv.ownBlock ≠ Value.ownBlock (.slice (some ⟨w.heap.size + 1, 0, none⟩) 0 0)) := by
    show _ ∨ _
    refine .inr fun e => ?_
    have := own_block hL (w.heap.size + 1) (by rw [e]; rfl)
    simp at this
    omega
  clear hL hb1 LN HX0 HO0 HB0 c0 c1 c2
  go_wp2_with fail
  go_loopw [3, 5] (fun v i wr => ∃ (k : Nat), k ≤ n ∧ i = .int .i64 k ∧ Hid (OwnArr wr w.heap.size 28 [.int .i64 n, .bool ring, .slice p m cap]) ∧ Hid (Out (w.heap.size + 1) wr v (ints (tk k M))) ∧ Hid (Out (w.heap.size + 1) wr lv F) ∧ Hid (lv.ownBlock = none ∨ lv.ownBlock ≠ v.ownBlock) ∧ Hid (Below w.heap.size w wr)) (fun _ i _ => n - (intOf i).toNat)
  case atStart => exact ⟨0, Nat.zero_le _, rfl, HX1, HO1, HLN.out.mono (by simp), HNE, HB1⟩
  case round =>
    obtain ⟨k, hk, rfl, HX, HO, HL, HN, HB⟩ := hrel
    clear HX1 HO1 HB1 HLN HNE
    obtain ⟨c0, c1, c2, -⟩ := HX.out.three
    by_cases hlt : k < n
    · have hk1 : (k : Int) < (n : Int) := by omega
      have hMk := HM.out k
      have hHk := HH.out k hlt
      obtain ⟨q, c, hlv, -, -, hR, -⟩ := HL.out.rd
      subst hlv
      have G := LH.out q c (k : Int) wr _ _ hR
      rw [hHk] at G
      have hyes := fun h => ints_tk_yes (k := k) (T := M) h
      have hno := fun h => ints_tk_no (k := k) (T := M) h
      obtain ⟨fl, hfl⟩ : ∃ fl, F.length = fl := ⟨_, rfl⟩
      rw [hfl] at G HL HN ⊢
      obtain ⟨b, hb⟩ : ∃ b, T k = b := ⟨_, rfl⟩
      rw [hb] at G hMk
      have HG := Lib.hid G
      cases b with
      | true =>
        have HT := Lib.hid (hno hMk)
        clear hyes hno hMk G hR hHk hb
        go_wp2_with fail
        refine HG.out.mono ?_
        rintro e w2 ⟨rfl, rfl⟩
        have ho := HO.out
        rw [← HT.out] at ho
        have HO3 := Lib.hid ho
        clear HO ho HG
        go_wp2_with fail
        go_roundw
        case rel => exact ⟨k + 1, by omega, by go_num, HX, HO3, HL, HN, HB⟩
        case measure => simp [intOf]; omega
      | false =>
        have HT := Lib.hid (hyes hMk)
        clear hyes hno hMk G hR hHk hb
        go_wp2_with fail
        refine HG.out.mono ?_
        rintro e w2 ⟨rfl, rfl⟩
        have HLk := Lib.hid (ints_tk_len k M)
        have hblk := Lib.hid (own_block HO.out)
        obtain ⟨l, vs, hl, hvs, hown⟩ := HO.out.open'
        have hlk := HLk.out
        rw [hl] at hlk
        have hsz2 := HX.out.lt
        replace hl := Lib.hid hl
        replace hvs := Lib.hid hvs
        clear HG HLk
        go_wp2_with (at_builtin; refine wpList_append_own_at _ rfl _ _ 22 rfl (w.heap.size + 1) 3 i0 (.int .i64 0) 1 8 Try.underlying22 hi0 hz0 hz1 hz2 rfl (by decide) _ _ _ rfl (hown.alloc _) ⟨wr.heap.size, 0, none⟩ 1 1 [.int .i64 (k : Int)] rfl rfl (cell_one_new _ _ _) (fun x hx => by simp at hx; subst hx; rfl) (by unfold maxLen; omega) (by omega) (by simp; omega) ?_; intro v' w3 hown' hgrow3 hnil3 hat3)
        have hG : Below (w.heap.size + 1) wr w3 := ((Below.refl (w.heap.size + 1) wr).alloc (by omega) _).grown hgrow3 (by simp; omega) hblk.out
        have HX3 := Lib.hid (HX.out.below hG (Nat.lt_succ_self _))
        have HB3 := Lib.hid (HB.out.trans (hG.mono (Nat.le_succ _)))
        have HO3 : Hid (Out (w.heap.size + 1) w3 v' (ints (tk (k + 1) M))) := by
          show Out _ _ _ _
          rw [HT.out]; exact Out.close hl.out hvs.out hown'
        have HL3 : Hid (Out (w.heap.size + 1) w3 (.slice q fl c) F) := by
          show Out _ _ _ _
          have := HL.out
          unfold Out at this ⊢
          exact World.ownsRow.kept (World.ownsRow.alloc this _) hgrow3 HN.out
        have HN3 : Hid (Value.ownBlock (.slice q fl c) = none ∨ Value.ownBlock (.slice q fl c) ≠ v'.ownBlock) := by
          show _ ∨ _
          rcases hat3 with e | e
          · rw [e]; exact HN.out
          · cases hq : Value.ownBlock (.slice q fl c) with
            | none => exact .inl rfl
            | some b =>
              refine .inr ?_
              rw [e]
              have := own_lt HL.out hq
              simp
              omega
        clear hown' hgrow3 hnil3 hown hG hat3 HX HO HL HN HB hl hvs HT hblk c0 c1 c2
        go_wp2
        go_roundw
        case rel => exact ⟨k + 1, by omega, by go_num, HX3, HO3, HL3, HN3, HB3⟩
        case measure => simp [intOf]; omega
    · have hkn : k = n := by omega
      subst hkn
      obtain ⟨q, c, hv, -, -, hR, -⟩ := HO.out.rd
      subst hv
      have MD := Lib.hid (fun w' => l2Made_any k ring p m cap q (ints (tk k M)).length c w')
      have RU2 := Lib.hid (fun (w' : World) (h' : Below wr.heap.size wr w') => RU.out M q c w' _ _ (hR.bel h'))
      obtain ⟨mm, hmm⟩ : ∃ mm, (ints (tk k M)).length = mm := ⟨_, rfl⟩
      rw [hmm] at MD RU2 ⊢
      clear hR HO HL HN RU LH HH HM HTL hmm
      go_wp2_with fail
      refine (MD.out _).mono ?_
      rintro e w2 ⟨rfl, hb2⟩
      have R2 := Lib.hid (RU2.out _ hb2)
      have HB2 := Lib.hid (HB.out.trans (hb2.mono HB.out.size))
      clear hb2 HB RU2 MD c0 c1 c2
      go_wp2_with fail
      refine R2.out.mono ?_
      rintro e w4 ⟨v, rfl, hO4, hb4⟩
      have HO4 := Lib.hid (hO4.mono HB2.out.size)
      have HB4 := Lib.hid (HB2.out.trans (hb4.mono HB2.out.size))
      clear hO4 hb4 R2 HB2
      go_wp2_with fail
      go_ret
      exact ⟨v, rfl, HO4.out, HB4.out⟩

set_option maxHeartbeats 800000 in
theorem blocksS_no (s : Int) (ring : Bool) (p : Option Addr) (cap : Nat) (xs : List Int) (w : World) (lo hi : Nat) (hin : Ri lo hi w p xs) (hlen : xs.length ≤ 1048576) (h : fillB s ring xs = false) :
    Calls Try.prog 23 #[rowV s ring p xs.length cap] w fun e w' => ∃ v, e = .returned (.tuple #[v, .bool false]) ∧ OutP w.heap.size w' v [] ∧ Below w.heap.size w w' := by
  have hb := box_below w s ring p xs.length cap 28
  have I := Lib.hid (l4Row_any s ring p cap xs _ lo hi (hin.bel hb) hlen)
  rw [h] at I
  have HB := Lib.hid hb
  clear hb hin h
  go_enter Try.func23, Try.ntmps23
  go_wp2_with fail
  refine I.out.mono ?_
  rintro e w1 ⟨rfl, hb1⟩
  have HB1 := HB.out.trans (hb1.mono HB.out.size)
  clear I HB hb1
  go_wp2_with fail
  go_ret2
  exact ⟨_, rfl, (OutP.nilLit w1).mono HB1.size, HB1.alloc HB1.size _⟩

set_option maxHeartbeats 800000 in
theorem blocksS_ok (n : Nat) (ring : Bool) (p : Option Addr) (cap : Nat) (S : Nat → Bool) (w : World) (lo hi : Nat) (hin : Ri lo hi w p (ints (tk n S))) (h2 : 2 ≤ n) (hn : n ≤ 12) (h3 : ring = true → 3 ≤ n) :
    Calls Try.prog 23 #[rowV n ring p (ints (tk n S)).length cap] w fun e w' => ∃ v, e = .returned (.tuple #[v, .bool true]) ∧ OutP w.heap.size w' v (prs (runsM n ring fun k => !lonM n ring S k)) ∧ Below w.heap.size w w' := by
  have hlen := ints_tk_len n S
  have hb := box_below w n ring p (ints (tk n S)).length cap 28
  have I := Lib.hid (l4Row_any n ring p cap (ints (tk n S)) _ lo hi (hin.bel hb) (by omega))
  rw [fillB_of h2 hn h3] at I
  have L := Lib.hid (fun (w' : World) (h' : Below w.heap.size w w') => blkS_any n ring p cap S w' lo hi (hin.below h' hin.top) h2 (by omega))
  have HX := Lib.hid (OwnArr.made w 28 [.int .i64 n, .bool ring, .slice p (ints (tk n S)).length cap])
  have HB := Lib.hid hb
  obtain ⟨m, hm⟩ : ∃ m, (ints (tk n S)).length = m := ⟨_, rfl⟩
  rw [hm] at I L HX HB ⊢
  clear hb hin hlen h3 hm
  go_enter Try.func23, Try.ntmps23
  go_wp2_with fail
  refine I.out.mono ?_
  rintro e w1 ⟨rfl, hb1⟩
  have HX1 := Lib.hid (HX.out.below hb1 HX.out.lt)
  have HB1 := Lib.hid (HB.out.trans (hb1.mono HB.out.size))
  clear I HB hb1 HX
  obtain ⟨c0, c1, c2, -⟩ := HX1.out.three
  go_wp2_with fail
  refine (L.out _ HB1.out).mono ?_
  rintro e w2 ⟨v, rfl, hO, hb2⟩
  have HO := Lib.hid (hO.mono HB1.out.size)
  have HB2 := Lib.hid (HB1.out.trans (hb2.mono HB1.out.size))
  clear hO hb2 L HX1 HB1 c0 c1 c2
  go_wp2_with fail
  go_ret2
  exact ⟨v, rfl, HO.out, HB2.out⟩
end Go.Proofs.Ytbgmfjhcgfnfoaa
