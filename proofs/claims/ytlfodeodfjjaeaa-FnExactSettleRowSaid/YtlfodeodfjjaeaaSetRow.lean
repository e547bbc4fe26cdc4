/- spec.SettleRow and impl.SettleRow, for every Row. -/
import Derived.Test.YtlfodeodfjjaeaaSetL
namespace Go.Proofs.Ytlfodeodfjjaeaa
open Go.RowKit

/-- what a function gives that makes a Row and tells a number: the Row, the number and a flag -/
def MadeRow3 (w : World) (s : Int) (ring : Bool) (L : List Int) (R : Int) (B : Bool) (e : Ending) (w' : World) : Prop :=
  ∃ v, e = .returned (.tuple #[.agg #[.int .i64 s, .bool ring, v], .int .i64 R, .bool B]) ∧ Out w.heap.size w' v L ∧ Below w.heap.size w w'
theorem results_cell_tmp2 {fn : Func} {p u t : Tmp} {ty : TypeId} (h : fn.results = #[.cell p ty, .tmp u, .tmp t]) (tmps : Array Value) (P : Program) (w : World) :
    (results fn tmps).run P w = ((asAddr (tmps.getD p undef)).run P w).andThen fun a w₁ => ((loadVar ty a).run P w₁).andThen fun v w₂ => .ok (.tuple #[v, tmps.getD u undef, tmps.getD t undef]) w₂ := by
  simp only [results, h]
  simp [Sem.run_bind, Result.andThen]
theorem ret_row4 {fn : Func} {Q : Ending → World → Prop} {a : Act} {w : World} {p u t : Tmp} {b : Nat} {x y z v v' : Value} (h : fn.results = #[.cell p 26, .tmp u, .tmp t]) (hp : a.tmps.getD p undef = .pointer (some ⟨b, 0, none⟩)) (hu : a.tmps.getD u undef = v) (ht : a.tmps.getD t undef = v')
    (ho : OwnArr w b 26 [x, y, z]) (hd : a.defers = []) (hR : Q (.returned (.tuple #[.agg #[x, y, z], v, v'])) w) : bodyPost Try.prog fn Q .ret a w := by
  refine bodyPost_ret (v := .tuple #[.agg #[x, y, z], v, v']) ?_ hd hR
  rw [results_cell_tmp2 h, hp, hu, ht]
  simp only [asAddr, Sem.run_pure, Result.andThen]
  rw [load_row ho]

set_option maxHeartbeats 800000 in
theorem setRowS_bad (s : Int) (ring : Bool) (p : Option Addr) (cap : Nat) (xs : List Int) (w : World) (lo hi : Nat) (hin : Ri lo hi w p xs) (hlen : xs.length ≤ 1048576) (h : rowB s ring xs = false) :
    Calls Try.prog 10 #[rowV s ring p xs.length cap] w (MadeRow3 w 0 false [] 0 false) := by
  have hE := Beg.start w s ring p xs.length cap
  have AK := l2Row_any s ring p cap xs _ lo hi (hin.below hE.bel hin.top) hlen
  rw [h] at AK
  have HE := Lib.hid hE
  replace AK := Lib.hid AK
  clear hE hin h
  unfold MadeRow3
  go_enter Try.func10, Try.ntmps10
  go_wp2_with fail
  refine AK.out.mono ?_
  rintro e w1 ⟨rfl, hb1⟩
  have HE1 := Lib.hid (HE.out.next hb1)
  obtain ⟨z0, z1, z2, y0, y1, y2⟩ := HE1.out.res.three
  clear HE hb1 AK
  go_wp2_with fail
  exact ret_row4 Try.results10 rfl rfl rfl (HE1.out.out _ _ _).1 rfl ⟨_, rfl, Out.none _ _, (HE1.out.out _ _ _).2⟩

set_option maxHeartbeats 800000 in
theorem setRowI_bad (s : Int) (ring : Bool) (p : Option Addr) (cap : Nat) (xs : List Int) (w : World) (lo hi : Nat) (hin : Ri lo hi w p xs) (hlen : xs.length ≤ 1048576) (h : rowB s ring xs = false) :
    Calls Try.prog 12 #[rowV s ring p xs.length cap] w (MadeRow3 w 0 false [] 0 false) := by
  have hE := Beg.start w s ring p xs.length cap
  have AK := isRow_any s ring p cap xs _ lo hi (hin.below hE.bel hin.top) hlen
  rw [h] at AK
  have HE := Lib.hid hE
  replace AK := Lib.hid AK
  clear hE hin h
  unfold MadeRow3
  go_enter Try.func12, Try.ntmps12
  go_wp2_with fail
  refine AK.out.mono ?_
  rintro e w1 ⟨rfl, hb1⟩
  have HE1 := Lib.hid (HE.out.next hb1)
  obtain ⟨z0, z1, z2, y0, y1, y2⟩ := HE1.out.res.three
  clear HE hb1 AK
  go_wp2_with fail
  exact ret_row4 Try.results12 rfl rfl rfl (HE1.out.out _ _ _).1 rfl ⟨_, rfl, Out.none _ _, (HE1.out.out _ _ _).2⟩

set_option maxHeartbeats 1000000 in
theorem setRowI_any (n : Nat) (ring : Bool) (p : Option Addr) (cap : Nat) (S : Nat → Bool) (w : World) (lo hi : Nat) (hin : Ri lo hi w p (ints (tk n S))) (h2 : 2 ≤ n) (hn : n ≤ 24) (h3 : ring = true → 3 ≤ n) :
    Calls Try.prog 12 #[rowV n ring p (ints (tk n S)).length cap] w (MadeRow3 w n ring (ints (tk n (aftM n ring 2 24 S))) ((ordM n ring 2 24 S).length : Nat) true) := by
  have hlen := ints_tk_len n S
  have hE := Beg.start w n ring p (ints (tk n S)).length cap
  have I := isRow_any n ring p cap (ints (tk n S)) _ lo hi (hin.below hE.bel hin.top) (by omega)
  rw [rowB_of h2 hn h3] at I
  have WE := Lib.hid (fun (w' : World) (h' : Below w.heap.size w w') => welcome_any n ring p cap S 24 2 w' lo hi (hin.below h' hin.top) h2 hn h3 (by omega) (by omega))
  obtain ⟨L, hL⟩ : ∃ L, ints (tk n (aftM n ring 2 24 S)) = L := ⟨_, rfl⟩
  obtain ⟨O, hO'⟩ : ∃ O, ordM n ring 2 24 S = O := ⟨_, rfl⟩
  rw [hL, hO'] at WE ⊢
  have HOL := Lib.hid (ints_length O)
  obtain ⟨m, hm⟩ : ∃ m, (ints (tk n S)).length = m := ⟨_, rfl⟩
  rw [hm] at I WE hE hlen ⊢
  have HE := Lib.hid hE
  replace I := Lib.hid I
  clear hE hin hlen hL hO' hm h3
  unfold MadeRow3
  go_enter Try.func12, Try.ntmps12
  go_wp2_with fail
  refine I.out.mono ?_
  rintro e w1 ⟨rfl, hb1⟩
  have HE1 := Lib.hid (HE.out.next hb1)
  obtain ⟨c0, c1, c2, -⟩ := HE1.out.row.three
  clear HE hb1 I
  go_wp2_with fail
  refine (WE.out _ HE1.out.bel).mono ?_
  rintro e w2 ⟨v, u, rfl, hV, hO, hb2⟩
  obtain ⟨qv, cv, rfl, -⟩ := hV.rd
  obtain ⟨q, qc, rfl, -⟩ := hO.rd
  rw [HOL.out]
  have HE2 := HE1.out.next hb2
  obtain ⟨l, hl⟩ : ∃ l, L.length = l := ⟨_, rfl⟩
  rw [hl] at hO ⊢
  have HE3 := Lib.hid (HE2.next ((Below.refl _ w2).alloc (Nat.le_refl _) (.cells #[.int .i64 n, .bool ring, .slice q l qc] 26)))
  have HO : Hid (Out w.heap.size (w2.alloc (.cells #[.int .i64 n, .bool ring, .slice q l qc] 26)) (.slice q l qc) L) := World.ownsRow.alloc (hO.mono HE1.out.bel.size) _
  clear hO hV hb2 HE1 c0 c1 c2 WE HE2 hl
  obtain ⟨z0, z1, z2, y0, y1, y2⟩ := HE3.out.res.three
  go_wp2_with fail
  exact ret_row4 Try.results12 rfl rfl rfl (HE3.out.out _ _ _).1 rfl ⟨_, rfl, HO.out.boxed HE3.out.res _ _ _, (HE3.out.out _ _ _).2⟩

set_option maxRecDepth 4000 in
set_option maxHeartbeats 2000000 in
theorem setRowS_any (n : Nat) (ring : Bool) (p : Option Addr) (cap : Nat) (S : Nat → Bool) (w : World) (lo hi : Nat) (hin : Ri lo hi w p (ints (tk n S))) (h2 : 2 ≤ n) (hn : n ≤ 24) (h3 : ring = true → 3 ≤ n) :
    Calls Try.prog 10 #[rowV n ring p (ints (tk n S)).length cap] w (MadeRow3 w n ring (ints (tk n (aftM n ring 2 24 S))) ((ordM n ring 2 24 S).length : Nat) true) := by
  have hlen := ints_tk_len n S
  have hE := Beg.start w n ring p (ints (tk n S)).length cap
  have I := l2Row_any n ring p cap (ints (tk n S)) _ lo hi (hin.below hE.bel hin.top) (by omega)
  rw [rowB_of h2 hn h3] at I
  have MK := Lib.hid (fun (w' : World) (h' : Below w.heap.size w w') => l1Own_any p cap (ints (tk n S)) w' lo hi (hin.below h' hin.top) (by omega))
  obtain ⟨m0, hm⟩ : ∃ m, (ints (tk n S)).length = m := ⟨_, rfl⟩
  have ST : Hid (∀ (g kk : Nat) (W : World), Out (w.heap.size + 2) W (.slice (some ⟨g, 0, none⟩) m0 kk) (ints (tk n S)) → w.heap.size + 2 ≤ W.heap.size → Calls Try.prog 31 #[rowV n ring (some ⟨g, 0, none⟩) m0 kk] W fun e w' => ∃ u, e = .returned (.tuple #[.agg #[.int .i64 n, .bool ring, u], .int .i64 ((ordM n ring 2 24 S).length : Nat)]) ∧ Out (w.heap.size + 2) w' u (ints (tk n (aftM n ring 2 24 S))) ∧ Below W.heap.size W w') := by
    show ∀ _, _
    intro g kk W hO hW
    have := settleL_any n ring (some ⟨g, 0, none⟩) kk S W (w.heap.size + 2) (by rw [hm]; exact hO) hW h2 hn
    rw [hm] at this
    exact this
  rw [hm] at hE MK I ⊢
  have HE := Lib.hid hE
  replace I := Lib.hid I
  clear hin hlen hm h3
  unfold MadeRow3
  go_enter Try.func10, Try.ntmps10
  go_wp2_with fail
  refine I.out.mono ?_
  rintro e wb ⟨rfl, hb1⟩
  have HE1 := Lib.hid (HE.out.next hb1)
  have HSB : Hid (w.heap.size + 2 ≤ wb.heap.size) := by show _ ≤ _; have := HE1.out.res.lt; omega
  have HEd := Lib.hid (HE1.out.next ((Below.refl _ wb).drew))
  have HD0 := Lib.hid ((Below.refl (w.heap.size + 2) wb).drew)
  clear HE hb1 I hE
  obtain ⟨c0, c1, c2, -⟩ := HE1.out.row.three
  go_upto_region 3 with fail
  go_cut [5, 6] (fun v mv wx => ∃ g q c, v = .pointer (some ⟨g, 0, none⟩) ∧ mv = .int .i64 ((ordM n ring 2 24 S).length : Nat) ∧ Hid (w.heap.size + 2 ≤ g) ∧ Hid (OwnArr wx g 26 [.int .i64 n, .bool ring, .slice q (ints (tk n (aftM n ring 2 24 S))).length c]) ∧ Hid (Out (w.heap.size + 2) wx (.slice q (ints (tk n (aftM n ring 2 24 S))).length c) (ints (tk n (aftM n ring 2 24 S)))) ∧ Hid (Below (w.heap.size + 2) wb wx))
  case first =>
    go_region_held3 (fun w' => w'.cell? ⟨w.heap.size, 0, none⟩ = some (.int .i64 n) ∧ w'.cell? ⟨w.heap.size, 1, none⟩ = some (.bool ring) ∧ w'.cell? ⟨w.heap.size, 2, none⟩ = some (.slice p m0 cap)) ((first | with_reducible exact ⟨c0, c1, c2⟩ | with_reducible exact ⟨d0, d1, d2⟩ | with_reducible exact ⟨e0, e1, e2⟩ | (obtain ⟨s0, s1, s2⟩ := (by assumption : _ ∧ _ ∧ _); with_reducible exact ⟨cell_alloc s0, cell_alloc s1, cell_alloc s2⟩) | (obtain ⟨s0, s1, s2⟩ := (by assumption : _ ∧ _ ∧ _); have hne := HNE1.out; with_reducible exact ⟨cell_set (cell_set (cell_set s0 hne) hne) hne, cell_set (cell_set (cell_set s1 hne) hne) hne, cell_set (cell_set (cell_set s2 hne) hne) hne⟩) | (obtain ⟨s0, s1, s2⟩ := (by assumption : _ ∧ _ ∧ _); have hne := HNE2.out; with_reducible exact ⟨cell_set (cell_set (cell_set s0 hne) hne) hne, cell_set (cell_set (cell_set s1 hne) hne) hne, cell_set (cell_set (cell_set s2 hne) hne) hne⟩) | (obtain ⟨s0, s1, s2⟩ := (by assumption : _ ∧ _ ∧ _); have hne := HNE3.out; with_reducible exact ⟨cell_set (cell_set (cell_set s0 hne) hne) hne, cell_set (cell_set (cell_set s1 hne) hne) hne, cell_set (cell_set (cell_set s2 hne) hne) hne⟩) | (obtain ⟨s0, s1, s2⟩ := (by assumption : _ ∧ _ ∧ _); have hne := HNE4.out; with_reducible exact ⟨cell_set (cell_set (cell_set s0 hne) hne) hne, cell_set (cell_set (cell_set s1 hne) hne) hne, cell_set (cell_set (cell_set s2 hne) hne) hne⟩) | go_keep)) (first | (go_at_call 33; refine (MK.out _ (by first | exact HEd.out.bel | exact HEd.out.bel.alloc HEd.out.bel.size _)).mono ?_; rintro e wm ⟨g, kk, rfl, hg, hk1, hk2, hO, hbm⟩; have HEm : Hid (Beg w n ring p m0 cap wm) := (by show Beg _ _ _ _ _ _ _; first | exact HEd.out.next hbm | exact (HEd.out.next ((Below.refl _ _).alloc (Nat.le_refl _) _)).next hbm); have HBm : Hid (Below (w.heap.size + 2) wb wm) := (by show Below _ _ _; have hs := HSB.out; have hs2 : wb.drew.heap.size = wb.heap.size := rfl; first | exact HD0.out.trans (hbm.mono (by omega)) | exact (HD0.out.alloc (by omega) _).trans (hbm.mono (by simp; omega))); have HOm : Hid (Out (w.heap.size + 2) wm (.slice (some ⟨g, 0, none⟩) m0 kk) (ints (tk n S))) := (by show Out _ _ _ _; have hs := HSB.out; have hs2 : wb.drew.heap.size = wb.heap.size := rfl; first | exact hO.mono (by omega) | exact hO.mono (by simp; omega)); obtain ⟨d0, d1, d2, -⟩ := HEm.out.row.three; have HNE1 : Hid (w.heap.size ≠ wb.heap.size) := (by show _ ≠ _; have := HSB.out; omega); have HNE2 : Hid (w.heap.size ≠ wm.heap.size) := (by show _ ≠ _; have := HSB.out; have := HBm.out.size; omega); clear hg hO hk1 hk2) | (go_at_call 32; refine (l2Made_any _ _ _ _ _ _ _ _ _).mono ?_; rintro e wr ⟨rfl, hbr⟩; have HEr : Hid (Beg w n ring p m0 cap wr) := (by show Beg _ _ _ _ _ _ _; first | exact HEm.out.next hbr | exact (HEm.out.next ((Below.refl _ _).alloc (Nat.le_refl _) _)).next hbr); have HBr : Hid (Below (w.heap.size + 2) wb wr) := (by show Below _ _ _; have hs := HSB.out; have hs3 := HBm.out.size; first | exact HBm.out.trans (hbr.mono (by omega)) | exact (HBm.out.alloc (by omega) _).trans (hbr.mono (by simp; omega))); have HO3 : Hid (Out (w.heap.size + 2) wr (.slice (some ⟨g, 0, none⟩) m0 kk) (ints (tk n S))) := (by show Out _ _ _ _; first | exact HOm.out.below hbr | exact Out.below (show Out _ _ _ _ from World.ownsRow.alloc HOm.out _) hbr); obtain ⟨e0, e1, e2, -⟩ := HEr.out.row.three; have HNE3 : Hid (w.heap.size ≠ wr.heap.size) := (by show _ ≠ _; have := HSB.out; have := HBr.out.size; omega)) | (go_at_call 31; refine (ST.out _ _ _ (by first | exact HO3.out | exact World.ownsRow.alloc HO3.out _) (by have hs := HSB.out; have hs3 := HBr.out.size; first | omega | (simp; omega))).mono ?_; rintro e wt ⟨u, rfl, hU, hbt⟩; obtain ⟨qu, cu, rfl, -⟩ := hU.rd; have HEt : Hid (Beg w n ring p m0 cap wt) := (by show Beg _ _ _ _ _ _ _; first | exact HEr.out.next hbt | exact (HEr.out.next ((Below.refl _ _).alloc (Nat.le_refl _) _)).next hbt); have HBt : Hid (Below (w.heap.size + 2) wb wt) := (by show Below _ _ _; have hs := HSB.out; have hs3 := HBr.out.size; first | exact HBr.out.trans (hbt.mono (by omega)) | exact (HBr.out.alloc (by omega) _).trans (hbt.mono (by simp; omega))); have HUt := Lib.hid hU; obtain ⟨e0, e1, e2, -⟩ := HEt.out.row.three; have HNE4 : Hid (w.heap.size ≠ wt.heap.size) := (by show _ ≠ _; have := HSB.out; have := HBt.out.size; omega); (try (have hz : Below (wr.alloc (.cells #[.int .i64 0, .bool false, .slice none 0 0] 26)).heap.size (wr.alloc (.cells #[.int .i64 0, .bool false, .slice none 0 0] 26)) wt := (by with_reducible exact hbt); have HZ := Lib.hid (z_two hz))); (try (have hz : Below (wm.alloc (.cells #[.int .i64 0, .bool false, .slice none 0 0] 26)).heap.size (wm.alloc (.cells #[.int .i64 0, .bool false, .slice none 0 0] 26)) wr := (by with_reducible exact hbr); have hz2 : Below wr.heap.size wr wt := (by with_reducible exact hbt); have HZ := Lib.hid ((z_two hz).below hz2 (z_two hz).lt))); (try (have hz : Below (wb.alloc (.cells #[.int .i64 0, .bool false, .slice none 0 0] 26)).drew.heap.size (wb.alloc (.cells #[.int .i64 0, .bool false, .slice none 0 0] 26)).drew wm := (by with_reducible exact hbm); have hz2 : Below wm.heap.size wm wr := (by with_reducible exact hbr); have hz3 : Below wr.heap.size wr wt := (by with_reducible exact hbt); have HZ : Hid (OwnArr wt wb.heap.size 26 [.int .i64 0, .bool false, .slice none 0 0]) := Lib.hid ((z_one hz hz2).below hz3 (z_one hz hz2).lt))); (try obtain ⟨z0, z1, z2, y0, y1, y2⟩ := HZ.out.three)))
    · go_wp2_with fail
      go_meet
      have hg : w.heap.size + 2 ≤ wt.heap.size := by have := HSB.out; have := HBt.out.size; omega
      exact ⟨_, qu, cu, rfl, rfl, Lib.hid hg, Lib.hid (OwnArr.made wt 26 [.int .i64 n, .bool ring, .slice qu _ cu]), Lib.hid (World.ownsRow.alloc HUt.out _), Lib.hid (HBt.out.alloc hg _)⟩
    · go_wp2_with fail
      go_meet
      have hg : w.heap.size + 2 ≤ wr.heap.size := by have := HSB.out; have := HBm.out.size; have := HBr.out.size; omega
      obtain ⟨f1, f2, f3⟩ := fin_box (.int .i64 n) (.bool ring) (.slice qu (ints (tk n (aftM n ring 2 24 S))).length cu) HZ.out rfl hg HUt.out HBt.out
      exact ⟨_, qu, cu, rfl, rfl, Lib.hid hg, Lib.hid f1, Lib.hid f2, Lib.hid f3⟩
    · go_wp2_with fail
      go_meet
      have hg : w.heap.size + 2 ≤ wm.heap.size := by have := HSB.out; have := HBm.out.size; have := HBr.out.size; omega
      obtain ⟨f1, f2, f3⟩ := fin_box (.int .i64 n) (.bool ring) (.slice qu (ints (tk n (aftM n ring 2 24 S))).length cu) HZ.out rfl hg HUt.out HBt.out
      exact ⟨_, qu, cu, rfl, rfl, Lib.hid hg, Lib.hid f1, Lib.hid f2, Lib.hid f3⟩
    · go_wp2_with fail
      go_meet
      have hg : w.heap.size + 2 ≤ wb.heap.size := by have := HSB.out; have := HBm.out.size; have := HBr.out.size; omega
      obtain ⟨f1, f2, f3⟩ := fin_box (.int .i64 n) (.bool ring) (.slice qu (ints (tk n (aftM n ring 2 24 S))).length cu) HZ.out rfl hg HUt.out HBt.out
      exact ⟨_, qu, cu, rfl, rfl, Lib.hid hg, Lib.hid f1, Lib.hid f2, Lib.hid f3⟩
  case rest =>
    obtain ⟨g, q, c, rfl, rfl, HG, HX, HU, HB⟩ := hcut
    have HE2 := Lib.hid (HE1.out.next2 HB.out)
    obtain ⟨l, hl⟩ : ∃ l, (ints (tk n (aftM n ring 2 24 S))).length = l := ⟨_, rfl⟩
    rw [hl] at HX HU
    clear HEd HD0 MK ST HB HE1 HG c0 c1 c2 hl
    obtain ⟨c0, c1, c2, -⟩ := HX.out.three
    obtain ⟨z0, z1, z2, y0, y1, y2⟩ := HE2.out.res.three
    go_wp2_with fail
    exact ret_row4 Try.results10 rfl rfl rfl (HE2.out.out _ _ _).1 rfl ⟨_, rfl, (HU.out.boxed HE2.out.res _ _ _).mono (by omega), (HE2.out.out _ _ _).2⟩

theorem settleRow_both (s : Int) (ring : Bool) (xs : List Int) : ∃ (s' : Int) (ring' : Bool) (L : List Int) (R : Int) (B : Bool), L.length ≤ 24 ∧
    (∀ (p : Option Addr) (cap : Nat) (w : World) (lo hi : Nat), Ri lo hi w p xs → xs.length ≤ 1048576 → Calls Try.prog 10 #[rowV s ring p xs.length cap] w (MadeRow3 w s' ring' L R B)) ∧
    (∀ (p : Option Addr) (cap : Nat) (w : World) (lo hi : Nat), Ri lo hi w p xs → xs.length ≤ 1048576 → Calls Try.prog 12 #[rowV s ring p xs.length cap] w (MadeRow3 w s' ring' L R B)) := by
  cases h : rowB s ring xs with
  | true =>
    obtain ⟨n, S, rfl, rfl, h2, hn, h3⟩ := rowB_is h
    exact ⟨n, ring, ints (tk n (aftM n ring 2 24 S)), ((ordM n ring 2 24 S).length : Nat), true, by have := ints_tk_len n (aftM n ring 2 24 S); omega, fun p cap w lo hi hin _ => setRowS_any n ring p cap S w lo hi hin h2 hn h3, fun p cap w lo hi hin _ => setRowI_any n ring p cap S w lo hi hin h2 hn h3⟩
  | false =>
    exact ⟨0, false, [], 0, false, by simp, fun p cap w lo hi hin hl => setRowS_bad s ring p cap xs w lo hi hin hl h, fun p cap w lo hi hin hl => setRowI_bad s ring p cap xs w lo hi hin hl h⟩
end Go.Proofs.Ytlfodeodfjjaeaa
