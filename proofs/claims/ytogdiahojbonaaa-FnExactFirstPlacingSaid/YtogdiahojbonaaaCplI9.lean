/- Chapter 9, impl side: impl.countPlacings. -/
import Derived.Test.YtogdiahojbonaaaPlsM9
import Derived.Test.YtogdiahojbonaaaRoomI9
import Derived.Deep.MidRow
import Derived.Great.Walk
import Derived.Deep.DeepCutAuto
namespace Go.Proofs.Ytogdiahojbonaaa
open Go.RowKit

/-- some cells in the middle of an array are written -/
theorem OwnArr.setMid {b : Nat} {e : TypeId} : ∀ (vs pre ys post : List Value) (w : World), OwnArr w b e (pre ++ (ys ++ post)) → ys.length = vs.length → OwnArr (w.setCells b pre.length vs) b e (pre ++ (vs ++ post))
  | [], pre, ys, post, w, h, hl => by
    have : ys = [] := List.length_eq_zero_iff.1 hl
    subst this
    exact h
  | v :: vs, pre, ys, post, w, h, hl => by
    match ys, hl with
    | y :: ys, hl =>
      have h2 := h.set pre.length v
      rw [List.set_append_right _ _ (Nat.le_refl _), Nat.sub_self, List.cons_append, List.set_cons_zero] at h2
      have := OwnArr.setMid vs (pre ++ [v]) ys post _ (by rw [List.append_assoc]; exact h2) (by simpa using hl)
      rw [List.append_assoc, List.length_append] at this
      exact this
theorem OwnArr.midAt {b : Nat} {e : TypeId} {w : World} {L vs : List Value} {o : Nat} (h : OwnArr w b e L) (ho : o + vs.length ≤ L.length) : ∃ L', OwnArr (w.setCells b o vs) b e L' ∧ L'.length = L.length ∧ (∀ i, i < vs.length → L'[o + i]? = vs[i]?) ∧ (∀ i, (i < o ∨ o + vs.length ≤ i) → L'[i]? = L[i]?) := by
  have e1 : L = L.take o ++ ((L.drop o).take vs.length ++ L.drop (o + vs.length)) := by
    rw [← List.drop_drop, List.take_append_drop, List.take_append_drop]
  have hl1 : (L.take o).length = o := by rw [List.length_take]; omega
  have hl2 : ((L.drop o).take vs.length).length = vs.length := by rw [List.length_take, List.length_drop]; omega
  rw [e1] at h
  have h2 := OwnArr.setMid vs (L.take o) ((L.drop o).take vs.length) (L.drop (o + vs.length)) w h hl2
  rw [hl1] at h2
  refine ⟨_, h2, ?_, ?_, ?_⟩
  · rw [List.length_append, List.length_append, hl1, List.length_drop]; omega
  · intro i hi
    rw [List.getElem?_append_right (by omega), hl1, List.getElem?_append_left (by omega)]
    congr 1
    omega
  · intro i hi
    rcases hi with hi | hi
    · rw [List.getElem?_append_left (by omega), List.getElem?_take, if_pos hi]
    · rw [List.getElem?_append_right (by omega), List.getElem?_append_right (by omega), hl1, List.getElem?_drop]
      congr 1
      omega
theorem OwnArr.range {b : Nat} {e : TypeId} {w : World} {L : List Value} (h : OwnArr w b e L) (o n : Nat) : w.rangeAt b o ((L.drop o).take n) := by
  intro j v hj
  rw [h.cell]
  rw [List.getElem?_take] at hj
  by_cases e : j < n
  · rw [if_pos e, List.getElem?_drop] at hj; exact hj
  · rw [if_neg e] at hj; cases hj
theorem OwnArr.thereAt {b : Nat} {e : TypeId} {w : World} {L : List Value} (h : OwnArr w b e L) {o n : Nat} (ho : o + n ≤ L.length) : w.there b o n := fun j hj => by
  exact ⟨by rw [h.cell, List.getElem?_eq_getElem (by omega)]; rfl, h.free _⟩
theorem below_setCells9 {B b : Nat} {w : World} : ∀ (vs : List Value) (o : Nat) (wz : World), Below B w wz → B ≤ b → Below B w (wz.setCells b o vs)
  | [], _, _, h, _ => h
  | v :: vs, o, _, h, hb => below_setCells9 vs (o + 1) _ (h.setCell (p := ⟨b, o, none⟩) hb v) hb

theorem zeroRep : Try.zeroCells69 = Array.replicate 800 (.int .i64 0) := by kernel_rfl
theorem rep_list (n : Nat) (v : Value) : ∃ Z : List Value, Array.replicate n v = Z.toArray ∧ Z.length = n ∧ (∀ i, i < n → Z[i]? = some v) ∧ ∀ u ∈ Z, u = v :=
  ⟨List.replicate n v, by rw [List.toArray_replicate], List.length_replicate .., fun i hi => by rw [List.getElem?_replicate, if_pos hi], fun u hu => List.eq_of_mem_replicate hu⟩
theorem zeroWy : ∃ Z : List Value, Try.zeroCells69 = Z.toArray ∧ Z.length = 800 ∧ (∀ i, i < 800 → Z[i]? = some (.int .i64 0)) ∧ ∀ u ∈ Z, u = .int .i64 0 := by
  rw [zeroRep]
  exact rep_list 800 _
theorem infoWy : (Try.prog.info? 68).map (·.size) = some 32 := by kernel_rfl

theorem bits_all : ∀ t : Fin 32, ∀ i : Fin 5, bits BinOp.and IntKind.i64 ((t.val : Nat) : Int) ((2 ^ i.val : Nat) : Int) = if bitN t.val i.val = true then ((2 ^ i.val : Nat) : Int) else 0 := by decide +kernel
theorem bits_and {t i : Nat} (ht : t < 32) (hi : i < 5) : bits BinOp.and IntKind.i64 (t : Int) ((2 ^ i : Nat) : Int) = if bitN t i = true then ((2 ^ i : Nat) : Int) else 0 := bits_all ⟨t, ht⟩ ⟨i, hi⟩

/-- what the table holds: behind p the numbers, at p those of V -/
structure TabR (n k : Nat) (d : Int) (φ : Fit) (gs : List Int) (L : List Value) (p : Nat) (V : Nat → Nat) : Prop where
  len : L.length = 800
  num : ∀ u ∈ L, u.oneCell' = true
  past : ∀ q s, p < q → q ≤ n → s < 2 ^ k → L[q * 32 + s]? = some (.int .i64 ((wyT n d φ gs q s : Nat) : Int))
  here : ∀ s, s < 2 ^ k → L[p * 32 + s]? = some (.int .i64 ((V s : Nat) : Int))
theorem TabR.congr {n k : Nat} {d : Int} {φ : Fit} {gs : List Int} {L : List Value} {p : Nat} {V V' : Nat → Nat} (h : TabR n k d φ gs L p V) (e : ∀ s, s < 2 ^ k → V s = V' s) : TabR n k d φ gs L p V' :=
  ⟨h.len, h.num, h.past, fun s hs => by rw [← e s hs]; exact h.here s hs⟩
theorem pow32 {k : Nat} (hk : k ≤ 5) : 2 ^ k ≤ 32 := Nat.le_trans (Nat.pow_le_pow_right (by omega) hk) (by decide)
theorem TabR.start {n k : Nat} {d : Int} {φ : Fit} {gs : List Int} {Z : List Value} (hn : n ≤ 24) (hk : k ≤ 5) (hl : gs.length = k) (h1 : Z.length = 800) (h2 : ∀ i, i < 800 → Z[i]? = some (.int .i64 0)) (h3 : ∀ u ∈ Z, u = .int .i64 0) : TabR n k d φ gs (Z.set (n * 32) (.int .i64 1)) n (wyT n d φ gs n) := by
  have h32 := pow32 hk
  refine ⟨by rw [List.length_set, h1], fun u hu => ?_, fun q s h1 h2 => by omega, fun s hs => ?_⟩
  · rcases List.mem_or_eq_of_mem_set hu with h | h
    · rw [h3 u h]; rfl
    · rw [h]; rfl
  · rw [wyT_end (by rw [hl]; exact hs), List.getElem?_set]
    by_cases e : s = 0
    · subst e
      rw [if_pos (by omega), if_pos (by omega), if_pos rfl]; rfl
    · rw [if_neg (by omega), if_neg e, h2 _ (by omega)]; rfl
/-- the row behind is copied -/
theorem TabR.copy {n k : Nat} {d : Int} {φ : Fit} {gs : List Int} {L L' vs : List Value} {p : Nat} (hn : n ≤ 24) (hk : k ≤ 5) (hp : p < n) (h : TabR n k d φ gs L (p + 1) (wyT n d φ gs (p + 1))) (hvs : vs = (L.drop ((p + 1) * 32)).take 32) (h1 : L'.length = L.length) (h2 : ∀ i, i < vs.length → L'[p * 32 + i]? = vs[i]?) (h3 : ∀ i, (i < p * 32 ∨ p * 32 + vs.length ≤ i) → L'[i]? = L[i]?) : TabR n k d φ gs L' p (wyP n d φ gs p 0) := by
  have h32 := pow32 hk
  have hl := h.len
  have hvl : vs.length = 32 := by rw [hvs, List.length_take, List.length_drop]; omega
  have hv : ∀ s, s < 32 → vs[s]? = L[(p + 1) * 32 + s]? := fun s hs => by
    rw [hvs, List.getElem?_take, if_pos hs, List.getElem?_drop]
  refine ⟨by rw [h1, hl], fun u hu => ?_, fun q s a1 a2 a3 => ?_, fun s hs => ?_⟩
  · obtain ⟨i, hi, rfl⟩ := List.getElem_of_mem hu
    by_cases e : p * 32 ≤ i ∧ i < p * 32 + 32
    · have := h2 (i - p * 32) (by omega)
      rw [show p * 32 + (i - p * 32) = i by omega, List.getElem?_eq_getElem hi, hv _ (by omega)] at this
      exact h.num _ (List.mem_of_getElem? this.symm)
    · have := h3 i (by omega)
      rw [List.getElem?_eq_getElem hi] at this
      exact h.num _ (List.mem_of_getElem? this.symm)
  · rw [h3 _ (by omega)]
    by_cases e : q = p + 1
    · subst e; exact h.here s a3
    · exact h.past q s (by omega) a2 a3
  · rw [h2 s (by omega), hv s (by omega), wyP_zero]
    exact h.here s hs
/-- one number is written -/
theorem TabR.set {n k : Nat} {d : Int} {φ : Fit} {gs : List Int} {L : List Value} {p : Nat} {V V' : Nat → Nat} {t y : Nat} (hn : n ≤ 24) (hk : k ≤ 5) (hp : p < n) (ht : t < 2 ^ k) (h : TabR n k d φ gs L p V) (hy : V' t = y) (hV : ∀ s, s < 2 ^ k → s ≠ t → V' s = V s) : TabR n k d φ gs (L.set (p * 32 + t) (.int .i64 (y : Int))) p V' := by
  have h32 := pow32 hk
  have hl := h.len
  refine ⟨by rw [List.length_set, hl], fun u hu => ?_, fun q s a1 a2 a3 => ?_, fun s hs => ?_⟩
  · rcases List.mem_or_eq_of_mem_set hu with h' | h'
    · exact h.num u h'
    · rw [h']; rfl
  · rw [List.getElem?_set, if_neg (by omega)]
    exact h.past q s a1 a2 a3
  · rw [List.getElem?_set]
    by_cases e : s = t
    · subst e
      rw [if_pos rfl, if_pos (by omega), hy]
    · rw [if_neg (by omega), hV s hs e]
      exact h.here s hs

set_option maxRecDepth 4000 in
set_option maxHeartbeats 4000000 in
theorem countPlacings_any (n : Nat) (p : Option Addr) (cap : Nat) (S : Nat → Bool) (qg : Option Addr) (cg : Nat) (gs : List Int) (d : Int) (w : World) (lo hi lo2 hi2 : Nat) (hin : Ri lo hi w p (ints (tk n S))) (hing : Ri lo2 hi2 w qg gs) (hn1 : 1 ≤ n) (hn : n ≤ 24) (hgl : gs.length ≤ 5) (hd : 0 ≤ d) (hd2 : d ≤ 9223372036854775807) (hg1 : ∀ g ∈ gs, 1 ≤ g) :
    Calls Try.prog 45 #[rowV n false p (ints (tk n S)).length cap, .slice qg gs.length cg, .int .i64 d] w fun e w' => e = .returned (.int .i64 ((cntW n d gs (phiL n S d) : Nat) : Int)) ∧ Below w.heap.size w w' := by
  have hX := OwnArr.made w 28 [Value.int .i64 n, Value.bool false, Value.slice p (ints (tk n S)).length cap]
  have hB := box_below w n false p (ints (tk n S)).length cap 28
  have ROOM := Lib.hid (fun (z x : Int) (hz : 1 ≤ z) (hx : -9223372036854775808 ≤ x ∧ x ≤ 9223372036854775807) (w' : World) (h' : Below w.heap.size w w') => hasRoom_any n p cap S z d x w' lo hi (hin.below h' hin.top) hn hz hx)
  have HGI := Lib.hid (fun (w' : World) (h' : Below w.heap.size w w') => hing.below h' hing.top)
  obtain ⟨k, hk⟩ : ∃ k, gs.length = k := ⟨_, rfl⟩
  obtain ⟨m, hm⟩ : ∃ m, (ints (tk n S)).length = m := ⟨_, rfl⟩
  rw [hm] at hX hB ROOM ⊢
  rw [hk] at hgl ⊢
  obtain ⟨φ, hφ⟩ : ∃ φ, phiL n S d = φ := ⟨_, rfl⟩
  have HROOM : Hid (∀ (z : Int) (x : Nat), 1 ≤ z → x ≤ 100 → ∀ w', Below w.heap.size w w' → Calls Try.prog 46 #[rowV n false p m cap, .int .i64 z, .int .i64 d, .int .i64 (x : Int)] w' fun e w'' => e = .returned (.bool (φ z x)) ∧ Below w'.heap.size w' w'') := by
    show ∀ _, _
    intro z x hz hx w' h'
    rw [← hφ]
    exact ROOM.out z x hz (by omega) w' h'
  have HFZ : Hid (∀ (z : Int) (x : Nat), φ z x = true → z ≤ (n : Int) - (x : Int)) := by
    show ∀ _, _
    intro z x h
    rw [← hφ] at h
    exact (fitG_true.1 h).2.1
  rw [hφ]
  have hfin : wyT n d φ gs 0 (2 ^ k - 1) = cntW n d gs φ := by
    unfold wyT
    rw [← hk, subG_full]
    exact cnt_all hg1
  rw [← hfin]
  obtain ⟨Z, hZe, hZl, hZ0, hZa⟩ := zeroWy
  obtain ⟨w1, hw1⟩ : ∃ w1, w1 = (w.alloc (.cells #[Value.int .i64 n, Value.bool false, Value.slice p m cap] 28)).alloc (.cells Z.toArray 69) := ⟨_, rfl⟩
  have hX1 : OwnArr w1 w.heap.size 28 [Value.int .i64 n, Value.bool false, Value.slice p m cap] := by rw [hw1]; exact hX.alloc _
  have hA1 : OwnArr w1 (w.heap.size + 1) 69 Z := by
    have := OwnArr.made (w.alloc (.cells #[Value.int .i64 n, Value.bool false, Value.slice p m cap] 28)) 69 Z
    rw [hw1]
    have hs : (w.alloc (.cells #[Value.int .i64 n, Value.bool false, Value.slice p m cap] 28)).heap.size = w.heap.size + 1 := by simp
    rw [hs] at this
    exact this
  have hB1 : Below w.heap.size w w1 := by rw [hw1]; exact hB.alloc (by simp) _
  rw [← hZe] at hw1
  have HW : Hid ((w.alloc (.cells #[Value.int .i64 n, Value.bool false, Value.slice p m cap] 28)).alloc (.cells Try.zeroCells69 69) = w1) := hw1.symm
  have hcA := hA1.cell (n * 32)
  rw [hZ0 _ (by omega)] at hcA
  have hfA := hA1.free (n * 32)
  have hset := hA1.set (n * 32) (.int .i64 1)
  have HT1 : Hid (TabR n k d φ gs (Z.set (n * 32) (.int .i64 1)) n (wyT n d φ gs n)) := TabR.start hn hgl hk hZl hZ0 hZa
  have HA1 := Lib.hid hset
  have HX1 := Lib.hid (hX1.other (a := ⟨w.heap.size + 1, n * 32, none⟩) (by show w.heap.size ≠ w.heap.size + 1; omega) (.int .i64 1))
  have HB1 := Lib.hid (hB1.setCell (p := ⟨w.heap.size + 1, n * 32, none⟩) (by show w.heap.size ≤ w.heap.size + 1; omega) (.int .i64 1))
  obtain ⟨c0, c1, c2, -⟩ := hX1.three
  obtain ⟨L1, hL1⟩ : ∃ L, Z.set (n * 32) (.int .i64 1) = L := ⟨_, rfl⟩
  rw [hL1] at HT1 HA1
  obtain ⟨d0, d1, d2, -⟩ := HX1.out.three
  have hn25 : (n : Int) < 25 := by omega
  have hwn : IntKind.i64.wrap ((n : Int) - 1) = (n : Int) - 1 := IntWalk.i64_in _ (by omega)
  have HK := Lib.hid hk
  have HG1 := Lib.hid hg1
  obtain ⟨e0, e1, e2, -⟩ := hX.three
  clear hX hB hX1 hA1 hB1 hw1 hset hL1 hZe hZl hZ0 hZa hin hing hm hk hφ hfin hg1 ROOM
  go_enter Try.func45, Try.ntmps45
  go_upto_region 2 with fail
  rw [HW.out]
  clear e0 e1 e2 HW
  go_wp2_with fail
  clear c0 c1 c2 d0 d1 d2 hcA hfA
  go_loopw [8, 9, 10, 11, 12, 13] (fun pv _ _ _ _ _ wr => ∃ (P : Nat) (L : List Value), P ≤ n ∧ pv = .int .i64 ((P : Int) - 1) ∧ Hid (TabR n k d φ gs L P (wyT n d φ gs P)) ∧ Hid (OwnArr wr (w.heap.size + 1) 69 L) ∧ Hid (OwnArr wr w.heap.size 28 [Value.int .i64 n, Value.bool false, Value.slice p m cap]) ∧ Hid (Below w.heap.size w wr)) (fun pv _ _ _ _ _ _ => ((intOf pv) + 1).toNat)
  case atStart => exact ⟨n, L1, Nat.le_refl _, rfl, HT1, HA1, HX1, HB1⟩
  case round =>
    obtain ⟨P, L, hP, rfl, HT, HA, HX, HB⟩ := hrel
    clear HT1 HA1 HX1 HB1
    obtain ⟨c0, c1, c2, -⟩ := HX.out.three
    by_cases hlt : 1 ≤ P
    · obtain ⟨p0, hp0⟩ : ∃ p0, P - 1 = p0 := ⟨_, rfl⟩
      have hpe : (P : Int) - 1 = (p0 : Int) := by omega
      rw [hpe]
      have hpi : (0 : Int) ≤ (p0 : Int) := by omega
      have hp1 : (p0 : Int) + 1 = (P : Int) := by omega
      have hw1 : IntKind.i64.wrap (P : Int) = (P : Int) := IntWalk.i64_in _ (by omega)
      have hw2 : IntKind.i64.wrap ((p0 : Int) - 1) = (p0 : Int) - 1 := IntWalk.i64_in _ (by omega)
      have hp25 : (P : Int) < 25 := by omega
      have hpP : (0 : Int) ≤ (P : Int) := by omega
      have hp26 : (p0 : Int) < 25 := by omega
      have hpn : p0 < n := by omega
      have hPp : p0 + 1 = P := by omega
      have hTL := HT.out.len
      obtain ⟨CS, hCS⟩ : ∃ CS, (L.drop (P * 32)).take 32 = CS := ⟨_, rfl⟩
      have hcl : CS.length = 32 := by rw [← hCS, List.length_take, List.length_drop]; omega
      have hcz : CS.toArray.size = CS.length := List.size_toArray
      have hrg : wr.rangeAt (w.heap.size + 1) (P * 32) CS := by rw [← hCS]; exact HA.out.range (P * 32) 32
      have hth : wr.there (w.heap.size + 1) (p0 * 32) CS.toArray.size := by
        rw [hcz, hcl]; exact HA.out.thereAt (by omega)
      have h1c : CS.toArray.all (·.oneCell') = true := all_oneCell_toArray (fun u hu => HT.out.num u (by
        rw [← hCS] at hu
        exact List.mem_of_mem_drop (List.mem_of_mem_take hu)))
      have hsz : (Try.prog.info? 68).map (·.size) = some CS.length := by rw [infoWy, hcl]
      have hsz2 : (Try.prog.info? 68).map (·.size) = some CS.toArray.size := by rw [infoWy, hcz, hcl]
      obtain ⟨L2, hA2, hL2, hL2i, hL2o⟩ := HA.out.midAt (o := p0 * 32) (vs := CS) (by omega)
      have ht := HT.out
      rw [← hPp] at ht
      have HT2 : Hid (TabR n k d φ gs L2 p0 (wyP n d φ gs p0 0)) := TabR.copy hn hgl hpn ht (by rw [← hCS, hPp]) hL2 hL2i hL2o
      have HA2 := Lib.hid hA2
      have HB2 := Lib.hid (below_setCells9 (b := w.heap.size + 1) CS (p0 * 32) _ HB.out (Nat.le_succ _))
      have hX2 : OwnArr (wr.setCells (w.heap.size + 1) (p0 * 32) CS) w.heap.size 28 [Value.int .i64 n, Value.bool false, Value.slice p m cap] := HX.out.below (below_setCells9 (B := w.heap.size + 1) CS (p0 * 32) _ (Below.refl _ _) (Nat.le_refl _)) (Nat.lt_succ_self _)
      have HX2 := Lib.hid hX2
      have HPp := Lib.hid hPp
      clear hp0 hTL hCS hA2 hL2 hL2i hL2o ht hX2 HT HA hPp hpe hlt
      go_wp2_with (first | (refine wpList_load_mid rfl 68 _ rfl (w.heap.size + 1) (P * 32) (by rfl) CS _ hrg Try.underlying68 rfl hsz ?_) | (refine wpList_store_mid rfl 68 _ _ rfl (w.heap.size + 1) (p0 * 32) CS.toArray (by rfl) (by rfl) hth hsz2 h1c ?_))
      clear hrg hth h1c hsz hsz2 hcl hcz c0 c1 c2
      go_loopw [9, 10, 11, 12, 13, 33] (fun _ _ _ _ _ iv wr => ∃ (i : Nat) (L : List Value), i ≤ k ∧ iv = .int .i64 (i : Int) ∧ Hid (TabR n k d φ gs L p0 (wyP n d φ gs p0 i)) ∧ Hid (OwnArr wr (w.heap.size + 1) 69 L) ∧ Hid (OwnArr wr w.heap.size 28 [Value.int .i64 n, Value.bool false, Value.slice p m cap]) ∧ Hid (Below w.heap.size w wr)) (fun _ _ _ _ _ iv _ => k - (intOf iv).toNat)
      case atStart => exact ⟨0, L2, Nat.zero_le _, rfl, HT2, HA2, HX2, HB2⟩
      case round =>
        obtain ⟨i, L, hi', rfl, HT, HA, HX, HB⟩ := hrel
        clear HT2 HA2 HX2 HB2
        obtain ⟨c0, c1, c2, -⟩ := HX.out.three
        by_cases hik : i < k
        · have hii : (i : Int) < (k : Int) := by omega
          have hi0 : (0 : Int) ≤ (i : Int) := by omega
          have hkl : i < gs.length := by have := HK.out; omega
          obtain ⟨gb, go, rfl, -, -, hbw, hgc⟩ := (HGI.out wr HB.out).int (by omega)
          have hg0 := hgc i hkl
          have hzm : gs[i]?.getD 0 ∈ gs := by rw [List.getElem?_eq_getElem hkl]; exact List.getElem_mem hkl
          have hz1 := HG1.out _ hzm
          have hno : ∀ s, (φ (gs[i]?.getD 0) p0 = false ∨ bitN s i = false) → wyP n d φ gs p0 (i + 1) s = wyP n d φ gs p0 i s := fun s h => wyP_no h
          have hye : ∀ s (nx : Nat), φ (gs[i]?.getD 0) p0 = true → bitN s i = true → (nx : Int) = min ((p0 : Int) + gs[i]?.getD 0 + d) n → wyP n d φ gs p0 (i + 1) s = wyP n d φ gs p0 i s + wyT n d φ gs nx (s - 2 ^ i) := fun s nx h1 h2 h3 => wyP_yes HG1.out h1 h2 h3
          obtain ⟨z, hz⟩ : ∃ z, gs[i]?.getD 0 = z := ⟨_, rfl⟩
          rw [hz] at hg0 hz1
          simp only [hz] at hno hye
          have RM := HROOM.out z p0 hz1 (by omega) wr HB.out
          obtain ⟨r, hr⟩ : ∃ r, φ z p0 = r := ⟨_, rfl⟩
          rw [hr] at RM
          replace RM := Lib.hid RM
          have HNO := Lib.hid hno
          have HYE := Lib.hid hye
          have HR := Lib.hid hr
          have hwi : IntKind.i64.wrap ((i : Int) + 1) = (i : Int) + 1 := IntWalk.i64_in _ (by omega)
          clear hno hye hr hz hzm hgc hbw
          go_wp2_with fail
          refine RM.out.mono ?_
          rintro e w4 ⟨rfl, hb4⟩
          have HA4 := Lib.hid (HA.out.below hb4 HA.out.lt)
          have HX4 := Lib.hid (HX.out.below hb4 HX.out.lt)
          have HB4 := Lib.hid (HB.out.trans (hb4.mono HB.out.size))
          clear hb4 RM HA HX HB c0 c1 c2 hg0
          obtain ⟨c0, c1, c2, -⟩ := HX4.out.three
          cases r with
          | false =>
            have HT4 : Hid (TabR n k d φ gs L p0 (wyP n d φ gs p0 (i + 1))) := HT.out.congr (fun s _ => (HNO.out s (.inl HR.out)).symm)
            clear HNO HYE HR HT
            go_wp2_with fail
            go_roundw
            case rel => exact ⟨i + 1, L, by omega, by go_num, HT4, HA4, HX4, HB4⟩
            case measure => simp [intOf]; omega
          | true =>
            have hzn := HFZ.out z p0 HR.out
            obtain ⟨a1, ha1⟩ : ∃ a, (n : Int) - (p0 : Int) = a := ⟨_, rfl⟩
            obtain ⟨a2, ha2⟩ : ∃ a, a1 - z = a := ⟨_, rfl⟩
            obtain ⟨Y, hY⟩ : ∃ a, a2 - d = a := ⟨_, rfl⟩
            have hwa1 : IntKind.i64.wrap a1 = a1 := IntWalk.i64_in _ (by omega)
            have hwa2 : IntKind.i64.wrap a2 = a2 := IntWalk.i64_in _ (by omega)
            have hwY : IntKind.i64.wrap Y = Y := IntWalk.i64_in _ (by omega)
            obtain ⟨nx, hnx⟩ : ∃ nx : Nat, (nx : Int) = min ((p0 : Int) + z + d) n := ⟨(min ((p0 : Int) + z + d) n).toNat, by omega⟩
            have hnxp : p0 < nx := by omega
            have hnxn : nx ≤ n := by omega
            go_upto_region 11 with fail
            go_cut [11] (fun v wx => v = .int .i64 (nx : Int) ∧ w4 = wx)
            case first =>
              by_cases hY0 : 0 < Y
              · have hmx : max 0 Y = Y := by omega
                have e1 : (n : Int) - Y = (nx : Int) := by omega
                have hwn : IntKind.i64.wrap (nx : Int) = (nx : Int) := IntWalk.i64_in _ (by omega)
                clear hnx hnxp hnxn hzn
                go_wp2_with fail
                go_meet
                exact ⟨rfl, rfl⟩
              · have hmx : max 0 Y = 0 := by omega
                have e1 : (n : Int) = (nx : Int) := by omega
                have hwn : IntKind.i64.wrap (n : Int) = (n : Int) := IntWalk.i64_in _ (by omega)
                have HE1 := Lib.hid e1
                clear hnx hnxp hnxn hzn e1
                go_wp2_with fail
                go_meet
                exact ⟨by rw [HE1.out], rfl⟩
            case rest =>
              obtain ⟨rfl, rfl⟩ := hcut
              have HNXT := Lib.hid hnx
              clear ha1 ha2 hY hwa1 hwa2 hwY hnx hzn
              obtain ⟨K2, hK2⟩ : ∃ K2, 2 ^ k = K2 := ⟨_, rfl⟩
              have hK32 : K2 ≤ 32 := by rw [← hK2]; exact pow32 hgl
              have hpk : (2 : Int) ^ k = (K2 : Int) := by rw [← hK2]; push_cast; rfl
              have hwK : IntKind.i64.wrap (K2 : Int) = (K2 : Int) := IntWalk.i64_in _ (by omega)
              obtain ⟨B2, hB2⟩ : ∃ B2, 2 ^ i = B2 := ⟨_, rfl⟩
              have hB32 : B2 ≤ 16 := by rw [← hB2]; exact Nat.le_trans (Nat.pow_le_pow_right (by omega) (by omega : i ≤ 4)) (by decide)
              have hpb : (2 : Int) ^ i = (B2 : Int) := by rw [← hB2]; push_cast; rfl
              have hwB : IntKind.i64.wrap (B2 : Int) = (B2 : Int) := IntWalk.i64_in _ (by omega)
              have HK2 := Lib.hid hK2
              have HB2 := Lib.hid hB2
              have HT0 : Hid (TabR n k d φ gs L p0 (fun s => if s < 0 then wyP n d φ gs p0 (i + 1) s else wyP n d φ gs p0 i s)) := HT.out.congr (fun s _ => by rw [if_neg (by omega)])
              clear hK2 hB2 HT
              go_wp2_with fail
              clear c0 c1 c2 hpk hwK
              go_loopw [12, 13, 59] (fun _ _ tv wr => ∃ (t : Nat) (L : List Value), t ≤ K2 ∧ tv = .int .i64 (t : Int) ∧ Hid (TabR n k d φ gs L p0 (fun s => if s < t then wyP n d φ gs p0 (i + 1) s else wyP n d φ gs p0 i s)) ∧ Hid (OwnArr wr (w.heap.size + 1) 69 L) ∧ Hid (OwnArr wr w.heap.size 28 [Value.int .i64 n, Value.bool false, Value.slice p m cap]) ∧ Hid (Below w.heap.size w wr)) (fun _ _ tv _ => K2 - (intOf tv).toNat)
              case atStart => exact ⟨0, L, Nat.zero_le _, rfl, HT0, HA4, HX4, HB4⟩
              case round =>
                obtain ⟨t, L, ht, rfl, HT, HA, HX, HB⟩ := hrel
                clear HT0 HA4 HX4 HB4
                by_cases htk : t < K2
                · have hti : (t : Int) < (K2 : Int) := by omega
                  have hwt : IntKind.i64.wrap ((t : Int) + 1) = (t : Int) + 1 := IntWalk.i64_in _ (by omega)
                  have hba := bits_and (t := t) (i := i) (by omega) (by omega)
                  rw [HB2.out] at hba
                  have hi1 : (0 : Int) ≤ (i : Int) := by omega
                  obtain ⟨y, hy⟩ : ∃ y, bitN t i = y := ⟨_, rfl⟩
                  rw [hy] at hba
                  have HY := Lib.hid hy
                  clear hy
                  have hB1 : 1 ≤ B2 := by rw [← HB2.out]; exact Nat.one_le_two_pow
                  cases y with
                  | false =>
                    rw [if_neg (by simp)] at hba
                    have HT5 : Hid (TabR n k d φ gs L p0 (fun s => if s < t + 1 then wyP n d φ gs p0 (i + 1) s else wyP n d φ gs p0 i s)) := HT.out.congr (fun s _ => by
                      by_cases e : s = t
                      · subst e
                        rw [if_neg (by omega), if_pos (by omega), HNO.out s (.inr HY.out)]
                      · by_cases e2 : s < t
                        · rw [if_pos e2, if_pos (by omega)]
                        · rw [if_neg e2, if_neg (by omega)])
                    clear HT HY
                    go_wp2_with fail
                    go_roundw
                    case rel => exact ⟨t + 1, L, by omega, by go_num, HT5, HA, HX, HB⟩
                    case measure => simp [intOf]; omega
                  | true =>
                    rw [if_pos rfl] at hba
                    have hBt : B2 ≤ t := by rw [← HB2.out]; exact bit_ge HY.out
                    obtain ⟨tb, htb⟩ : ∃ tb, t - B2 = tb := ⟨_, rfl⟩
                    have htbi : (t : Int) - (B2 : Int) = (tb : Int) := by omega
                    have hwtb : IntKind.i64.wrap (tb : Int) = (tb : Int) := IntWalk.i64_in _ (by omega)
                    have ht32 : (t : Int) < 32 := by omega
                    have ht0 : (0 : Int) ≤ (t : Int) := by omega
                    have htb32 : (tb : Int) < 32 := by omega
                    have htb0 : (0 : Int) ≤ (tb : Int) := by omega
                    have hnx25 : (nx : Int) < 25 := by omega
                    have hnx0 : (0 : Int) ≤ (nx : Int) := by omega
                    have hB0 : ¬ B2 = 0 := by omega
                    have hB0i : ¬ (B2 : Int) = 0 := by omega
                    have hbe : ((B2 : Int) != 0) = true := by simp; omega
                    have htK : t < 2 ^ k := by rw [HK2.out]; exact htk
                    have htbK : tb < 2 ^ k := by rw [HK2.out]; omega
                    have hc1 := HA.out.cell (p0 * 32 + t)
                    rw [HT.out.here t htK, if_neg (by omega)] at hc1
                    have hf1 := HA.out.free (p0 * 32 + t)
                    have hc2 := HA.out.cell (nx * 32 + tb)
                    rw [HT.out.past nx tb hnxp hnxn htbK] at hc2
                    have hye := HYE.out t nx HR.out HY.out HNXT.out
                    rw [HB2.out, htb] at hye
                    have hle1 : wyP n d φ gs p0 i t ≤ 50000000 := wyP_le hn1 hn (by rw [HK.out]; exact hgl) (by omega)
                    have hle2 : wyT n d φ gs nx tb ≤ 7962624 := wyT_le hn1 hn (by rw [HK.out]; exact hgl)
                    obtain ⟨x1, hx1⟩ : ∃ x, wyP n d φ gs p0 i t = x := ⟨_, rfl⟩
                    obtain ⟨x2, hx2⟩ : ∃ x, wyT n d φ gs nx tb = x := ⟨_, rfl⟩
                    rw [hx1] at hc1 hye hle1
                    rw [hx2] at hc2 hye hle2
                    obtain ⟨x3, hx3⟩ : ∃ x, x1 + x2 = x := ⟨_, rfl⟩
                    rw [hx3] at hye
                    have hsum : (x1 : Int) + (x2 : Int) = (x3 : Int) := by omega
                    have hwx : IntKind.i64.wrap (x3 : Int) = (x3 : Int) := IntWalk.i64_in _ (by omega)
                    have HT5 : Hid (TabR n k d φ gs (L.set (p0 * 32 + t) (.int .i64 (x3 : Int))) p0 (fun s => if s < t + 1 then wyP n d φ gs p0 (i + 1) s else wyP n d φ gs p0 i s)) := TabR.set hn hgl hpn htK HT.out (by rw [if_pos (by omega)]; exact hye) (fun s _ e => by
                      by_cases e2 : s < t
                      · rw [if_pos e2, if_pos (by omega)]
                      · rw [if_neg e2, if_neg (by omega)])
                    have HA5 := Lib.hid ((HA.out.set (p0 * 32 + t) (.int .i64 (x3 : Int))).drew)
                    have HX5 := Lib.hid ((HX.out.other (a := ⟨w.heap.size + 1, p0 * 32 + t, none⟩) (by show w.heap.size ≠ w.heap.size + 1; omega) (.int .i64 (x3 : Int))).drew)
                    have HB5 := Lib.hid ((HB.out.setCell (p := ⟨w.heap.size + 1, p0 * 32 + t, none⟩) (by show w.heap.size ≤ w.heap.size + 1; omega) (.int .i64 (x3 : Int))).drew)
                    clear htb hx1 hx2 hx3 hye hle1 hle2 HT HY htK htbK HA HX HB hBt
                    go_wp2_with fail
                    go_region
                    all_goals
                      go_wp2_with fail
                      go_roundw
                      case rel => exact ⟨t + 1, _, by omega, by go_num, HT5, HA5, HX5, HB5⟩
                      case measure => simp [intOf]; omega
                · have htk2 : t = K2 := by omega
                  have hti : ¬ (t : Int) < (K2 : Int) := by omega
                  have HT9 : Hid (TabR n k d φ gs L p0 (wyP n d φ gs p0 (i + 1))) := HT.out.congr (fun s hs => by rw [if_pos (by rw [htk2, ← HK2.out]; exact hs)])
                  clear HT htk2
                  go_wp2_with fail
                  go_roundw
                  case rel => exact ⟨i + 1, L, by omega, by go_num, HT9, HA, HX, HB⟩
                  case measure => simp [intOf]; omega
        · have hik2 : i = k := by omega
          have hii : ¬ (i : Int) < (k : Int) := by omega
          have HT4 : Hid (TabR n k d φ gs L p0 (wyT n d φ gs p0)) := by
            show TabR _ _ _ _ _ _ _ _
            have := HT.out
            rw [hik2, ← HK.out] at this
            rw [← HK.out]
            exact this.congr (fun s hs => wyP_all hd hpn HG1.out hs)
          clear HT hik2
          go_wp2_with fail
          go_roundw
          case rel => exact ⟨p0, L, by omega, rfl, HT4, HA, HX, HB⟩
          case measure => simp [intOf] <;> omega
    · have hP0 : P = 0 := by omega
      have hpi : ¬ (0 : Int) ≤ (P : Int) - 1 := by omega
      have h2k : 1 ≤ 2 ^ k := Nat.one_le_two_pow
      have h32 := pow32 hgl
      have hc := HA.out.cell (0 * 32 + (2 ^ k - 1))
      have ht := HT.out.here (2 ^ k - 1) (by omega)
      rw [hP0] at ht
      rw [ht, Nat.zero_mul, Nat.zero_add] at hc
      obtain ⟨V, hV⟩ : ∃ V, wyT n d φ gs 0 (2 ^ k - 1) = V := ⟨_, rfl⟩
      rw [hV] at hc
      obtain ⟨K2, hK2⟩ : ∃ K2, 2 ^ k = K2 := ⟨_, rfl⟩
      have hpk : (2 : Int) ^ k = (K2 : Int) := by rw [← hK2]; push_cast; rfl
      rw [hK2] at hc h2k h32
      obtain ⟨E, hE⟩ : ∃ E, K2 - 1 = E := ⟨_, rfl⟩
      rw [hE] at hc
      have hEi : (K2 : Int) - 1 = (E : Int) := by omega
      have hE32 : (E : Int) < 32 := by omega
      have hE0 : (0 : Int) ≤ (E : Int) := by omega
      have hwK : IntKind.i64.wrap (K2 : Int) = (K2 : Int) := IntWalk.i64_in _ (by omega)
      have hwE : IntKind.i64.wrap (E : Int) = (E : Int) := IntWalk.i64_in _ (by omega)
      have HV := Lib.hid hV
      clear hV hK2 hE ht hP0 h2k h32 HT HA HX c0 c1 c2
      go_wp2_with fail
      go_ret
      exact ⟨by rw [HV.out]; rfl, HB.out⟩
end Go.Proofs.Ytogdiahojbonaaa
