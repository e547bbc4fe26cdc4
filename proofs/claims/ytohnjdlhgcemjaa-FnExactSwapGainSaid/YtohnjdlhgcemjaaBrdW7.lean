/- Chapter 7, impl side: impl.waitingOutside. -/
import Derived.Test.YtohnjdlhgcemjaaBrdT7
import Derived.Test.YtohnjdlhgcemjaaStc7
namespace Go.Proofs.Ytohnjdlhgcemjaa
open Go.RowKit

theorem infoPtr7 : (Try.prog.info? 40).map (fun i => (i.zero, i.size, i.bytes)) = some (some (.pointer none), 1, 8) := by kernel_rfl
abbrev ptrV (T : Nat → Nat) (r : Nat) : Value := .pointer (some ⟨T r, 0, none⟩)
def newT (T : Nat → Nat) (x a r : Nat) : Nat := if r = x then a else T r
abbrev lrow (l : List Nat) (j : Nat) : Nat := l[j]?.getD 0
/-- a boarding in the making: the first i travelers are there -/
structure W7 (lo n : Nat) (w0 : World) (g ab : Nat) (T : Nat → Nat) (l : List Nat) (s : Int) (v : Value) (i : Nat) (wr : World) : Prop where
  los : lo ≤ g ∧ lo ≤ ab ∧ g ≠ ab
  box : OwnArr wr g 49 [v, .slice (some ⟨ab, 0, none⟩) n n, .int .i64 0]
  ai : OwnArr wr ab 40 (List.replicate n (.pointer none))
  row : wr.ownsRow lo 40 1 v i ((l.take i).map (ptrV T))
  kv : v.ownBlock ≠ some g ∧ v.ownBlock ≠ some ab
  tv : ∀ j, j < i → OwnArr wr (T (lrow l j)) 44 (travL s start7 (lrow l j)) ∧ lo ≤ T (lrow l j) ∧ T (lrow l j) ≠ g ∧ T (lrow l j) ≠ ab ∧ v.ownBlock ≠ some (T (lrow l j))
  inj : ∀ j k, j < i → k < i → j ≠ k → T (lrow l j) ≠ T (lrow l k)
  bel : Below lo w0 wr
theorem own_set7 {B n : Nat} {t : TypeId} {w : World} {v : Value} {xs : List Value} {g i : Nat} {x : Value} (h : w.ownsRow B t 1 v n xs) (hv : v.ownBlock ≠ some g) : (w.setCell ⟨g, i, none⟩ x).ownsRow B t 1 v n xs := by
  refine ⟨h.1, h.2.elim .inl ?_⟩
  rintro ⟨k, cap, cur, rfl, hB, hh, r⟩
  have hk : k ≠ g := fun e => hv (by rw [e]; rfl)
  exact .inr ⟨k, cap, cur, rfl, hB, by rw [Below.heap_setCell w ⟨g, i, none⟩ x k hk]; exact hh, r⟩
theorem own_form7 {B n : Nat} {t : TypeId} {w : World} {v : Value} {xs : List Value} (h : w.ownsRow B t 1 v n xs) : ∃ q c, v = .slice q n c := by
  rcases h.2 with ⟨rfl, h0⟩ | ⟨k, cap, cur, rfl, -⟩
  · exact ⟨none, 0, by rw [h0]⟩
  · exact ⟨_, _, rfl⟩
theorem own_kept2 {w w3 : World} {o o2 : Obj} {row : Option Nat} {x : Nat} {e : TypeId} {xs : List Value} (h : OwnArr w x e xs) (hg : ((w.alloc o).alloc o2).grownBy w3 row) (hne : row ≠ some x) : OwnArr w3 x e xs :=
  own_kept (h.alloc o) hg hne
section
variable {lo n : Nat} {w0 : World} {g ab : Nat} {T : Nat → Nat} {l : List Nat} {s : Int} {v v' : Value} {i : Nat} {wr w3 : World} {o2 : Obj}
theorem W7.step (h : W7 lo n w0 g ab T l s v i wr) (hi : i < n) (hll : l.length = n) (hnd : ∀ j k, j < n → k < n → j ≠ k → lrow l j ≠ lrow l k) (hlo : lo ≤ wr.heap.size)
    (hg : ((wr.alloc (.cells (travL s start7 (lrow l i)).toArray 44)).alloc o2).grownBy w3 v.ownBlock)
    (ho : w3.ownsRow lo 40 1 v' (i + 1) ((l.take i).map (ptrV T) ++ [.pointer (some ⟨wr.heap.size, 0, none⟩)]))
    (hat : v'.ownBlock = v.ownBlock ∨ v'.ownBlock = some ((wr.alloc (.cells (travL s start7 (lrow l i)).toArray 44)).alloc o2).heap.size) :
    W7 lo n w0 g ab (newT T (lrow l i) wr.heap.size) l s v' (i + 1) (w3.setCell ⟨g, 0, none⟩ v') := by
  have h1 := h.box.lt
  have h2 := h.ai.lt
  have hsz : ((wr.alloc (.cells (travL s start7 (lrow l i)).toArray 44)).alloc o2).heap.size = wr.heap.size + 2 := by simp
  have hnew : OwnArr (wr.alloc (.cells (travL s start7 (lrow l i)).toArray 44)) wr.heap.size 44 (travL s start7 (lrow l i)) := OwnArr.made wr _ _
  have hvl : ∀ k, v.ownBlock = some k → k < wr.heap.size := fun k hk => (World.ownsRow.lt h.row k hk).2
  have hnn : v.ownBlock ≠ some wr.heap.size := fun e => by have := hvl _ e; omega
  have hn3 : OwnArr w3 wr.heap.size 44 (travL s start7 (lrow l i)) := own_kept hnew hg hnn
  have hTj : ∀ j, j < i → (newT T (lrow l i) wr.heap.size) (lrow l j) = T (lrow l j) := fun j hj => if_neg (hnd j i (by omega) hi (by omega))
  have hTi : (newT T (lrow l i) wr.heap.size) (lrow l i) = wr.heap.size := if_pos rfl
  have hvg : v'.ownBlock ≠ some g ∧ v'.ownBlock ≠ some ab := by
    rcases hat with e | e
    · rw [e]; exact h.kv
    · rw [e, hsz]; exact ⟨fun e => by simp at e; omega, fun e => by simp at e; omega⟩
  refine ⟨h.los, (own_kept2 h.box hg h.kv.1).set 0 v', (own_kept2 h.ai hg h.kv.2).far7 h.los.2.2.symm _, ?_, hvg, ?_, ?_, ?_⟩
  · have e : (l.take (i + 1)).map (ptrV (newT T (lrow l i) wr.heap.size)) = (l.take i).map (ptrV T) ++ [.pointer (some ⟨wr.heap.size, 0, none⟩)] := by
      rw [List.take_succ_eq_append_getElem (by omega), List.map_append]
      have e1 : l[i]'(by omega) = lrow l i := by unfold lrow; rw [List.getElem?_eq_getElem (by omega)]; rfl
      congr 1
      · apply List.map_congr_left
        intro x hx
        obtain ⟨j, hj, rfl⟩ := List.getElem_of_mem hx
        rw [List.length_take] at hj
        have e2 : (l.take i)[j] = lrow l j := by unfold lrow; rw [List.getElem_take, List.getElem?_eq_getElem (by omega)]; rfl
        rw [e2]
        show Value.pointer (some ⟨(newT T (lrow l i) wr.heap.size) (lrow l j), 0, none⟩) = _
        rw [hTj j (by omega)]
      · rw [e1]
        show [Value.pointer (some ⟨(newT T (lrow l i) wr.heap.size) (lrow l i), 0, none⟩)] = _
        rw [hTi]
    rw [e]
    exact own_set7 ho hvg.1
  · intro j hj
    by_cases e : j = i
    · subst e
      rw [hTi]
      have hbl := h.bel.size
      refine ⟨hn3.far7 (by omega) _, hlo, by omega, by omega, ?_⟩
      rcases hat with e | e
      · rw [e]; exact hnn
      · rw [e, hsz]; intro e; simp at e
    · rw [hTj j (by omega)]
      obtain ⟨q1, q2, q3, q4, q5⟩ := h.tv j (by omega)
      refine ⟨(own_kept2 q1 hg q5).far7 q3 _, q2, q3, q4, ?_⟩
      rcases hat with e' | e'
      · rw [e']; exact q5
      · rw [e', hsz]; intro e2; have := q1.lt; simp at e2; omega
  · intro j k hj hk hjk
    by_cases e : j = i
    · subst e
      rw [hTi, hTj k (by omega)]
      have := (h.tv k (by omega)).1.lt; omega
    · by_cases e' : k = i
      · subst e'
        rw [hTi, hTj j (by omega)]
        have := (h.tv j (by omega)).1.lt; omega
      · rw [hTj j (by omega), hTj k (by omega)]
        exact h.inj j k (by omega) (by omega) hjk
  · have h3 : Below lo wr w3 := (((Below.refl lo wr).alloc hlo _).alloc (by simp; omega) o2).grown hg (by omega) (own_block h.row)
    exact (h.bel.trans h3).setCell (p := ⟨g, 0, none⟩) h.los.1 _
/-- a boarding that is made -/
theorem W7.done (h : W7 lo n w0 g ab T l s v n wr) (hn1 : 1 ≤ n) (hll : l.length = n) (hl : ∀ x ∈ l, x < n) (ha : ∀ r, r < n → r ∈ l) :
    ∃ tb kt, Brd wr n g tb ab kt n T l s 0 start7 ∧ from7 lo n g tb ab T := by
  have hj : ∀ r, r < n → ∃ j, j < n ∧ lrow l j = r := fun r hr => by
    obtain ⟨j, hj, e⟩ := List.getElem_of_mem (ha r hr)
    exact ⟨j, by omega, by unfold lrow; rw [List.getElem?_eq_getElem hj, e]; rfl⟩
  obtain ⟨-, h2⟩ := h.row
  rcases h2 with ⟨-, h0⟩ | ⟨tb, kt, cur, rfl, hB, hh, hnk, hk, hcs, htk⟩
  · omega
  · rw [Nat.mul_one] at htk
    have hw : OwnArr wr tb 40 cur.toList := by unfold OwnArr; simpa using hh
    have hkv := h.kv
    refine ⟨tb, kt, ⟨⟨fun e => hkv.1 (by rw [e]; rfl), h.los.2.2, fun e => hkv.2 (by rw [e]; rfl), ?_, ?_⟩, h.box, ⟨cur.toList, hw, by simp; omega, ?_⟩, ⟨_, h.ai, by simp, ?_⟩, ?_⟩, ⟨h.los.1, hB, h.los.2.1, ?_⟩⟩
    · intro r hr
      obtain ⟨j, hj, rfl⟩ := hj r hr
      obtain ⟨-, -, q3, q4, q5⟩ := h.tv j hj
      exact ⟨q3, fun e => q5 (by rw [e]; rfl), q4⟩
    · intro r q hr hq hne
      obtain ⟨j, hj', rfl⟩ := hj r hr
      obtain ⟨k, hk', rfl⟩ := hj q hq
      exact h.inj j k hj' hk' (fun e => hne (by rw [e]))
    · intro j hj'
      have e : cur.toList[j]? = ((l.take n).map (ptrV T))[j]? := by rw [← htk, List.getElem?_take, if_pos hj']
      rw [e, List.getElem?_map, List.getElem?_take, if_pos hj', List.getElem?_eq_getElem (by omega)]
      show some (ptrV T (l[j]'(by omega))) = some (ptrT T ((l[j]?.getD 0 : Nat) : Int))
      rw [List.getElem?_eq_getElem (by omega)]
      rfl
    · intro j hj'
      show (List.replicate n (Value.pointer none))[j]? = some (ptrT T (-1))
      rw [List.getElem?_replicate, if_pos hj']; rfl
    · intro r hr
      obtain ⟨j, hj, rfl⟩ := hj r hr
      exact (h.tv j hj).1
    · intro r hr
      obtain ⟨j, hj, rfl⟩ := hj r hr
      exact (h.tv j hj).2.1
end

/-- a boarding of a call's own -/
def MadeBrd (w : World) (n : Nat) (l : List Nat) (s u : Int) (C : Cab) : Ending → World → Prop := fun E w' => ∃ g tb ab kt ka T, E = .returned (.pointer (some ⟨g, 0, none⟩)) ∧ Brd w' n g tb ab kt ka T l s u C ∧ from7 w.heap.size n g tb ab T ∧ Below w.heap.size w w'

set_option maxRecDepth 4000 in
set_option maxHeartbeats 4000000 in
theorem waiting_any (n : Nat) (s : Int) (p : Option Addr) (cap : Nat) (l : List Nat) (w : World) (lo hi : Nat) (hin : Ri lo hi w p (ints l)) (hn1 : 1 ≤ n) (hn : n ≤ 10) (hll : l.length = n) (hl : ∀ x ∈ l, x < n) (ha : ∀ r, r < n → r ∈ l) (hnd : ∀ j k, j < n → k < n → j ≠ k → lrow l j ≠ lrow l k) :
    Calls Try.prog 49 #[.int .i64 s, .slice p n cap] w (MadeBrd w n l s 0 start7) := by
  have hmk := @run_make_row' Try.prog 47 40 (.pointer none) 8 Try.underlying47 infoPtr7 rfl .i64 .i64 n (by omega) (by omega)
  rw [madeCells_one] at hmk
  obtain ⟨Z, hZ⟩ : ∃ Z, List.replicate n (Value.pointer none) = Z := ⟨_, rfl⟩
  rw [hZ] at hmk
  obtain ⟨w2, hw2⟩ : ∃ w2, (w.alloc (.cells Z.toArray 40)).alloc (.cells #[.slice none 0 0, .slice (some ⟨w.heap.size, 0, none⟩) n n, .int .i64 0] 49) = w2 := ⟨_, rfl⟩
  obtain ⟨r0, hr0⟩ : ∃ r, w.heap.size = r := ⟨_, rfl⟩
  have HS : Hid (W7 r0 n w (r0 + 1) r0 (fun _ => 0) l s (.slice none 0 0) 0 w2) := by
    show W7 _ _ _ _ _ _ _ _ _ _ _
    have hm1 : OwnArr (w.alloc (.cells Z.toArray 40)) r0 40 Z := by rw [← hr0]; exact OwnArr.made w _ _
    have hm2 := OwnArr.made (w.alloc (.cells Z.toArray 40)) 49 [.slice none 0 0, .slice (some ⟨w.heap.size, 0, none⟩) n n, .int .i64 0]
    have hsz : (w.alloc (.cells Z.toArray 40)).heap.size = r0 + 1 := by simp [hr0]
    rw [hsz, hr0] at hm2
    rw [← hw2, hr0]
    refine ⟨⟨by omega, Nat.le_refl _, by omega⟩, hm2, ?_, ⟨rfl, .inl ⟨rfl, rfl⟩⟩, ⟨by simp [Value.ownBlock], by simp [Value.ownBlock]⟩, fun j hj => absurd hj (Nat.not_lt_zero _), fun j k hj => absurd hj (Nat.not_lt_zero _), ?_⟩
    · rw [hZ]; exact hm1.alloc _
    · exact ((Below.refl _ _).alloc (by omega) _).alloc (by rw [hsz]; omega) _
  have HI := Lib.hid (fun (w' : World) (h' : Below r0 w w') => hin.below (by rw [hr0]; exact h') hin.top)
  obtain ⟨i0, hi0, hz0, hz1, hz2⟩ := info_parts infoPtr7
  have HW2 := Lib.hid hw2
  have HR0 := Lib.hid hr0
  have HLL := Lib.hid hll
  have HND := Lib.hid hnd
  have HDONE := Lib.hid (fun (T : Nat → Nat) (v : Value) (wr : World) (h : W7 r0 n w (r0 + 1) r0 T l s v n wr) => h.done hn1 hll hl ha)
  clear hin hw2 hr0 hZ hl ha hnd
  go_enter Try.func49, Try.ntmps49
  go_upto_region 2 with fail
  rw [HW2.out, HR0.out]
  clear hmk
  go_wp2_with fail
  go_loopw [15] (fun ii wr => ∃ (i : Nat) (T : Nat → Nat) (v : Value), i ≤ n ∧ ii = .int .i64 (i : Int) ∧ Hid (W7 r0 n w (r0 + 1) r0 T l s v i wr)) (fun ii _ => n - (intOf ii).toNat)
  case atStart => exact ⟨0, _, _, Nat.zero_le _, rfl, HS⟩
  case round =>
    obtain ⟨i, T, v, hi', rfl, HS1⟩ := hrel
    clear HS
    by_cases hlt : i < n
    · have hi1 : (i : Int) < (n : Int) := by omega
      have hil : i < l.length := by omega
      obtain ⟨bq, off, rfl, -, -, -, hc⟩ := (HI.out wr HS1.out.bel).int (by rw [ints_length]; omega)
      have h0 := hc i (by rw [ints_length]; exact hil)
      rw [ints_get hil] at h0
      have hlo : r0 ≤ wr.heap.size := by have := HS1.out.bel.size; have := HR0.out; omega
      have c0 : wr.cell? ⟨r0 + 1, 0, none⟩ = some v := HS1.out.box.cell 0
      obtain ⟨row, hrow⟩ : ∃ row, l[i]?.getD 0 = row := ⟨_, rfl⟩
      rw [hrow] at h0
      have hrl : lrow l i = row := hrow
      have hown := World.ownsRow.alloc (World.ownsRow.alloc HS1.out.row (.cells #[.int .i64 (-1), .int .i64 0, .int .i64 (row : Nat), .int .i64 s, .int .i64 0, .int .i64 0, .int .i64 0] 44)) (.cells #[.pointer (some ⟨wr.heap.size, 0, none⟩)] 40)
      have hc1 := cell_one_new (wr.alloc (.cells #[.int .i64 (-1), .int .i64 0, .int .i64 (row : Nat), .int .i64 s, .int .i64 0, .int .i64 0, .int .i64 0] 44)) (.pointer (some ⟨wr.heap.size, 0, none⟩)) 40
      rw [World.size_alloc] at hc1
      have HRL := Lib.hid hrl
      clear hc
      go_wp2_with (at_builtin; refine wpList_append_own_at _ rfl _ _ 47 rfl r0 40 i0 (.pointer none) 1 8 Try.underlying47 hi0 hz0 hz1 hz2 rfl (by decide) _ _ _ rfl hown ⟨wr.heap.size + 1, 0, none⟩ 1 1 [.pointer (some ⟨wr.heap.size, 0, none⟩)] rfl rfl hc1 (fun x hx => by simp at hx; subst hx; rfl) (by unfold maxLen; omega) (by omega) (by simp; omega) ?_; intro v' w3 hown' hgrow3 hnil3 hat3; obtain ⟨qv, cv, rfl⟩ := own_form7 hown'; have hx3 := own_kept2 HS1.out.box hgrow3 HS1.out.kv.1; have y0 := hx3.cell 0; have g0 := hx3.free 0)
      have HS3 := Lib.hid (HS1.out.step hlt HLL.out HND.out hlo (by rw [HRL.out]; exact hgrow3) hown' (by rw [HRL.out]; exact hat3))
      clear hown hown' hgrow3 hnil3 hat3 hx3 y0 g0
      go_wp2_with fail
      go_roundw
      case rel => exact ⟨i + 1, _, _, by omega, by go_num, HS3⟩
      case measure => simp [intOf]; omega
    · have hni : i = n := by omega
      subst hni
      have hi1 : ¬ (i : Int) < (i : Int) := by omega
      go_wp2_with fail
      go_ret
      obtain ⟨tb, kt, hB, hF⟩ := HDONE.out T v wr HS1.out
      unfold MadeBrd
      exact ⟨_, _, _, _, _, _, rfl, hB, by rw [HR0.out]; exact hF, by rw [HR0.out]; exact HS1.out.bel⟩
end Go.Proofs.Ytohnjdlhgcemjaa
