/- Lists of seatings as slices.Collect gathers them from an iterator: what the loop of slices.AppendSeq keeps. Plain lemmas. -/
import Derived.Test.YtkbpfjhikabbmaaItr5
import Derived.Test.YtkbpfjhikabbmaaSSlaw
namespace Go.Proofs.Ytkbpfjhikabbmaa
open Go.RowKit Go.Shelf

theorem own_same5 {W W' : World} {g : Nat} {e : TypeId} {xs : List Value} (h : OwnArr W g e xs) (hs : W'.heap[g]? = W.heap[g]?) : OwnArr W' g e xs := by
  unfold OwnArr at *
  rw [hs]; exact h
theorem put_own5 {X : World} {L : Nat} {o : Obj} {g : Nat} {e : TypeId} {xs : List Value} (h : OwnArr X g e xs) (hn : g ≠ L) : OwnArr (X.putObj L o) g e xs :=
  own_same5 h ((grownBy_putObj' X L o).block g h.lt (fun e => hn (by simpa using e)))
theorem YL.keep5 {S : Nat → Prop} {W W' : World} {xb : Nat} {x : List Int} (h : YL W xb x) (hk : KeepP S W W') (hn : ¬ S xb) : YL W' xb x := by
  obtain ⟨hc, ys, ho, hl⟩ := h
  exact ⟨fun j hj => by rw [hk.cell ho.lt hn]; exact hc j hj, ys, hk.own ho hn, hl⟩
theorem row_same5 {W W' : World} {B : Nat} {e : TypeId} {sz : Nat} {v : Value} {n : Nat} {xs : List Value} (h : W.ownsRow B e sz v n xs) (hs : ∀ g, v.ownBlock = some g → W'.heap[g]? = W.heap[g]?) : W'.ownsRow B e sz v n xs := by
  refine ⟨h.1, ?_⟩
  rcases h.2 with hn | ⟨g, cap, cur, rfl, hb, hgg, rest⟩
  · exact .inl hn
  · exact .inr ⟨g, cap, cur, rfl, hb, (hs g rfl).trans hgg, rest⟩

/-- the slices of lists in blocks of their own -/
def rowS (pre : List (List Int)) (bs cs : Nat → Nat) : List Value := (List.range pre.length).map fun i => .slice (some ⟨bs i, 0, none⟩) (pre[i]?.getD []).length (cs i)
theorem rowS_snoc (pre : List (List Int)) (bs cs : Nat → Nat) (x : List Int) (xb cap : Nat) : rowS (pre ++ [x]) (fun i => if i = pre.length then xb else bs i) (fun i => if i = pre.length then cap else cs i) = rowS pre bs cs ++ [.slice (some ⟨xb, 0, none⟩) x.length cap] := by
  unfold rowS
  rw [List.length_append, List.length_singleton, List.range_succ, List.map_append]
  congr 1
  · apply List.map_congr_left
    intro i hi
    have hi' := List.mem_range.1 hi
    have hn : ¬ i = pre.length := by omega
    simp only [if_neg hn]
    rw [List.getElem?_append_left hi']
  · simp

/-- the lists gathered so far, each in a block of its own -/
structure AqV (w0 : World) (L ob : Nat) (W : World) (pre : List (List Int)) (v : Value) (bs cs : Nat → Nat) (S : Nat → Prop) : Prop where
  box : OwnArr W ob 22 [v]
  row : W.ownsRow w0.heap.size 33 1 v pre.length (rowS pre bs cs)
  inn : ∀ i x, pre[i]? = some x → YL W (bs i) x ∧ x.length ≤ cs i ∧ cs i ≤ maxLen ∧ w0.heap.size ≤ bs i ∧ bs i ≠ L ∧ bs i ≠ ob ∧ v.ownBlock ≠ some (bs i)
  apart : ∀ i k, i < pre.length → k < pre.length → i ≠ k → bs i ≠ bs k
  vL : v.ownBlock ≠ some L
  vo : v.ownBlock ≠ some ob
  mem : ∀ j, S j ↔ (j < w0.heap.size ∨ j = L ∨ j = ob ∨ v.ownBlock = some j ∨ ∃ i, i < pre.length ∧ j = bs i)
def AqI (w0 : World) (L ob : Nat) (rec : Loop) (pre : List (List Int)) (S : Nat → Prop) (W : World) : Prop :=
  W.heap[L]? = some (.loop rec) ∧ (∀ j, j < w0.heap.size → W.heap[j]? = w0.heap[j]?) ∧ ∃ v bs cs, AqV w0 L ob W pre v bs cs S
theorem aq_loc {w0 : World} {L ob : Nat} {rec : Loop} (pre : List (List Int)) (S : Nat → Prop) (W W' : World) (h : AqI w0 L ob rec pre S W) (_ : ∀ j, S j → j < W.heap.size) (hs : ∀ j, S j → W'.heap[j]? = W.heap[j]?) : AqI w0 L ob rec pre S W' := by
  obtain ⟨q1, q2, v, bs, cs, a⟩ := h
  refine ⟨(hs L ((a.mem L).2 (.inr (.inl rfl)))).trans q1, fun j hj => (hs j ((a.mem j).2 (.inl hj))).trans (q2 j hj), v, bs, cs, own_same5 a.box (hs ob ((a.mem ob).2 (.inr (.inr (.inl rfl))))), row_same5 a.row (fun g hg => hs g ((a.mem g).2 (.inr (.inr (.inr (.inl hg)))))), fun i x hx => ?_, a.apart, a.vL, a.vo, a.mem⟩
  obtain ⟨⟨y1, ys, y2, y3⟩, r⟩ := a.inn i x hx
  have hi := (List.getElem?_eq_some_iff.1 hx).1
  have hb := hs (bs i) ((a.mem (bs i)).2 (.inr (.inr (.inr (.inr ⟨i, hi, rfl⟩)))))
  refine ⟨⟨fun j hj => ?_, ys, own_same5 y2 hb, y3⟩, r⟩
  rw [World.cell?_of_block (w := W) hb]
  exact y1 j hj
theorem aq_after {w0 : World} {L ob : Nat} {rec rb : Loop} {pre : List (List Int)} {S : Nat → Prop} {X X1 X2 X3 X4 : World} {x : List Int} {xb cap : Nat} {v v' : Value} {bs cs : Nat → Nat} (a : AqV w0 L ob X pre v bs cs S) (q2 : ∀ j, j < w0.heap.size → X.heap[j]? = w0.heap[j]?) (hlt : ∀ j, S j → j < X.heap.size)
    (hL : w0.heap.size ≤ L ∧ w0.heap.size ≤ ob ∧ ob ≠ L) (hx : xb < X.heap.size) (hnx : ¬ S xb) (hc1 : x.length ≤ cap) (hc2 : cap ≤ maxLen) (hy : YL X xb x) (hx1 : X.putObj L (.loop rb) = X1) (o : Obj) (hx2 : X1.alloc o = X2) (hg : X2.grownBy X3 v.ownBlock) (hat : v'.ownBlock = v.ownBlock ∨ v'.ownBlock = some X2.heap.size)
    (hr : X3.ownsRow w0.heap.size 33 1 v' (pre.length + 1) (rowS pre bs cs ++ [.slice (some ⟨xb, 0, none⟩) x.length cap])) (hx4 : X3.setCell ⟨ob, 0, none⟩ v' = X4) :
    X4.heap[L]? = some (.loop rb) ∧ (KeepP S X (X4.putObj L (.loop rec)) ∧ ∃ S', (∀ j, S' j → j < (X4.putObj L (.loop rec)).heap.size ∧ (S j ∨ j = xb ∨ X.heap.size ≤ j)) ∧ AqI w0 L ob rec (pre ++ [x]) S' (X4.putObj L (.loop rec))) := by
  have hSL : S L := (a.mem L).2 (.inr (.inl rfl))
  have hSo : S ob := (a.mem ob).2 (.inr (.inr (.inl rfl)))
  have hLX := hlt L hSL
  have hoX := hlt ob hSo
  have s1 : X1.heap.size = X.heap.size := by rw [← hx1]; simp
  have s2 : X2.heap.size = X.heap.size + 1 := by rw [← hx2, World.size_alloc, s1]
  have s3 := hg.size
  -- what turns
  let T : Nat → Prop := fun j => j = L ∨ j = ob ∨ v.ownBlock = some j
  have k1 : KeepP T X X1 := by rw [← hx1]; exact (KeepP.refl T X).put (.inl (.inl rfl)) _
  have k2 : KeepP T X X2 := by rw [← hx2]; exact k1.alloc o
  have k3' : KeepP T X2 X3 := ⟨hg.os, hg.tape, hg.output, hg.size, fun j hj hn => hg.block j hj (fun e => hn (.inr (.inr e.symm)))⟩
  have k3 : KeepP T X X3 := k2.same k3'
  have k4 : KeepP T X X4 := by rw [← hx4]; exact k3.set (.inl (.inr (.inl rfl))) 0 v'
  have k5 : KeepP T X (X4.putObj L (.loop rec)) := k4.put (.inl (.inl rfl)) _
  have k34 : KeepP (fun j => j = ob) X3 X4 := by rw [← hx4]; exact (KeepP.refl (fun j => j = ob) X3).set (S := fun j => j = ob) (.inl rfl) 0 v'
  have k35 : KeepP (fun j => j = ob ∨ j = L) X3 (X4.putObj L (.loop rec)) := (k34.mono (fun _ h => .inl h)).put (.inl (.inr rfl)) _
  have hTS : ∀ j, T j → S j := by
    rintro j (h | h | h)
    · rw [h]; exact hSL
    · rw [h]; exact hSo
    · exact (a.mem j).2 (.inr (.inr (.inr (.inl h))))
  have hvl := World.ownsRow.lt hr
  have hv'L : v'.ownBlock ≠ some L := by
    rcases hat with h | h
    · rw [h]; exact a.vL
    · rw [h]; intro e; simp only [Option.some.injEq] at e; omega
  have hv'o : v'.ownBlock ≠ some ob := by
    rcases hat with h | h
    · rw [h]; exact a.vo
    · rw [h]; intro e; simp only [Option.some.injEq] at e; omega
  have hbo : ∀ i, i < pre.length → S (bs i) := fun i hi => (a.mem (bs i)).2 (.inr (.inr (.inr (.inr ⟨i, hi, rfl⟩))))
  have s45 : (X4.putObj L (.loop rec)).heap.size = X3.heap.size := by rw [← hx4]; simp
  have hX1L : X1.heap[L]? = some (.loop rb) := by rw [← hx1]; exact World.putObj_heap_same hLX
  have hX2L : X2.heap[L]? = some (.loop rb) := by rw [← hx2, Below.heap_alloc _ _ _ (by omega)]; exact hX1L
  have hX3L : X3.heap[L]? = some (.loop rb) := by rw [hg.block L (by omega) (fun e => a.vL e.symm)]; exact hX2L
  have hX4L : X4.heap[L]? = some (.loop rb) := by rw [k34.block L (by omega) (fun e => hL.2.2 e.symm)]; exact hX3L
  have box3 : OwnArr X3 ob 22 [v] := by
    have b1 : OwnArr X1 ob 22 [v] := by rw [← hx1]; exact put_own5 a.box hL.2.2
    have b2 : OwnArr X2 ob 22 [v] := by rw [← hx2]; exact b1.alloc o
    exact own_same5 b2 (hg.block ob (by omega) (fun e => a.vo e.symm))
  have box5 : OwnArr (X4.putObj L (.loop rec)) ob 22 [v'] := by
    have b4 : OwnArr X4 ob 22 [v'] := by rw [← hx4]; exact box3.set 0 v'
    exact put_own5 b4 hL.2.2
  have hnT : ∀ i, i < pre.length → ∀ y, pre[i]? = some y → ¬ T (bs i) := by
    intro i hi y hy'
    obtain ⟨-, -, -, -, n1, n2, n3⟩ := a.inn i y hy'
    rintro (h | h | h)
    · exact n1 h
    · exact n2 h
    · exact n3 h
  have hxT : ¬ T xb := fun h => hnx (hTS xb h)
  refine ⟨hX4L, k5.mono hTS, fun j => j < w0.heap.size ∨ j = L ∨ j = ob ∨ v'.ownBlock = some j ∨ ∃ i, i < (pre ++ [x]).length ∧ j = (if i = pre.length then xb else bs i), fun j hj => ?_, World.putObj_heap_same (by have := k34.size; omega), fun j hj => ?_, v', (fun i => if i = pre.length then xb else bs i), (fun i => if i = pre.length then cap else cs i), box5, ?_, fun i y hy' => ?_, fun i k hi hk hne => ?_, hv'L, hv'o, fun _ => Iff.rfl⟩
  · rw [s45]
    rcases hj with h | h | h | h | ⟨i, hi, h⟩
    · have hS := (a.mem j).2 (.inl h)
      exact ⟨by have := hlt j hS; omega, .inl hS⟩
    · exact ⟨by omega, .inl (by rw [h]; exact hSL)⟩
    · exact ⟨by omega, .inl (by rw [h]; exact hSo)⟩
    · refine ⟨(hvl j h).2, ?_⟩
      rcases hat with h' | h'
      · exact .inl ((a.mem j).2 (.inr (.inr (.inr (.inl (by rw [← h']; exact h))))))
      · rw [h'] at h
        simp only [Option.some.injEq] at h
        exact .inr (.inr (by omega))
    · rw [List.length_append, List.length_singleton] at hi
      by_cases e : i = pre.length
      · rw [if_pos e] at h
        exact ⟨by omega, .inr (.inl h)⟩
      · rw [if_neg e] at h
        have hS := hbo i (by omega)
        exact ⟨by have := hlt _ hS; omega, .inl (by rw [h]; exact hS)⟩
  · have hS := (a.mem j).2 (.inl hj)
    have hjX := hlt j hS
    refine (k5.block j hjX ?_).trans (q2 j hj)
    rintro (h | h | h)
    · omega
    · omega
    · have := (World.ownsRow.lt a.row j h).1
      omega
  · rw [rowS_snoc, List.length_append, List.length_singleton]
    refine row_same5 hr (fun g hg' => k35.block g (hvl g hg').2 ?_)
    rintro (h | h)
    · exact hv'o (by rw [hg', h])
    · exact hv'L (by rw [hg', h])
  · by_cases e : i = pre.length
    · subst e
      rw [List.getElem?_append_right (Nat.le_refl _), Nat.sub_self] at hy'
      simp only [List.getElem?_cons_zero, Option.some.injEq] at hy'
      subst hy'
      simp only [if_true]
      refine ⟨hy.keep5 k5 hxT, hc1, hc2, ?_, fun h => hxT (.inl h), fun h => hxT (.inr (.inl h)), fun h => ?_⟩
      · rcases Nat.lt_or_ge xb w0.heap.size with h | h
        · exact absurd ((a.mem xb).2 (.inl h)) hnx
        · exact h
      · rcases hat with h' | h'
        · exact hxT (.inr (.inr (by rw [← h']; exact h)))
        · rw [h'] at h
          simp only [Option.some.injEq] at h
          omega
    · have hi : i < pre.length := by
        have := (List.getElem?_eq_some_iff.1 hy').1
        rw [List.length_append, List.length_singleton] at this
        omega
      rw [List.getElem?_append_left hi] at hy'
      obtain ⟨n0, n1, n2, n3, n4, n5, n6⟩ := a.inn i y hy'
      simp only [if_neg e]
      refine ⟨n0.keep5 k5 (hnT i hi y hy'), n1, n2, n3, n4, n5, fun h => ?_⟩
      rcases hat with h' | h'
      · exact n6 (by rw [← h']; exact h)
      · rw [h'] at h
        simp only [Option.some.injEq] at h
        have := hlt _ (hbo i hi)
        omega
  · rw [List.length_append, List.length_singleton] at hi hk
    by_cases e1 : i = pre.length
    · rw [if_pos e1, if_neg (by omega)]
      intro h
      exact hnx (by rw [h]; exact hbo k (by omega))
    · by_cases e2 : k = pre.length
      · rw [if_neg e1, if_pos e2]
        intro h
        exact hnx (by rw [← h]; exact hbo i (by omega))
      · rw [if_neg e1, if_neg e2]
        exact a.apart i k (by omega) (by omega) hne
end Go.Proofs.Ytkbpfjhikabbmaa
