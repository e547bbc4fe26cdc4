/- slices.Insert of one mark into marks whose row is full: in memory of the call's own. -/
import Derived.Test.YtefbepebgmalpaaConcat
import Derived.Lib.AppendZerosOnto
import Derived.Laws.CopyOwn
import Derived.IntWalk
namespace Go.Proofs.Ytefbepebgmalpaa
open Go.RowKit

theorem ins_splice {α : Type} (cur X Y : List α) (t : α) (p : Nat) (hX : cur.take p = X) (hl : X.length = p) : (splice (splice cur p [t]) (p + 1) Y).take (p + 1 + Y.length) = X ++ (t :: Y) := by
  unfold splice
  rw [hX]
  have e : (X ++ ([t] ++ cur.drop (p + [t].length))).take (p + 1) = X ++ [t] := by
    rw [← List.append_assoc]
    exact List.take_left' (by simp [hl])
  rw [e]
  have e2 : ∀ Z, X ++ [t] ++ (Y ++ Z) = (X ++ (t :: Y)) ++ Z := fun Z => by simp
  rw [e2]
  exact List.take_left' (by simp [hl]; omega)
theorem bv_take (l : List Bool) (k : Nat) : (bv l).take k = bv (l.take k) := by simp [bv, List.map_take]
theorem bv_drop (l : List Bool) (k : Nat) : (bv l).drop k = bv (l.drop k) := by simp [bv, List.map_drop]
/-- the first places of a block of the call's own -/
theorem rd_take {B : Nat} {w : World} {g : Nat} {ys : List Value} {l : List Bool} (h : OwnArr w g 4 ys) (hB : B ≤ g) (ht : ys.take l.length = bv l) : Rd B w.heap.size w (some ⟨g, 0, none⟩) (bv l) := by
  have := Rd.of_own h hB h.lt (Nat.le_refl _) l.length
  rwa [ht] at this

set_option maxRecDepth 4000 in
set_option maxHeartbeats 4000000 in
theorem insert_end (g n vb : Nat) (S : Nat → Bool) (t : Bool) (w : World) (ho : OwnArr w g 4 (bv (bl n S))) (hv : OwnArr w vb 4 [.bool t]) (hn1 : 1 ≤ n) (hn : n ≤ 24) :
    Calls Try.prog 48 #[.slice (some ⟨g, 0, none⟩) n n, .int .i64 n, .slice (some ⟨vb, 0, none⟩) 1 1] w fun e w' => ∃ q c, e = .returned (.slice (some ⟨q, 0, none⟩) (n + 1) c) ∧ Rd w.heap.size w'.heap.size w' (some ⟨q, 0, none⟩) (bv (bl (n + 1) (insS S n t))) ∧ Below w.heap.size w w' := by
  obtain ⟨i0, hi, hz0, hz1, hz2⟩ := info_parts infoBool
  have hr := fun ty => run_append_grow (P := Try.prog) w 46 ty 4 i0 (.bool false) Try.underlying46 hi hz0 ⟨g, 0, none⟩ n n (bv (bl n S)) (by rw [bv_length, bl_length, hz1]; omega) (fun j v hj => by rw [Addr.add_lit, Nat.zero_add, ho.cell]; exact hj) ⟨vb, 0, none⟩ 1 1 [.bool t] (by rw [hz1]; rfl) (fun j v hj => by rw [Addr.add_lit, Nat.zero_add, hv.cell]; exact hj) (by omega) (by omega) (by rw [hz2]; exact growslice_fits (by omega) (by omega))
  obtain ⟨C, hC⟩ : ∃ C, grownCap w (n + 1) n 4 = C := ⟨_, rfl⟩
  rw [hC] at hr
  obtain ⟨Z, hZ⟩ : ∃ Z, (Builtin.zeroCells (Value.bool false).cells (C - (n + 1))) = Z := ⟨_, rfl⟩
  rw [hZ] at hr
  obtain ⟨W, hW⟩ : ∃ W, w.drew.alloc (.cells ((bv (bl n S)).toArray ++ [Value.bool t].toArray ++ Z) 4) = W := ⟨_, rfl⟩
  have HR : Hid (∀ ty, (Builtin.append_ #[46, 46] ty #[.slice (some ⟨g, 0, none⟩) n n, .slice (some ⟨vb, 0, none⟩) 1 1]).run Try.prog w = .ok (.slice (some ⟨w.heap.size, 0, none⟩) (n + 1) C) W) := by
    show ∀ _, _
    intro ty
    rw [← hW]; exact hr ty
  have HB : Hid (Below w.heap.size w W) := by rw [← hW]; exact ((Below.refl _ w).drew).alloc (Nat.le_refl _) _
  have HA : Hid (Rd w.heap.size W.heap.size W (some ⟨w.heap.size, 0, none⟩) (bv (bl (n + 1) (insS S n t)))) := by
    show Rd _ _ _ _ _
    have h1 : OwnArr W w.heap.size 4 (bv (bl n S) ++ [.bool t] ++ Z.toList) := by
      rw [← hW]
      exact OwnArr.mk' (w := w.drew) (by simp) rfl
    refine rd_take h1 (Nat.le_refl _) ?_
    have e1 : (bl n S).take n = bl n S := List.take_of_length_le (by rw [bl_length]; exact Nat.le_refl _)
    have e2 : (bl n S).drop n = [] := List.drop_eq_nil_of_le (by rw [bl_length]; exact Nat.le_refl _)
    rw [bl_length, ← bl_insert (Nat.le_refl n), e1, e2, bv_append]
    exact List.take_left' (by rw [List.length_append, bv_length, bl_length]; rfl)
  have k1 : (0 : Int) ≤ (n : Int) := by omega
  clear hr ho hv hi hz0 hz1 hz2 hC hZ hW
  go_enter Try.func48, Try.ntmps48
  go_wp2_with (at_builtin; refine Lib.wpList_append_run _ rfl _ _ _ _ rfl _ _ rfl rfl _ _ (HR.out _) ?_)
  all_goals
    go_ret
    exact ⟨_, _, rfl, HA.out, HB.out⟩

set_option maxRecDepth 4000 in
set_option maxHeartbeats 800000 in
theorem insert_mid (g n vb p : Nat) (S : Nat → Bool) (t : Bool) (w : World) (ho : OwnArr w g 4 (bv (bl n S))) (hv : OwnArr w vb 4 [.bool t]) (hp : p < n) (hn : n ≤ 24) :
    Calls Try.prog 48 #[.slice (some ⟨g, 0, none⟩) n n, .int .i64 p, .slice (some ⟨vb, 0, none⟩) 1 1] w fun e w' => ∃ q c, e = .returned (.slice (some ⟨q, 0, none⟩) (n + 1) c) ∧ Rd w.heap.size w'.heap.size w' (some ⟨q, 0, none⟩) (bv (bl (n + 1) (insS S p t))) ∧ Below w.heap.size w w' := by
  obtain ⟨i0, hi, hz0, hz1, hz2⟩ := info_parts infoBool
  have hsz : (Try.prog.info? 4).map (·.size) = some 1 := by rw [hi]; simp [hz1]
  have hglt := ho.lt
  have hvlt := hv.lt
  have hold : (Builtin.firstCells i0.size p (.slice (some ⟨g, 0, none⟩) p n)).run Try.prog w.drew = .ok (bv ((bl n S).take p)).toArray w.drew := by
    rw [hz1]
    refine run_firstCells_some w.drew 1 p ⟨g, 0, none⟩ p n _ (by rw [bv_length, List.length_take, bl_length]; omega) (fun j v hj => ?_)
    rw [Addr.add_lit, Nat.zero_add]
    rw [← bv_take, List.getElem?_take] at hj
    split at hj
    · exact ((ho.drew).cell j).trans hj
    · cases hj
  have hik : p + (n + 1 - p) = n + 1 := by omega
  have hr := fun ty => Lib.run_append_grow_zeros w 46 3 ty 4 i0 (.bool false) .i64 .i64 Try.underlying46 Try.underlying3 hi hz0 (some ⟨g, 0, none⟩) p n _ hold (n + 1 - p) (by omega) (by omega) (by omega) (by omega) (by rw [hz2]; omega) (by rw [hz2, hik]; exact growslice_fits (by omega) (by omega))
  rw [hik] at hr
  have hkk : ((n + 1 - p : Nat) : Int) = (n : Int) + 1 - (p : Int) := by omega
  rw [hkk] at hr
  have hge := grownCap_ge w (n + 1) n 4
  have hle := grownCap_le_maxLen w (n + 1) n 4 (by unfold maxLen; omega)
  obtain ⟨C, hC⟩ : ∃ C, grownCap w (n + 1) n 4 = C := ⟨_, rfl⟩
  rw [hC] at hr hge hle
  obtain ⟨cur, hcur⟩ : ∃ cur : List Value, bv ((bl n S).take p) ++ (Builtin.zeroCells (Value.bool false).cells (n + 1 - p)).toList ++ (Builtin.zeroCells (Value.bool false).cells (C - (n + 1))).toList = cur := ⟨_, rfl⟩
  have hcl : n + 1 ≤ cur.length := by
    rw [← hcur]
    simp only [List.length_append, Array.length_toList, size_zeroCells, bv_length, List.length_take, bl_length]
    show n + 1 ≤ min p n + (n + 1 - p) * 1 + (C - (n + 1)) * 1
    omega
  have hct : cur.take p = bv ((bl n S).take p) := by
    rw [← hcur, List.append_assoc]
    exact List.take_left' (by rw [bv_length, List.length_take, bl_length]; omega)
  obtain ⟨W, hW⟩ : ∃ W, w.drew.alloc (.cells ((bv ((bl n S).take p)).toArray ++ Builtin.zeroCells (Value.bool false).cells (n + 1 - p) ++ Builtin.zeroCells (Value.bool false).cells (C - (n + 1))) 4) = W := ⟨_, rfl⟩
  have HR : Hid (∀ ty, (Builtin.append_ #[46, 3] ty #[.slice (some ⟨g, 0, none⟩) p n, .int .i64 ((n : Int) + 1 - (p : Int))]).run Try.prog w = .ok (.slice (some ⟨w.heap.size, 0, none⟩) (n + 1) C) W) := by
    show ∀ _, _
    intro ty
    rw [← hW]; exact hr ty
  have HB : Hid (Below w.heap.size w W) := by rw [← hW]; exact ((Below.refl _ w).drew).alloc (Nat.le_refl _) _
  have HA : Hid (W.heap[w.heap.size]? = some (.cells cur.toArray 4 (0, 0))) := by
    show _ = _
    rw [← hW, ← hcur]
    have := OwnArr.mk' (w := w.drew) (n := w.heap.size) (e := 4) (C := (bv ((bl n S).take p)).toArray ++ Builtin.zeroCells (Value.bool false).cells (n + 1 - p) ++ Builtin.zeroCells (Value.bool false).cells (C - (n + 1))) (xs := bv ((bl n S).take p) ++ (Builtin.zeroCells (Value.bool false).cells (n + 1 - p)).toList ++ (Builtin.zeroCells (Value.bool false).cells (C - (n + 1))).toList) (by apply Array.ext'; simp) rfl
    exact this
  have HV : Hid (∀ w', Below w.heap.size w w' → ∀ j v, [Value.bool t][j]? = some v → w'.cell? ((⟨vb, 0, none⟩ : Addr).add j) = some v) := by
    show ∀ _, _
    intro w' hb j v hj
    rw [Addr.add_lit, Nat.zero_add, (hv.below hb hvlt).cell]; exact hj
  have HG : Hid (∀ w', Below w.heap.size w w' → ∀ j v, (bv ((bl n S).drop p))[j]? = some v → w'.cell? ((⟨g, p, none⟩ : Addr).add j) = some v) := by
    show ∀ _, _
    intro w' hb j v hj
    rw [← bv_drop, List.getElem?_drop] at hj
    rw [Addr.add_lit, (ho.below hb hglt).cell]; exact hj
  obtain ⟨D, hD⟩ : ∃ D, bv ((bl n S).drop p) = D := ⟨_, rfl⟩
  have hDl : D.length = n - p := by rw [← hD, bv_length, List.length_drop, bl_length]
  have hD1 : ∀ v ∈ D, v.oneCell' = true := by rw [← hD]; exact bv_one _
  rw [hD] at HG
  have HF : Hid ((splice (splice cur p [.bool t]) (p + 1) D).take (n + 1) = bv (bl (n + 1) (insS S p t))) := by
    show _ = _
    have := ins_splice cur _ D (.bool t) p hct (by rw [bv_length, List.length_take, bl_length]; omega)
    rw [hDl, show p + 1 + (n - p) = n + 1 by omega] at this
    rw [this, ← hD, ← bl_insert (by omega : p ≤ n)]
    simp [bv]
  have k0 : (0 : Int) ≤ (p : Int) := by omega
  have k1 : (p : Int) < (n : Int) := by omega
  have k2 : ¬ (p : Int) = (n : Int) := by omega
  have k2' : ¬ p = n := by omega
  have k3 : (p : Int) ≤ (C : Int) := by omega
  have k4 : (n : Int) + 1 ≤ (C : Int) := by omega
  have k5 : (p : Int) + 1 ≤ (C : Int) := by omega
  have k6 : (p : Int) + 1 ≤ (n : Int) + 1 := by omega
  have k7 : (p : Int) ≤ (n : Int) + 1 := by omega
  have k8 : ¬ C = p := by omega
  have k9 : ¬ C = p + 1 := by omega
  have k10 : ¬ n = p := by omega
  have e1 : IntKind.i64.wrap ((p : Int) + 1) = (p : Int) + 1 := IntWalk.i64_in _ (by omega)
  have e2 : ((p : Int) + 1).toNat = p + 1 := by omega
  have k11 : (0 : Int) ≤ (p : Int) + 1 := by omega
  have k12 : (p : Int) ≤ (n : Int) := by omega
  have hn' : (n : Int) ≤ 24 := by omega
  have hd1 : n + 1 - (p + 1) = n - p := by omega
  have hcl2 : (splice cur p [Value.bool t]).length = cur.length := length_splice _ _ _ (by simp; omega)
  clear hr ho hv hi hz0 hz1 hz2 hC hW hold hcur hge hct hD hik hkk
  go_enter Try.func48, Try.ntmps48
  go_wp2_with (first
    | (at_builtin; refine Lib.wpList_append_run _ rfl _ _ _ _ rfl _ _ rfl rfl _ _ (HR.out _) ?_)
    | (refine wpList_copy_splice rfl (.tmp 43) (.tmp 44) 46 46 rfl 4 Try.underlying46 hsz _ _ _ _ _ _ rfl rfl w.heap.size p cur 4 HA.out [.bool t] (by show (1 : Nat) = min 1 (n + 1 - p); omega) (fun _ => ⟨rfl, ⟨vb, 0, none⟩, rfl, HV.out _ HB.out⟩) (by simp only [List.length_singleton]; omega) (by intro v hv; simp at hv; subst hv; rfl) w.heap.size w HB.out (Nat.le_refl _) ?_; intro W2 hA2 hB2))
  have HB2 := Lib.hid hB2.drew
  have HA2 : Hid (W2.drew.heap[w.heap.size]? = some (.cells (splice cur p [Value.bool t]).toArray 4 (0, 0))) := hA2
  clear hA2 hB2 HA HB HR
  go_region_law (refine step_copy_splice rfl (.tmp 50) (.tmp 53) 46 46 rfl 4 Try.underlying46 hsz (some ⟨w.heap.size, p + 1, none⟩) (some ⟨g, p, none⟩) (n - p) (C - (p + 1)) (n - p) (n - p) (by simp [Act.eval, Act.put]) (by simp [Act.eval, Act.put]) w.heap.size (p + 1) (splice cur p [Value.bool t]) 4 HA2.out D (by rw [hDl]; show n - p = min (n - p) _; omega) (fun _ => ⟨rfl, ⟨g, p, none⟩, rfl, HG.out _ HB2.out⟩) (by rw [hcl2, hDl]; omega) hD1 w.heap.size w HB2.out (Nat.le_refl _) ?_; intro W3 hA3 hB3)
  have HR3 : Hid (Rd w.heap.size W3.heap.size W3 (some ⟨w.heap.size, 0, none⟩) (bv (bl (n + 1) (insS S p t)))) := by
    show Rd _ _ _ _ _
    refine rd_take (show OwnArr W3 w.heap.size 4 (splice (splice cur p [Value.bool t]) (p + 1) D) from hA3.out) (Nat.le_refl _) ?_
    rw [bl_length]; exact HF.out
  have HB3 := Lib.hid hB3
  clear hA3 hB3 HA2 HB2
  go_wp2_with fail
  go_ret
  exact ⟨_, _, rfl, HR3.out, HB3.out⟩
end Go.Proofs.Ytefbepebgmalpaa
