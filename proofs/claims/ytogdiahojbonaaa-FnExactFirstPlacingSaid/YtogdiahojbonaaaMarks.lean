/- impl.marksOf: which seats of a valid Row are taken, in memory of the call's own. -/
import Derived.Test.YtogdiahojbonaaaOut
namespace Go.Proofs.Ytogdiahojbonaaa
open Go.RowKit

/-- marks as values -/
def bv (l : List Bool) : List Value := l.map Value.bool
theorem bv_length (l : List Bool) : (bv l).length = l.length := by simp [bv]
theorem bv_get {l : List Bool} {i : Nat} (h : i < l.length) : (bv l)[i]? = some (.bool (l[i]?.getD false)) := by simp [bv, h]
theorem bv_set (l : List Bool) (i : Nat) (b : Bool) : (bv l).set i (.bool b) = bv (l.set i b) := by simp [bv, List.map_set]
theorem infoBool : (Try.prog.info? 4).map (fun i => (i.zero, i.size, i.bytes)) = some (some (.bool false), 1, 1) := by kernel_rfl

theorem take_mem_succ {l : List Nat} {j : Nat} (h : j < l.length) (i : Nat) : decide (i ∈ l.take (j + 1)) = if i = l[j]?.getD 0 then true else decide (i ∈ l.take j) := by
  rw [List.take_succ_eq_append_getElem h, List.getElem?_eq_getElem h]
  show decide (i ∈ l.take j ++ [l[j]]) = if i = l[j] then true else decide (i ∈ l.take j)
  by_cases e : i = l[j]
  · rw [if_pos e]
    exact decide_eq_true (List.mem_append.2 (.inr (List.mem_singleton.2 e)))
  · rw [if_neg e]
    exact decide_eq_decide.2 ⟨fun h => (List.mem_append.1 h).resolve_right (fun h => e (List.mem_singleton.1 h)), fun h => List.mem_append.2 (.inl h)⟩

set_option maxRecDepth 4000 in
set_option maxHeartbeats 1000000 in
theorem marksOf_any (n : Nat) (ring : Bool) (p : Option Addr) (cap : Nat) (S : Nat → Bool) (w : World) (lo hi : Nat) (hin : Ri lo hi w p (ints (tk n S))) (hn : n ≤ 24) :
    Calls Try.prog 58 #[rowV n ring p (ints (tk n S)).length cap] w fun e w' => ∃ g, e = .returned (.slice (some ⟨g, 0, none⟩) n n) ∧ w.heap.size ≤ g ∧ OwnArr w' g 4 (bv (bl n S)) ∧ Below w.heap.size w w' := by
  have hlen := ints_tk_len n S
  have htop := hin.top
  have hmk0 := @run_make_row' Try.prog 72 4 (.bool false) 1 Try.underlying72 infoBool rfl .i64 .i64 n (by omega) (by omega)
  have hrep : madeCells #[Value.bool false] n = (bv (bl n fun i => decide (i ∈ (tk n S).take 0))).toArray := by
    rw [madeCells_one]
    congr 1
    apply List.ext_getElem?
    intro i
    rcases Nat.lt_or_ge i n with h | h
    · rw [bv_get (by rw [bl_length]; exact h), bl_get h]
      simp [h]
    · rw [List.getElem?_eq_none (by simpa using h), List.getElem?_eq_none (by rw [bv_length, bl_length]; exact h)]
  rw [hrep] at hmk0
  have hb := box_below w n ring p (ints (tk n S)).length cap 28
  have hI := hin.bel hb
  obtain ⟨m, hm⟩ : ∃ m, (ints (tk n S)).length = m := ⟨_, rfl⟩
  have hml : m = (tk n S).length := by rw [← hm, ints_length]
  rw [hm] at hb hI ⊢
  obtain ⟨w0, hw0⟩ : ∃ w0, w0 = w.alloc (.cells #[Value.int .i64 n, Value.bool ring, Value.slice p m cap] 28) := ⟨_, rfl⟩
  rw [← hw0] at hb hI
  have hs0 : w0.heap.size = w.heap.size + 1 := by rw [hw0]; simp
  have hX : OwnArr w0 w.heap.size 28 [.int .i64 n, .bool ring, .slice p m cap] := by rw [hw0]; exact OwnArr.made w _ [_, _, _]
  obtain ⟨w1, hw1⟩ : ∃ w1, w1 = w0.alloc (.cells (bv (bl n fun i => decide (i ∈ (tk n S).take 0))).toArray 4) := ⟨_, rfl⟩
  have hO1 : OwnArr w1 w0.heap.size 4 (bv (bl n fun i => decide (i ∈ (tk n S).take 0))) := by rw [hw1]; exact OwnArr.made _ _ _
  have hB1 : Below w.heap.size w w1 := by rw [hw1]; exact hb.alloc hb.size _
  have hX1 : OwnArr w1 w.heap.size 28 [.int .i64 n, .bool ring, .slice p m cap] := by rw [hw1]; exact hX.alloc _
  have hI1 : Ri lo hi w1 p (ints (tk n S)) := by rw [hw1]; exact hI.bel ((Below.refl _ _).alloc (Nat.le_refl _) _)
  have hmk := hmk0 w0
  rw [← hw1] at hmk
  rw [hs0] at hmk hO1
  have HO := Lib.hid hO1
  have HB := Lib.hid hB1
  have HX := Lib.hid hX1
  have HI := Lib.hid hI1
  have HT := Lib.hid (show ∀ x ∈ tk n S, x < n ∧ S x = true from fun x hx => mem_tk.1 hx)
  clear hmk0 hrep hb hI hX hO1 hB1 hX1 hI1 hw1 hin hlen hs0
  subst hw0
  obtain ⟨l, hl⟩ : ∃ l, tk n S = l := ⟨_, rfl⟩
  rw [hl] at HO HI HT hml
  have HF : Hid (bl n (fun i => decide (i ∈ l)) = bl n S) := by
    show _ = _
    apply bl_congr
    intro k hk
    rw [← hl]
    cases h : S k with
    | true => simpa using mem_tk.2 ⟨hk, h⟩
    | false =>
      simp only [decide_eq_false_iff_not]
      intro hm'
      rw [(mem_tk.1 hm').2] at h
      cases h
  have hm24 : m ≤ 24 := by have := tk_length_le n S; rw [hl] at this; omega
  clear hl hm
  have HM := Lib.hid hml
  clear hml
  go_enter Try.func58, Try.ntmps58
  obtain ⟨c0, c1, c2, -⟩ := HX.out.three
  go_wp2_with fail
  clear c0 c1 c2 hmk
  go_loopw [5, 12] (fun _ i wr => ∃ (j : Nat), j ≤ m ∧ i = .int .i64 j ∧ Hid (OwnArr wr (w.heap.size + 1) 4 (bv (bl n fun i => decide (i ∈ l.take j)))) ∧ Hid (Below w.heap.size w wr) ∧ Hid (Ri lo hi wr p (ints l))) (fun _ i _ => m - (intOf i).toNat)
  case atStart => exact ⟨0, Nat.zero_le _, rfl, HO, HB, HI⟩
  case round =>
    obtain ⟨j, hj, rfl, HO2, HB2, HI2⟩ := hrel
    clear HO HB HI
    by_cases hlt : j < m
    · have hjl : j < l.length := by have := HM.out; omega
      obtain ⟨b, off, rfl, -, -, hb, hc⟩ := HI2.out.int (by rw [ints_length]; omega)
      have h0 := hc j (by rw [ints_length]; exact hjl)
      rw [ints_get hjl] at h0
      have hxn := (HT.out _ (nat_mem hjl)).1
      have hst := take_mem_succ hjl
      obtain ⟨x, hx⟩ : ∃ x, l[j]?.getD 0 = x := ⟨_, rfl⟩
      rw [hx] at h0 hxn hst
      have hold := HO2.out.cell x
      rw [bv_get (by rw [bl_length]; exact hxn)] at hold
      have hfree := HO2.out.free x
      have hset := HO2.out.set x (.bool true)
      rw [bv_set, bl_set] at hset
      have hcong : bl n (fun i => if i = x then true else decide (i ∈ l.take j)) = bl n (fun i => decide (i ∈ l.take (j + 1))) := bl_congr fun k _ => (hst k).symm
      rw [hcong] at hset
      have HO3 := Lib.hid hset
      have HB3 := Lib.hid (HB2.out.setCell (p := ⟨w.heap.size + 1, x, none⟩) (by show _ ≤ w.heap.size + 1; omega) (.bool true))
      obtain ⟨y, hy⟩ : ∃ y, ((bl n fun i => decide (i ∈ l.take j))[x]?.getD false) = y := ⟨_, rfl⟩
      rw [hy] at hold
      have HI3 := Lib.hid (HI2.out.below ((Below.refl (w.heap.size + 1) wr).setCell (p := ⟨w.heap.size + 1, x, none⟩) (Nat.le_refl _) (.bool true)) (by omega))
      clear hx hst hset hcong hy hc
      have hj1 : (j : Int) < (m : Int) := by omega
      have hx1 : (x : Int) < (n : Int) := by omega
      go_wp2_with fail
      go_roundw
      case rel => exact ⟨j + 1, by omega, by go_num, HO3, HB3, HI3⟩
      case measure => simp [intOf]; omega
    · have hjm : j = m := by omega
      have HE : Hid (OwnArr wr (w.heap.size + 1) 4 (bv (bl n S))) := by
        show OwnArr _ _ _ _
        have := HO2.out
        rw [hjm, HM.out, List.take_of_length_le (Nat.le_refl _), HF.out] at this
        exact this
      go_wp2_with fail
      go_ret
      exact ⟨w.heap.size + 1, rfl, by omega, HE.out, HB2.out⟩
end Go.Proofs.Ytogdiahojbonaaa
