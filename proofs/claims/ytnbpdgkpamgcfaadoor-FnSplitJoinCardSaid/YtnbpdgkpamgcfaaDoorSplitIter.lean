/- The iterator that strings.SplitSeq hands back, at a separator of one byte: the pieces come in their order. It keeps what is left in a cell of its own. -/
import Derived.RangeFuncNested
import Derived.RangeFuncBound
import Derived.RangeFuncCalls
import Derived.RangeFuncLeaves
import Derived.Shelf.Abstract
import Derived.Shelf.RegionOpen
import Derived.OwnWalkIn
import Derived.TacticsInMore
import Derived.LoopNIn
import Derived.LoopIn
import Derived.Test.YtnbpdgkpamgcfaaDoorSplitSpec
import Derived.Test.YtnbpdgkpamgcfaaDoorShelfB
namespace Go.Proofs.YtnbpdgkpamgcfaaDoor
open Go.RowKit Go.Shelf
attribute [local go_sem] Oper.semAt_some

/-- the size of the string that block b holds -/
def strLen (w : World) (b : Nat) : Nat := match w.cell? ⟨b, 0, none⟩ with | some (.string r) => r.size | _ => 0
theorem strLen_eq {w : World} {b : Nat} {r : ByteArray} (h : w.cell? ⟨b, 0, none⟩ = some (.string r)) : strLen w b = r.size := by simp [strLen, h]

theorem cut_data (r : ByteArray) (k : Nat) (c : UInt8) (h2 : r.data.toList = r.data.toList.take k ++ c :: r.data.toList.drop (k + 1)) (h3 : c ∉ r.data.toList.take k) :
    spAll c r.data.toList = (r.extract 0 k).data.toList :: spAll c (r.extract (k + 1) r.size).data.toList := by
  have e1 : (r.extract 0 k).data.toList = r.data.toList.take k := by rw [Lib.extract_data]; simp
  have e2 : (r.extract (k + 1) r.size).data.toList = r.data.toList.drop (k + 1) := by
    rw [Lib.extract_data, List.take_of_length_le (by rw [List.length_drop, ← Lib.size_eq]; omega)]
  rw [e1, e2, ← spAll_cut c _ _ h3, ← h2]

set_option maxRecDepth 100000 in
set_option maxHeartbeats 1000000 in
theorem split_iter (n l : Nat) (c : UInt8) (bs bp bv : Nat) (J : List (List UInt8) → World → Prop)
    (hset : ∀ pre W v, J pre W → J pre (W.setCell ⟨bs, 0, none⟩ v))
    (hbox : ∀ pre W, J pre W → W.cell? ⟨bp, 0, none⟩ = some (.string ⟨#[c]⟩) ∧ W.cell? ⟨bv, 0, none⟩ = some (.int .i64 0))
    (s : ByteArray) (hs : s.size ≤ 4000)
    (hY : ∀ pre (x r : ByteArray) W, J pre W → Boxed W bs 9 (.string r) → x.size ≤ s.size → pre.length ≤ s.size → YieldAt Fence.wide (n - 1) Tryd.prog l #[.string x] W fun e W' => e = .returned (.bool true) ∧ J (pre ++ [x.data.toList]) W' ∧ Boxed W' bs 9 (.string r))
    (W : World) (h0 : J [] W) (hb : Boxed W bs 9 (.string s)) (hn : 1 ≤ n) :
    CallsIn Fence.wide n Tryd.prog 67 #[.func (.yield l) #[] #[], .pointer (some ⟨bp, 0, none⟩), .pointer (some ⟨bs, 0, none⟩), .pointer (some ⟨bv, 0, none⟩)] W fun e W' => (∃ v, e = .returned v) ∧ J (spAll c s.data.toList) W' := by
  refine callsIn_of_wp Tryd.func67 rfl trivial ?_ rfl
  simp only [Tryd.ntmps67, List.size_toArray, List.length_cons, List.length_nil, Nat.reduceAdd, Nat.reduceSub, Array.replicate_succ, Array.replicate_zero, List.push_toArray, List.append_toArray, List.nil_append, List.cons_append]
  have hc1 := (hbox _ _ h0).1
  gi_wp2
  gi_loopw [7, 8] (fun _ _ wr => ∃ (pre : List (List UInt8)) (r : ByteArray), J pre wr ∧ Boxed wr bs 9 (.string r) ∧ r.size + pre.length ≤ s.size ∧ Hid (spAll c s.data.toList = pre ++ spAll c r.data.toList))
    (fun _ _ wr => strLen wr bs)
  case atStart =>
    exact ⟨[], s, h0, hb, by simp, rfl⟩
  case round =>
    obtain ⟨pre, r, hJ, hbr, hle, HS⟩ := hrel
    have hcs := hbr.cell
    have hcp := (hbox _ _ hJ).1
    have hcv := (hbox _ _ hJ).2
    by_cases hi : 0 ≤ Lib.indexByte r.data.toList c
    · obtain ⟨k, hk, hlt, hsp, hnot⟩ := index_split c _ hi
      have hks : k < r.size := by rw [Lib.size_eq]; exact hlt
      have HC : Hid (spAll c r.data.toList = (r.extract 0 k).data.toList :: spAll c (r.extract (k + 1) r.size).data.toList) := cut_data r k c hsp hnot
      clear hi hsp hnot
      obtain ⟨fn, tmps, assign, body, hy, hR⟩ := hY pre (r.extract 0 k) r wr hJ hbr (by simp; omega) (by omega)
      gi_wp2_with (refine ⟨trivial, ?_⟩; gi_at_call 57; refine (callsIn_wide.2 (Tryd.strings_Index_one _ _ _)).mono ?_; rintro e w' ⟨rfl, rfl⟩; rw [hk])
      refine hR.mono ?_
      rintro e W3 ⟨rfl, hJ3, hb3⟩
      have hcs3 := hb3.cell
      have hfs3 := hb3.frozen
      have hcp3 := (hbox _ _ hJ3).1
      gi_wp2
      go_roundw
      case rel => exact ⟨_, r.extract (k + 1) r.size, hset _ _ _ hJ3, hb3.set _, by simp; omega, by show _ = _; rw [HS.out, HC.out]; simp⟩
      case measure => rw [strLen_eq (hb3.set _).cell, strLen_eq hcs]; simp; omega
    · have hm : Lib.indexByte r.data.toList c = -1 := by have := indexByte_ge r.data.toList c; omega
      have HP : Hid (spAll c r.data.toList = [r.data.toList]) := spAll_plain c _ (index_none c _ hi)
      obtain ⟨fn, tmps, assign, body, hy, hR⟩ := hY pre r r wr hJ hbr (by omega) (by omega)
      gi_wp2_with (refine ⟨trivial, ?_⟩; gi_at_call 57; refine (callsIn_wide.2 (Tryd.strings_Index_one _ _ _)).mono ?_; rintro e w' ⟨rfl, rfl⟩; rw [hm])
      refine hR.mono ?_
      rintro e W3 ⟨rfl, hJ3, hb3⟩
      gi_wp2
      go_end0
      refine ⟨⟨_, rfl⟩, ?_⟩
      rw [HS.out, HP.out]
      exact hJ3
end Go.Proofs.YtnbpdgkpamgcfaaDoor
