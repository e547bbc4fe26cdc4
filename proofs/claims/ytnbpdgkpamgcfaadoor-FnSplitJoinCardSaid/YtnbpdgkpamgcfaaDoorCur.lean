/- The draws' cursor: next gives a byte, pick a number below its bound; nothing but the cursor's own block turns. -/
import Derived.Test.YtnbpdgkpamgcfaaDoorOwnArr
import Derived.Test.YtnbpdgkpamgcfaaDoorSum
import Derived.Deep.QuietTactic
import Derived.BigQuiet
import Derived.IntWalk
namespace Go.Proofs.YtnbpdgkpamgcfaaDoor
open Go.RowKit

/-- the places from p on hold the bytes bs -/
structure InBytes (w : World) (p : Option Addr) (bs : List UInt8) : Prop where
  len : bs.length ≤ 9223372036854775807
  cells : 0 < bs.length → ∃ b off, p = some ⟨b, off, none⟩ ∧ b < w.heap.size ∧ ∀ i, i < bs.length → w.cell? ⟨b, off + i, none⟩ = some (.int .u8 ((bs[i]?.getD 0).toNat : Int))
theorem InBytes.below {w w' : World} {p : Option Addr} {bs : List UInt8} (h : InBytes w p bs) (hb : Below w.heap.size w w') : InBytes w' p bs := by
  refine ⟨h.len, fun h0 => ?_⟩
  obtain ⟨b, off, e, hlt, hc⟩ := h.cells h0
  exact ⟨b, off, e, Nat.lt_of_lt_of_le hlt hb.size, fun i hi => (hb.cell (p := ⟨b, off + i, none⟩) hlt).trans (hc i hi)⟩

/-- nothing but block b has turned -/
structure But (b : Nat) (w w' : World) : Prop where
  os : w'.os = w.os
  tape : w'.tape = w.tape
  output : w'.output = w.output
  size : w.heap.size ≤ w'.heap.size
  block : ∀ k, k < w.heap.size → k ≠ b → w'.heap[k]? = w.heap[k]?
theorem But.refl (b : Nat) (w : World) : But b w w := ⟨rfl, rfl, rfl, Nat.le_refl _, fun _ _ _ => rfl⟩
theorem But.trans {b : Nat} {x y z : World} (h : But b x y) (k : But b y z) : But b x z :=
  ⟨k.os.trans h.os, k.tape.trans h.tape, k.output.trans h.output, Nat.le_trans h.size k.size, fun i hi hb => (k.block i (Nat.lt_of_lt_of_le hi h.size) hb).trans (h.block i hi hb)⟩
theorem But.drewN {b : Nat} {x y : World} (h : But b x y) (n : Nat) : But b x (y.drewN n) := h.trans ⟨rfl, rfl, rfl, Nat.le_refl _, fun _ _ _ => rfl⟩
theorem But.setCell {b : Nat} {x y : World} (h : But b x y) (i : Nat) (v : Value) : But b x (y.setCell ⟨b, i, none⟩ v) :=
  h.trans ⟨rfl, rfl, rfl, by simp [World.setCell], fun k _ hb => Below.heap_setCell _ _ _ _ hb⟩
theorem But.below {B b : Nat} {w w' : World} (h : But b w w') (hB : B ≤ b) (hs : b < w.heap.size) : Below B w w' := ⟨h.os, h.tape, h.output, h.size, fun k hk => h.block k (by omega) (by omega)⟩
theorem Below.but {b : Nat} {w w' : World} (h : Below w.heap.size w w') : But b w w' := ⟨h.os, h.tape, h.output, h.size, fun k hk _ => h.block k hk⟩
theorem But.cell {b : Nat} {w w' : World} (h : But b w w') {k : Nat} (hk : k < w.heap.size) (hb : k ≠ b) (i : Nat) : w'.cell? ⟨k, i, none⟩ = w.cell? ⟨k, i, none⟩ := World.cell?_of_block (w := w) (h.block k hk hb)

/-- block b is a cursor over the slice p, n, cap; at most A places have been read -/
def CurAt (b : Nat) (p : Option Addr) (n cap A : Nat) (w : World) : Prop := ∃ (k : Nat) (sd : Int), k ≤ A ∧ OwnArr w b 48 [.slice p n cap, .int .i64 (k : Int), .int .u64 sd]
theorem CurAt.lt {b : Nat} {p : Option Addr} {n cap A : Nat} {w : World} (h : CurAt b p n cap A w) : b < w.heap.size := by
  obtain ⟨_, _, _, h⟩ := h
  exact h.lt
theorem CurAt.mono {b : Nat} {p : Option Addr} {n cap A A' : Nat} {w : World} (h : CurAt b p n cap A w) (hA : A ≤ A') : CurAt b p n cap A' w := by
  obtain ⟨k, sd, hk, h⟩ := h
  exact ⟨k, sd, by omega, h⟩
theorem CurAt.made (p : Option Addr) (n cap : Nat) (w : World) : CurAt w.heap.size p n cap 0 (w.alloc (.cells #[.slice p n cap, .int .i64 0, .int .u64 0] 48)) := ⟨0, 0, Nat.le_refl _, OwnArr.made w _ _⟩
theorem CurAt.below {b : Nat} {p : Option Addr} {n cap A : Nat} {w w' : World} (h : CurAt b p n cap A w) (hb : Below w.heap.size w w') : CurAt b p n cap A w' := by
  obtain ⟨k, sd, hk, h⟩ := h
  exact ⟨k, sd, hk, h.below hb h.lt⟩

theorem u64_bd (y : Int) : 0 ≤ IntKind.u64.wrap y ∧ IntKind.u64.wrap y < 18446744073709551616 := by
  have e : IntKind.u64.wrap y = y % 18446744073709551616 := by simp [IntKind.wrap, IntKind.bits, IntKind.signed]
  rw [e]
  exact ⟨Int.emod_nonneg _ (by decide), Int.emod_lt_of_pos _ (by decide)⟩
theorem seed_byte (y : Int) : 0 ≤ wrap64 (bits BinOp.and IntKind.u64 (IntKind.u64.wrap y / 1099511627776) 255) ∧ wrap64 (bits BinOp.and IntKind.u64 (IntKind.u64.wrap y / 1099511627776) 255) ≤ 255 := by
  obtain ⟨h0, h1⟩ := u64_bd y
  generalize IntKind.u64.wrap y = E at h0 h1
  obtain ⟨m, hm⟩ : ∃ m : Nat, E / 1099511627776 = (m : Int) := ⟨(E / 1099511627776).toNat, by omega⟩
  have hmb : m < 18446744073709551616 := by omega
  rw [hm]
  have hb := bits_and_u64_nat m 255 hmb (by omega)
  have hle : m &&& 255 ≤ 255 := Nat.and_le_right
  have e2 : bits BinOp.and IntKind.u64 (m : Int) 255 = ((m &&& 255 : Nat) : Int) := hb
  rw [e2, IntWalk.wrap64_in _ ⟨by omega, by omega⟩]
  omega

/-- a byte has been read -/
def NextAns (b : Nat) (p : Option Addr) (n cap A : Nat) (w : World) (e : Ending) (w' : World) : Prop := ∃ x : Int, e = .returned (.int .i64 x) ∧ 0 ≤ x ∧ x ≤ 255 ∧ CurAt b p n cap (A + 1) w' ∧ But b w w'

set_option maxHeartbeats 1000000 in
theorem next_any (b : Nat) (p : Option Addr) (cap A : Nat) (bs : List UInt8) (w : World) (hc : CurAt b p bs.length cap A w) (hin : InBytes w p bs) (hA : A ≤ 1000000) :
    Calls Tryd.prog 55 #[.pointer (some ⟨b, 0, none⟩)] w (NextAns b p bs.length cap A w) := by
  obtain ⟨k, sd, hk, ho⟩ := hc
  have hlt := ho.lt
  have h0 := ho.cell 0
  have h1 := ho.cell 1
  have h2 := ho.cell 2
  have f1 := ho.free 1
  have f2 := ho.free 2
  simp only [List.getElem?_cons_zero, List.getElem?_cons_succ] at h0 h1 h2
  have hlen := hin.len
  have HO := Lib.hid ho
  clear ho
  by_cases hkn : k < bs.length
  · obtain ⟨q, off, rfl, hq, hcs⟩ := hin.cells (by omega)
    have hcell := hcs k hkn
    obtain ⟨x, hx⟩ : ∃ x : UInt8, x = bs[k]?.getD 0 := ⟨_, rfl⟩
    rw [← hx] at hcell
    obtain ⟨hb1, hb2⟩ := byte_bd x
    obtain ⟨n, hn⟩ : ∃ n, n = bs.length := ⟨_, rfl⟩
    rw [← hn] at hkn h0 hlen HO ⊢
    clear hin hcs hx hn
    go_enter Tryd.func55, Tryd.ntmps55
    go_wp2_with fail
    go_quiet (fail)
    go_wp2_with fail
    go_quiet (fail)
    go_wp2_with fail
    go_quiet (fail)
    go_wp2_with fail
    go_ret
    exact ⟨_, rfl, hb1, hb2, ⟨k + 1, _, by omega, by rw [show (((k + 1 : Nat)) : Int) = (k : Int) + 1 by omega]; exact (((HO.out.drewN _).set 1 _).set 2 _).drewN _⟩, (((But.refl b w).drewN _).setCell 1 _).setCell 2 _ |>.drewN _⟩
  · have hkn' : bs.length ≤ k := by omega
    obtain ⟨n, hn⟩ : ∃ n, n = bs.length := ⟨_, rfl⟩
    rw [← hn] at hkn hkn' h0 hlen HO ⊢
    clear hin hn
    go_enter Tryd.func55, Tryd.ntmps55
    go_wp2_with fail
    go_quiet (fail)
    go_wp2_with fail
    go_quiet (fail)
    go_wp2_with fail
    go_ret
    exact ⟨_, rfl, (seed_byte _).1, (seed_byte _).2, ⟨k + 1, _, by omega, by rw [show (((k + 1 : Nat)) : Int) = (k : Int) + 1 by omega]; exact (((HO.out.drewN _).set 1 _).set 2 _).drewN _⟩, (((But.refl b w).drewN _).setCell 1 _).setCell 2 _ |>.drewN _⟩
end Go.Proofs.YtnbpdgkpamgcfaaDoor
