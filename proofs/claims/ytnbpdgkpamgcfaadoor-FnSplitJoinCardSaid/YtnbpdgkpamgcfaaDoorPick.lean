/- The draws' cursor: pick, one, among, of. -/
import Derived.Test.YtnbpdgkpamgcfaaDoorCur
import Derived.Test.YtnbpdgkpamgcfaaDoorInStrs
namespace Go.Proofs.YtnbpdgkpamgcfaaDoor
open Go.RowKit

def PickAns (b : Nat) (p : Option Addr) (n cap A : Nat) (m : Int) (w : World) (e : Ending) (w' : World) : Prop := ∃ x : Int, e = .returned (.int .i64 x) ∧ 0 ≤ x ∧ x < m ∧ CurAt b p n cap (A + 2) w' ∧ But b w w'

set_option maxHeartbeats 400000 in
theorem pick_any (b : Nat) (p : Option Addr) (cap A : Nat) (bs : List UInt8) (m : Int) (w : World) (hc : CurAt b p bs.length cap A w) (hin : InBytes w p bs) (hA : A ≤ 900000) (hbin : ∀ w', But b w w' → InBytes w' p bs) (h1 : 1 ≤ m) (h2 : m ≤ 1000000) :
    Calls Tryd.prog 36 #[.pointer (some ⟨b, 0, none⟩), .int .i64 m] w (PickAns b p bs.length cap A m w) := by
  have HB := Lib.hid hbin
  clear hbin
  obtain ⟨n, hn⟩ : ∃ n, bs.length = n := ⟨_, rfl⟩
  by_cases hm1 : m ≤ 1
  · rw [hn] at hc ⊢
    clear hn
    go_enter Tryd.func36, Tryd.ntmps36
    go_wp2_with fail
    go_ret
    exact ⟨0, rfl, by omega, by omega, hc.mono (by omega), But.refl _ _⟩
  · by_cases hbig : 200 < m
    · have N1 := next_any b p cap A bs w hc hin (by omega)
      have N2 : ∀ w', But b w w' → CurAt b p bs.length cap (A + 1) w' → Calls Tryd.prog 55 #[.pointer (some ⟨b, 0, none⟩)] w' (NextAns b p bs.length cap (A + 1) w') := fun w' hb hc' => next_any b p cap (A + 1) bs w' hc' (HB.out w' hb) (by omega)
      rw [hn] at hc N1 N2 ⊢
      have HN2 := Lib.hid N2
      have HN1 := Lib.hid N1
      clear hn N1 N2 hin hc
      go_enter Tryd.func36, Tryd.ntmps36
      go_wp2_with fail
      refine HN1.out.mono ?_
      rintro e w1 ⟨x, rfl, hx0, hx1, hc1, hb1⟩
      go_wp2_with fail
      refine (HN2.out w1 hb1 hc1).mono ?_
      rintro e w2 ⟨y, rfl, hy0, hy1, hc2, hb2⟩
      go_wp2_with fail
      go_ret
      exact ⟨_, rfl, Int.emod_nonneg _ (by omega), Int.emod_lt_of_pos _ (by omega), hc2.mono (by omega), hb1.trans hb2⟩
    · have N1 := next_any b p cap A bs w hc hin (by omega)
      rw [hn] at hc N1 ⊢
      have HN1 := Lib.hid N1
      clear hn N1 hin hc
      go_enter Tryd.func36, Tryd.ntmps36
      go_wp2_with fail
      refine HN1.out.mono ?_
      rintro e w1 ⟨x, rfl, hx0, hx1, hc1, hb1⟩
      go_wp2_with fail
      go_ret
      exact ⟨_, rfl, Int.emod_nonneg _ (by omega), Int.emod_lt_of_pos _ (by omega), hc1.mono (by omega), hb1⟩

/-- what a draw of the law's wants: a cursor over the code in memory that is older than the cursor -/
structure Draw (b : Nat) (p : Option Addr) (bs : List UInt8) (cap A : Nat) (w : World) : Prop where
  cur : CurAt b p bs.length cap A w
  code : InBytes w p bs
  apart : 0 < bs.length → ∃ q off, p = some ⟨q, off, none⟩ ∧ q < b
theorem Draw.codeBut {b : Nat} {p : Option Addr} {bs : List UInt8} {cap A : Nat} {w w' : World} (h : Draw b p bs cap A w) (hb : But b w w') : InBytes w' p bs := by
  refine ⟨h.code.len, fun h0 => ?_⟩
  obtain ⟨q, off, e, hlt, hcell⟩ := h.code.cells h0
  obtain ⟨q', off', e', hq⟩ := h.apart h0
  have e2 : q = q' := by rw [e] at e'; simp at e'; exact e'.1
  exact ⟨q, off, e, Nat.lt_of_lt_of_le hlt hb.size, fun i hi => (hb.cell hlt (by omega) _).trans (hcell i hi)⟩
theorem Draw.but {b : Nat} {p : Option Addr} {bs : List UInt8} {cap A A' : Nat} {w w' : World} (h : Draw b p bs cap A w) (hb : But b w w') (hc : CurAt b p bs.length cap A' w') : Draw b p bs cap A' w' := ⟨hc, h.codeBut hb, h.apart⟩
theorem Draw.below {b : Nat} {p : Option Addr} {bs : List UInt8} {cap A : Nat} {w w' : World} (h : Draw b p bs cap A w) (hb : Below w.heap.size w w') : Draw b p bs cap A w' := ⟨h.cur.below hb, h.code.below hb, h.apart⟩
theorem Draw.made {p : Option Addr} {bs : List UInt8} (cap : Nat) {w : World} (h : InBytes w p bs) : Draw w.heap.size p bs cap 0 (w.alloc (.cells #[.slice p bs.length cap, .int .i64 0, .int .u64 0] 48)) := by
  refine ⟨CurAt.made p bs.length cap w, h.below ((Below.refl _ _).alloc (Nat.le_refl _) _), fun h0 => ?_⟩
  obtain ⟨q, off, e, hlt, _⟩ := h.cells h0
  exact ⟨q, off, e, hlt⟩
theorem Draw.lt {b : Nat} {p : Option Addr} {bs : List UInt8} {cap A : Nat} {w : World} (h : Draw b p bs cap A w) : b < w.heap.size := h.cur.lt

/-- what a draw leaves -/
def After (b : Nat) (p : Option Addr) (bs : List UInt8) (cap A : Nat) (w w' : World) : Prop := Draw b p bs cap A w' ∧ But b w w'

theorem pick_d (b : Nat) (p : Option Addr) (cap A : Nat) (bs : List UInt8) (m : Int) (w : World) (h : Draw b p bs cap A w) (hA : A ≤ 900000) (h1 : 1 ≤ m) (h2 : m ≤ 1000000) :
    Calls Tryd.prog 36 #[.pointer (some ⟨b, 0, none⟩), .int .i64 m] w fun e w' => ∃ x : Int, e = .returned (.int .i64 x) ∧ 0 ≤ x ∧ x < m ∧ After b p bs cap (A + 2) w w' :=
  (pick_any b p cap A bs m w h.cur h.code hA (fun _ hb => h.codeBut hb) h1 h2).mono fun _ _ ⟨x, he, h0, h3, hc, hb⟩ => ⟨x, he, h0, h3, h.but hb hc, hb⟩

set_option maxHeartbeats 400000 in
theorem one_d (b : Nat) (p : Option Addr) (cap A : Nat) (bs : List UInt8) (m : Int) (w : World) (h : Draw b p bs cap A w) (hA : A ≤ 900000) (h1 : 1 ≤ m) (h2 : m ≤ 1000000) :
    Calls Tryd.prog 40 #[.pointer (some ⟨b, 0, none⟩), .int .i64 m] w fun e w' => ∃ y : Bool, e = .returned (.bool y) ∧ After b p bs cap (A + 2) w w' := by
  go_enter Tryd.func40, Tryd.ntmps40
  go_wp2_with fail
  refine (pick_d b p cap A bs m w h hA h1 h2).mono ?_
  rintro e w1 ⟨x, rfl, hx0, hx1, ha⟩
  go_wp2_with fail
  go_ret
  exact ⟨_, rfl, ha⟩

set_option maxHeartbeats 400000 in
theorem among_d (b : Nat) (p : Option Addr) (cap A : Nat) (bs : List UInt8) (g n cap' : Nat) (xs : List Int) (w : World) (h : Draw b p bs cap A w) (hA : A ≤ 900000) (hn : xs.length = n) (h1 : 1 ≤ n) (h2 : n ≤ 1000000) (hg : g < w.heap.size) (hne : g ≠ b)
    (ho : ∀ i, i < n → w.cell? ⟨g, i, none⟩ = some (.int .i64 (xs[i]?.getD 0))) :
    Calls Tryd.prog 35 #[.pointer (some ⟨b, 0, none⟩), .slice (some ⟨g, 0, none⟩) n cap'] w fun e w' => ∃ x : Int, x ∈ xs ∧ e = .returned (.int .i64 x) ∧ After b p bs cap (A + 2) w w' := by
  have HO := Lib.hid ho
  have HN := Lib.hid hn
  clear ho hn
  go_enter Tryd.func35, Tryd.ntmps35
  go_wp2_with fail
  refine (pick_d b p cap A bs n w h hA (by omega) (by omega)).mono ?_
  rintro e w1 ⟨x, rfl, hx0, hx1, ha⟩
  obtain ⟨i, rfl⟩ : ∃ i : Nat, x = (i : Int) := ⟨x.toNat, by omega⟩
  have hi : i < n := by omega
  have hc : w1.cell? ⟨g, i, none⟩ = some (.int .i64 (xs[i]?.getD 0)) := (ha.2.cell hg hne i).trans (HO.out i hi)
  obtain ⟨y, hy⟩ : ∃ y, y = xs[i]?.getD 0 := ⟨_, rfl⟩
  rw [← hy] at hc
  have hm : y ∈ xs := by
    have hl : i < xs.length := by rw [HN.out]; exact hi
    rw [hy, List.getElem?_eq_getElem hl]
    exact List.getElem_mem hl
  clear hy
  go_wp2_with fail
  go_ret
  exact ⟨y, hm, rfl, ha⟩

set_option maxHeartbeats 400000 in
theorem of_d (b : Nat) (p : Option Addr) (cap A : Nat) (bs : List UInt8) (g n cap' : Nat) (xs : List ByteArray) (w : World) (h : Draw b p bs cap A w) (hA : A ≤ 900000) (hn : xs.length = n) (h1 : 1 ≤ n) (h2 : n ≤ 1000000) (hg : g < w.heap.size) (hne : g ≠ b)
    (ho : ∀ i, i < n → w.cell? ⟨g, i, none⟩ = some (.string (xs[i]?.getD ByteArray.empty))) :
    Calls Tryd.prog 41 #[.pointer (some ⟨b, 0, none⟩), .slice (some ⟨g, 0, none⟩) n cap'] w fun e w' => ∃ x : ByteArray, x ∈ xs ∧ e = .returned (.string x) ∧ After b p bs cap (A + 2) w w' := by
  have HO := Lib.hid ho
  have HN := Lib.hid hn
  clear ho hn
  go_enter Tryd.func41, Tryd.ntmps41
  go_wp2_with fail
  refine (pick_d b p cap A bs n w h hA (by omega) (by omega)).mono ?_
  rintro e w1 ⟨x, rfl, hx0, hx1, ha⟩
  obtain ⟨i, rfl⟩ : ∃ i : Nat, x = (i : Int) := ⟨x.toNat, by omega⟩
  have hi : i < n := by omega
  have hc : w1.cell? ⟨g, i, none⟩ = some (.string (xs[i]?.getD ByteArray.empty)) := (ha.2.cell hg hne i).trans (HO.out i hi)
  obtain ⟨y, hy⟩ : ∃ y, y = xs[i]?.getD ByteArray.empty := ⟨_, rfl⟩
  rw [← hy] at hc
  have hm : y ∈ xs := by
    have hl : i < xs.length := by rw [HN.out]; exact hi
    rw [hy, List.getElem?_eq_getElem hl]
    exact List.getElem_mem hl
  clear hy
  go_wp2_with fail
  go_ret
  exact ⟨y, hm, rfl, ha⟩
end Go.Proofs.YtnbpdgkpamgcfaaDoor
