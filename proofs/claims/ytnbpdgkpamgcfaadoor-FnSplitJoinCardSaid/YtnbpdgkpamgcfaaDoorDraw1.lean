/- What the first chapter's laws draw: some number, some text to read, some text to seal; each within the bounds that its contract names. -/
import Derived.Test.YtnbpdgkpamgcfaaDoorPick
import Derived.Test.YtnbpdgkpamgcfaaDoorNum
import Derived.Laws.IdiomStrings
import Derived.Deep.OwnRows
import Derived.Lib.Strings
namespace Go.Proofs.YtnbpdgkpamgcfaaDoor
open Go.RowKit

theorem head_add (b j : Nat) : (⟨b, 0, none⟩ : Addr).add j = ⟨b, j, none⟩ := by
  unfold Addr.add
  split
  · rename_i h; subst h; rfl
  · simp

/-- what a draw's end owes the law -/
theorem draw_below {b : Nat} {p : Option Addr} {bs : List UInt8} {cap A : Nat} {w w1 w' : World} (hw : Below w.heap.size w w1) (hb : w.heap.size ≤ b) (hlt : b < w1.heap.size) (h : After b p bs cap A w1 w') : Below w.heap.size w w' :=
  hw.trans (h.2.below hb hlt)

theorem infoByte : (Tryd.prog.info? 5).map (fun i => (i.zero, i.size, i.bytes)) = some (some (.int .u8 0), 1, 1) := by kernel_rfl

def any1S : List ByteArray := [⟨#[]⟩, ⟨#[97]⟩, ⟨#[97, 44, 98]⟩, ⟨#[115, 111, 109, 101, 32, 119, 111, 114, 100, 115]⟩, ⟨#[120, 35, 121]⟩, ⟨#[45, 49, 50]⟩, ⟨#[0, 255]⟩, ⟨#[44, 44]⟩, ⟨#[48]⟩]
theorem any1S_len : ∀ x ∈ any1S, x.size ≤ 10 := by
  intro x hx
  simp only [any1S, List.mem_cons, List.mem_nil_iff, or_false] at hx
  rcases hx with rfl | rfl | rfl | rfl | rfl | rfl | rfl | rfl | rfl <;> decide

set_option maxHeartbeats 400000 in
theorem any1_d (b : Nat) (p : Option Addr) (cap A : Nat) (bs : List UInt8) (w : World) (h : Draw b p bs cap A w) (hA : A ≤ 900000) :
    Calls Tryd.prog 44 #[.pointer (some ⟨b, 0, none⟩)] w fun e w' => ∃ x : ByteArray, x.size ≤ 10 ∧ e = .returned (.string x) ∧ After b p bs cap (A + 2) w w' := by
  have hlt := h.lt
  go_enter Tryd.func44, Tryd.ntmps44
  go_wp2_with fail
  have hbl := (Below.refl w.heap.size w).alloc (Nat.le_refl _) (.cells (any1S.map Value.string).toArray 9)
  refine (of_d b p cap A bs w.heap.size 9 9 any1S _ (h.below hbl) hA rfl (by omega) (by omega) (by simp) (by omega) (fun i hi => ?_)).mono ?_
  · have := (OwnArr.made w 9 (any1S.map Value.string)).cell i
    have hl : i < any1S.length := hi
    rw [List.getElem?_map, List.getElem?_eq_getElem hl] at this
    rw [List.getElem?_eq_getElem hl]
    exact this
  · rintro e w1 ⟨x, hx, rfl, ha⟩
    go_wp2_with fail
    go_ret
    exact ⟨x, any1S_len x hx, rfl, ha.1, (Below.but hbl).trans ha.2⟩

set_option maxHeartbeats 400000 in
theorem drawFormat_any (p : Option Addr) (cap : Nat) (bs : List UInt8) (w : World) (hin : InBytes w p bs) :
    Calls Tryd.prog 11 #[.slice p bs.length cap] w fun e w' => ∃ x : Int, (-1000000 ≤ x ∧ x ≤ 1000000) ∧ e = .returned (.int .i64 x) ∧ Below w.heap.size w w' := by
  have hd := Draw.made cap hin
  have hb0 := (Below.refl w.heap.size w).alloc (Nat.le_refl _) (.cells #[.slice p bs.length cap, .int .i64 0, .int .u64 0] 48)
  have hs0 : w.heap.size < (w.alloc (.cells #[.slice p bs.length cap, .int .i64 0, .int .u64 0] 48)).heap.size := by simp
  obtain ⟨w0, hw0⟩ : ∃ w0, w.alloc (.cells #[.slice p bs.length cap, .int .i64 0, .int .u64 0] 48) = w0 := ⟨_, rfl⟩
  rw [hw0] at hd hb0 hs0
  obtain ⟨n, hn⟩ : ∃ n, bs.length = n := ⟨_, rfl⟩
  rw [hn] at hw0 ⊢
  go_enter Tryd.func11, Tryd.ntmps11
  clear hin hn
  go_wp2_with fail
  refine (pick_d w.heap.size p cap 0 bs 1000 w0 hd (by omega) (by omega) (by omega)).mono ?_
  rintro e w1 ⟨x, rfl, hx0, hx1, ha⟩
  have hlt1 := ha.1.lt
  have hb1 := draw_below hb0 (Nat.le_refl _) hs0 ha
  clear hw0
  go_wp2_with fail
  have hbl := (Below.refl w1.heap.size w1).alloc (Nat.le_refl _) (.cells (([0, 1, -1, 10, 999999, -999999, 1000000, -1000000, x - 500] : List Int).map (Value.int .i64)).toArray 3)
  refine (among_d w.heap.size p cap (0 + 2) bs w1.heap.size 9 9 [0, 1, -1, 10, 999999, -999999, 1000000, -1000000, x - 500] _ (ha.1.below hbl) (by omega) rfl (by omega) (by omega) (by simp) (by omega) (fun i hi => ?_)).mono ?_
  · have := (OwnArr.made w1 3 (([0, 1, -1, 10, 999999, -999999, 1000000, -1000000, x - 500] : List Int).map (Value.int .i64))).cell i
    have hl : i < ([0, 1, -1, 10, 999999, -999999, 1000000, -1000000, x - 500] : List Int).length := hi
    rw [List.getElem?_map, List.getElem?_eq_getElem hl] at this
    rw [List.getElem?_eq_getElem hl]
    exact this
  · rintro e w2 ⟨y, hy, rfl, ha2⟩
    have hyb : -1000000 ≤ y ∧ y ≤ 1000000 := by
      simp only [List.mem_cons, List.mem_nil_iff, or_false] at hy
      omega
    clear hy
    go_wp2_with fail
    go_ret
    exact ⟨y, hyb, rfl, (hb1.trans (hbl.mono hb1.size)).trans (ha2.2.below (Nat.le_refl _) (by simp; omega))⟩

def parseS : List ByteArray := [⟨#[]⟩, ⟨#[45]⟩, ⟨#[45, 48]⟩, ⟨#[48, 48]⟩, ⟨#[48, 49]⟩, ⟨#[45, 45, 49]⟩, ⟨#[49, 120]⟩, ⟨#[57, 57, 57, 57, 57, 57]⟩, ⟨#[49, 48, 48, 48, 48, 48, 48]⟩, ⟨#[45, 57, 57, 57, 57, 57, 57]⟩, ⟨#[49, 56, 52, 52, 54, 55, 52, 52, 48, 55, 51, 55, 48, 57, 53, 53, 49, 54, 49, 55]⟩]
theorem parseS_len : ∀ x ∈ parseS, x.size ≤ 100 := by
  intro x hx
  simp only [parseS, List.mem_cons, List.mem_nil_iff, or_false] at hx
  rcases hx with rfl | rfl | rfl | rfl | rfl | rfl | rfl | rfl | rfl | rfl | rfl <;> decide

set_option maxHeartbeats 600000 in
theorem drawParse_any (p : Option Addr) (cap : Nat) (bs : List UInt8) (w : World) (hin : InBytes w p bs) :
    Calls Tryd.prog 14 #[.slice p bs.length cap] w fun e w' => ∃ x : ByteArray, x.size ≤ 100 ∧ e = .returned (.string x) ∧ Below w.heap.size w w' := by
  have hd := Draw.made cap hin
  have hb0 := (Below.refl w.heap.size w).alloc (Nat.le_refl _) (.cells #[.slice p bs.length cap, .int .i64 0, .int .u64 0] 48)
  have hs0 : w.heap.size < (w.alloc (.cells #[.slice p bs.length cap, .int .i64 0, .int .u64 0] 48)).heap.size := by simp
  obtain ⟨w0, hw0⟩ : ∃ w0, w.alloc (.cells #[.slice p bs.length cap, .int .i64 0, .int .u64 0] 48) = w0 := ⟨_, rfl⟩
  rw [hw0] at hd hb0 hs0
  obtain ⟨n, hn⟩ : ∃ n, bs.length = n := ⟨_, rfl⟩
  rw [hn] at hw0 ⊢
  go_enter Tryd.func14, Tryd.ntmps14
  clear hin hn
  go_wp2_with fail
  refine (one_d w.heap.size p cap 0 bs 2 w0 hd (by omega) (by omega) (by omega)).mono ?_
  rintro e w1 ⟨y, rfl, ha⟩
  have hlt1 := ha.1.lt
  have hb1 := draw_below hb0 (Nat.le_refl _) hs0 ha
  clear hw0
  cases y
  · go_wp2_with fail
    refine (pick_d w.heap.size p cap (0 + 2) bs 2000 w1 ha.1 (by omega) (by omega) (by omega)).mono ?_
    rintro e w2 ⟨x, rfl, hx0, hx1, ha2⟩
    go_wp2_with fail
    refine (l1Num_any (x - 1000) _ (by omega) (by omega)).mono ?_
    rintro e w3 ⟨rfl, q, rfl⟩
    have hl := numS_len (x - 1000) (by omega) (by omega)
    go_wp2_with fail
    go_ret
    exact ⟨_, by omega, rfl, bel_drewN (hb1.trans (ha2.2.below (Nat.le_refl _) hlt1)) q⟩
  · go_wp2_with fail
    have hbl := (Below.refl w1.heap.size w1).alloc (Nat.le_refl _) (.cells (parseS.map Value.string).toArray 9)
    refine (of_d w.heap.size p cap (0 + 2) bs w1.heap.size 11 11 parseS _ (ha.1.below hbl) (by omega) rfl (by omega) (by omega) (by simp) (by omega) (fun i hi => ?_)).mono ?_
    · have := (OwnArr.made w1 9 (parseS.map Value.string)).cell i
      have hl : i < parseS.length := hi
      rw [List.getElem?_map, List.getElem?_eq_getElem hl] at this
      rw [List.getElem?_eq_getElem hl]
      exact this
    · rintro e w2 ⟨z, hz, rfl, ha2⟩
      have hzl := parseS_len z hz
      clear hz
      go_wp2_with fail
      go_ret
      exact ⟨z, hzl, rfl, (hb1.trans (hbl.mono hb1.size)).trans (ha2.2.below (Nat.le_refl _) (by simp; omega))⟩

set_option maxHeartbeats 600000 in
theorem drawSeal_any (p : Option Addr) (cap : Nat) (bs : List UInt8) (w : World) (hin : InBytes w p bs) :
    Calls Tryd.prog 17 #[.slice p bs.length cap] w fun e w' => ∃ x : ByteArray, x.size ≤ 4000 ∧ e = .returned (.string x) ∧ Below w.heap.size w w' := by
  have hd := Draw.made cap hin
  have hb0 := (Below.refl w.heap.size w).alloc (Nat.le_refl _) (.cells #[.slice p bs.length cap, .int .i64 0, .int .u64 0] 48)
  have hs0 : w.heap.size < (w.alloc (.cells #[.slice p bs.length cap, .int .i64 0, .int .u64 0] 48)).heap.size := by simp
  obtain ⟨w0, hw0⟩ : ∃ w0, w.alloc (.cells #[.slice p bs.length cap, .int .i64 0, .int .u64 0] 48) = w0 := ⟨_, rfl⟩
  rw [hw0] at hd hb0 hs0
  obtain ⟨n, hn⟩ : ∃ n, bs.length = n := ⟨_, rfl⟩
  rw [hn] at hw0 ⊢
  go_enter Tryd.func17, Tryd.ntmps17
  clear hin hn
  go_wp2_with fail
  refine (one_d w.heap.size p cap 0 bs 20 w0 hd (by omega) (by omega) (by omega)).mono ?_
  rintro e w1 ⟨y, rfl, ha⟩
  have hlt1 := ha.1.lt
  have hb1 := draw_below hb0 (Nat.le_refl _) hs0 ha
  clear hw0
  cases y
  · go_wp2_with fail
    refine (any1_d w.heap.size p cap (0 + 2) bs w1 ha.1 (by omega)).mono ?_
    rintro e w2 ⟨z, hz, rfl, ha2⟩
    go_wp2_with fail
    go_ret
    exact ⟨z, by omega, rfl, hb1.trans (ha2.2.below (Nat.le_refl _) hlt1)⟩
  · go_wp2_with fail
    refine (pick_d w.heap.size p cap (0 + 2) bs 10 w1 ha.1 (by omega) (by omega) (by omega)).mono ?_
    rintro e w2 ⟨x, rfl, hx0, hx1, ha2⟩
    obtain ⟨m, rfl⟩ : ∃ m : Nat, x = (m : Int) := ⟨x.toNat, by omega⟩
    have hm : m ≤ 9 := by omega
    have hb2 := hb1.trans (ha2.2.below (Nat.le_refl _) hlt1)
    have hmk0 := run_make_row' (P := Tryd.prog) 22 5 (.int .u8 0) 1 Tryd.underlying22 infoByte rfl .i64 .i64 (3990 + m) (by omega) (by omega) w2
    rw [madeCells_one] at hmk0
    have ec : ((3990 + m : Nat) : Int) = 3990 + (m : Int) := by omega
    rw [ec] at hmk0
    have hown := OwnArr.made w2 5 (List.replicate (3990 + m) (.int .u8 0))
    have hcv := run_convert_bytes_back (P := Tryd.prog) (w2.alloc (.cells (List.replicate (3990 + m) (.int .u8 0)).toArray 5)) 22 9 5 ⟨w2.heap.size, 0, none⟩ (3990 + m) (List.replicate (3990 + m) 0) Tryd.underlying22 Tryd.underlying5 Tryd.underlying9 (fun j hj => by
      have hj' : j < 3990 + m := by simpa using hj
      rw [head_add, hown.cell j, List.getElem?_replicate, if_pos hj']
      simp)
    rw [List.length_replicate] at hcv
    have hbl := (Below.refl w2.heap.size w2).alloc (Nat.le_refl _) (.cells (List.replicate (3990 + m) (.int .u8 0)).toArray 5)
    clear hown
    obtain ⟨Z, hZ⟩ : ∃ Z : ByteArray, (⟨(List.replicate (3990 + m) (0 : UInt8)).toArray⟩ : ByteArray) = Z := ⟨_, rfl⟩
    have hZl : Z.size ≤ 4000 := by
      rw [← hZ, Lib.size_eq]
      simp
      omega
    rw [hZ] at hcv
    obtain ⟨w3, hw3⟩ : ∃ w3, w2.alloc (.cells (List.replicate (3990 + m) (.int .u8 0)).toArray 5) = w3 := ⟨_, rfl⟩
    rw [hw3] at hmk0 hcv hbl
    clear hZ hw3 ec
    go_wp2_with fail
    go_ret
    exact ⟨Z, hZl, rfl, hb2.trans (hbl.mono hb2.size)⟩

theorem vBig_any (p : Option Addr) (n cap : Nat) (w : World) (_hn : n ≤ 9223372036854775807) :
    Calls Tryd.prog 10 #[.slice p n cap] w fun e w' => e = .returned (.bool (decide (65536 < (n : Int)))) ∧ w = w' := by
  go_enter Tryd.func10, Tryd.ntmps10
  go_wp2
  go_ret
  exact ⟨rfl, rfl⟩

/-- vAt's value -/
def vAtV (bs : List UInt8) (k : Nat) : Int := if k < bs.length then ((bs[k]?.getD 0).toNat : Int) else ((k : Int) * 7 + (bs.length : Int)) % 256
theorem vAtV_bd (bs : List UInt8) (k : Nat) : 0 ≤ vAtV bs k ∧ vAtV bs k ≤ 255 := by
  unfold vAtV
  split
  · exact byte_bd _
  · exact ⟨Int.emod_nonneg _ (by decide), by have := Int.emod_lt_of_pos ((k : Int) * 7 + (bs.length : Int)) (show (0 : Int) < 256 by decide); omega⟩

set_option maxHeartbeats 400000 in
theorem vAt_any (p : Option Addr) (cap : Nat) (bs : List UInt8) (k : Nat) (w : World) (hin : InBytes w p bs) (hk : k ≤ 1000000) (hb : bs.length ≤ 65536) :
    Calls Tryd.prog 21 #[.slice p bs.length cap, .int .i64 (k : Int)] w fun e w' => e = .returned (.int .i64 (vAtV bs k)) ∧ w' = w := by
  by_cases h : k < bs.length
  · have HV : Hid (vAtV bs k = ((bs[k]?.getD 0).toNat : Int)) := by
      show _ = _
      unfold vAtV
      rw [if_pos h]
    obtain ⟨b, off, rfl, hlt, hc⟩ := hin.cells (by omega)
    have hcell := hc k h
    obtain ⟨y, hy⟩ : ∃ y : UInt8, bs[k]?.getD 0 = y := ⟨_, rfl⟩
    rw [hy] at hcell
    rw [hy] at HV
    obtain ⟨hb1, hb2⟩ := byte_bd y
    rw [HV.out]
    obtain ⟨n, hn⟩ : ∃ n, bs.length = n := ⟨_, rfl⟩
    rw [hn] at h hb ⊢
    clear hin hc hy hn HV
    go_enter Tryd.func21, Tryd.ntmps21
    go_wp2
    go_ret
    exact ⟨rfl, rfl⟩
  · have HV : vAtV bs k = ((k : Int) * 7 + (bs.length : Int)) % 256 := by
      unfold vAtV
      rw [if_neg h]
    rw [HV]
    obtain ⟨n, hn⟩ : ∃ n, bs.length = n := ⟨_, rfl⟩
    rw [hn] at h hb ⊢
    clear hin hn HV
    go_enter Tryd.func21, Tryd.ntmps21
    go_wp2
    go_ret
    exact ⟨rfl, rfl⟩
end Go.Proofs.YtnbpdgkpamgcfaaDoor
