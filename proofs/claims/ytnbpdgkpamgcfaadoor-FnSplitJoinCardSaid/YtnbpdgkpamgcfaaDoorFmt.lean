/- spec.FormatInt and impl.FormatInt give the same answer for every number; the library's table of powers of ten is taken as a premise on the world. -/
import Derived.Test.YtnbpdgkpamgcfaaDoorNum
import Derived.Test.YtnbpdgkpamgcfaaDoorInStrs
import Derived.Test.YtnbpdgkpamgcfaaDoorShelf
namespace Go.Proofs.YtnbpdgkpamgcfaaDoor
open Go.RowKit

/-- the library's table of powers of ten lies in the world -/
structure TabOk (w : World) : Prop where
  tab : Lib.TabIs Tryd.prog w "internal/strconv.uint64pow10" .u64 Lib.pow10Tab
  lt : 1 < w.heap.size
theorem gPow : Tryd.prog.globalNamed "internal/strconv.uint64pow10" = some 1 := by kernel_rfl
theorem TabOk.below {w w' : World} (h : TabOk w) (hb : Below w.heap.size w w') : TabOk w' :=
  ⟨by
    have := h.tab
    unfold Lib.TabIs at *
    exact var?_below hb gPow h.lt this, Nat.lt_of_lt_of_le h.lt hb.size⟩
theorem tabOk_of {w : World} (h : Lib.TabIs Tryd.prog w "internal/strconv.uint64pow10" .u64 Lib.pow10Tab) : TabOk w := by
  refine ⟨h, ?_⟩
  have hc := h.cell gPow 0 (by rw [Lib.pow10Tab_length]; omega)
  rcases Nat.lt_or_ge 1 w.heap.size with hl | hl
  · exact hl
  · simp [World.cell?, Array.getElem?_eq_none hl] at hc

theorem bel_grow (w : World) (q : Nat) (os : Array Obj) : Below w.heap.size w (Sort.grow (w.drewN q) os) := by
  refine ⟨rfl, rfl, rfl, ?_, fun i hi => ?_⟩
  · show w.heap.size ≤ (w.heap ++ os).size
    rw [Array.size_append]; omega
  · show (w.heap ++ os)[i]? = w.heap[i]?
    rw [Array.getElem?_append_left hi]

/-- the answer of both functions -/
def fmtIn (n : Int) : Bool := decide (-999999 ≤ n ∧ n ≤ 999999)
def fmtS (n : Int) : ByteArray := if -999999 ≤ n ∧ n ≤ 999999 then numS n else ⟨#[]⟩
def FmtAns (n : Int) (w : World) (e : Ending) (w' : World) : Prop := e = .returned (.tuple #[.string (fmtS n), .bool (fmtIn n)]) ∧ Below w.heap.size w w'
theorem fmtS_in {n : Int} (h : -999999 ≤ n ∧ n ≤ 999999) : fmtS n = numS n := by unfold fmtS; rw [if_pos h]
theorem fmtS_out {n : Int} (h : ¬ (-999999 ≤ n ∧ n ≤ 999999)) : fmtS n = ⟨#[]⟩ := by unfold fmtS; rw [if_neg h]
theorem fmtIn_in {n : Int} (h : -999999 ≤ n ∧ n ≤ 999999) : fmtIn n = true := by unfold fmtIn; exact decide_eq_true h
theorem fmtIn_out {n : Int} (h : ¬ (-999999 ≤ n ∧ n ≤ 999999)) : fmtIn n = false := by unfold fmtIn; exact decide_eq_false h

set_option maxHeartbeats 400000 in
theorem formatS_any (n : Int) (w : World) :
    Calls Tryd.prog 13 #[.int .i64 n] w (FmtAns n w) := by
  by_cases h : -999999 ≤ n ∧ n ≤ 999999
  · have H1 := Lib.hid (fmtS_in h)
    have H2 := Lib.hid (fmtIn_in h)
    obtain ⟨h1, h2⟩ := h
    go_enter Tryd.func13, Tryd.ntmps13
    go_wp2_with (first
      | (go_at_call 38; refine (l1In_yes _ _ _ h1 h2 _).mono ?_; rintro e w' ⟨rfl, rfl⟩)
      | (go_at_call 39; refine (l1Num_any n _ (by omega) (by omega)).mono ?_; rintro e w' ⟨rfl, q, rfl⟩))
    go_ret2
    exact ⟨by rw [H1.out, H2.out]; rfl, bel_drewN (Below.refl _ _) q⟩
  · have H1 := Lib.hid (fmtS_out h)
    have H2 := Lib.hid (fmtIn_out h)
    have H := Lib.hid h
    clear h
    go_enter Tryd.func13, Tryd.ntmps13
    go_wp2_with (go_at_call 38; refine (l1In_no _ _ _ H.out _).mono ?_; rintro e w' ⟨rfl, rfl⟩)
    go_ret2
    exact ⟨by rw [H1.out, H2.out]; rfl, Below.refl _ _⟩

set_option maxHeartbeats 400000 in
theorem formatI_any (n : Int) (w : World) (ht : TabOk w) :
    Calls Tryd.prog 12 #[.int .i64 n] w (FmtAns n w) := by
  by_cases h : -999999 ≤ n ∧ n ≤ 999999
  · have H1 := Lib.hid (fmtS_in h)
    have H2 := Lib.hid (fmtIn_in h)
    obtain ⟨h1, h2⟩ := h
    go_enter Tryd.func12, Tryd.ntmps12
    go_wp2_with (go_at_call 37; refine (Tryd.strconv_Itoa n (by omega) (by omega) _ ht.tab).mono ?_; rintro e w' ⟨rfl, q, os, rfl⟩)
    go_ret2
    exact ⟨by rw [H1.out, H2.out]; rfl, bel_grow _ q os⟩
  · have H1 := Lib.hid (fmtS_out h)
    have H2 := Lib.hid (fmtIn_out h)
    by_cases h1 : n < -999999
    · clear h
      go_enter Tryd.func12, Tryd.ntmps12
      go_wp2
      go_ret2
      exact ⟨by rw [H1.out, H2.out]; rfl, Below.refl _ _⟩
    · have h2 : 999999 < n := by omega
      clear h
      go_enter Tryd.func12, Tryd.ntmps12
      go_wp2
      go_ret2
      exact ⟨by rw [H1.out, H2.out]; rfl, Below.refl _ _⟩
end Go.Proofs.YtnbpdgkpamgcfaaDoor
