/- What FnSplitJoin draws: a text and a separator, some texts and a separator, two texts; each within the bounds that its contract names. -/
import Derived.Test.YtnbpdgkpamgcfaaDoorDraw1
import Derived.Test.YtnbpdgkpamgcfaaDoorSplitSpec
namespace Go.Proofs.YtnbpdgkpamgcfaaDoor
open Go.RowKit

def sepS : List ByteArray := [⟨#[44]⟩, ⟨#[44]⟩, ⟨#[32]⟩, ⟨#[]⟩, ⟨#[44, 44]⟩]
theorem sepS_len : ∀ x ∈ sepS, x.size ≤ 2 := by
  intro x hx
  simp only [sepS, List.mem_cons, List.mem_nil_iff, or_false] at hx
  rcases hx with rfl | rfl | rfl | rfl | rfl <;> decide
def markSepS : List ByteArray := [⟨#[44]⟩, ⟨#[59]⟩, ⟨#[59]⟩, ⟨#[]⟩, ⟨#[97, 98]⟩]
theorem markSepS_len : ∀ x ∈ markSepS, x.size ≤ 2 := by
  intro x hx
  simp only [markSepS, List.mem_cons, List.mem_nil_iff, or_false] at hx
  rcases hx with rfl | rfl | rfl | rfl | rfl <;> decide

set_option maxHeartbeats 600000 in
theorem drawSplit_any (p : Option Addr) (cap : Nat) (bs : List UInt8) (w : World) (hin : InBytes w p bs) :
    Calls Tryd.prog 22 #[.slice p bs.length cap] w fun e w' => ∃ x y : ByteArray, x.size ≤ 10 ∧ y.size ≤ 2 ∧ e = .returned (.tuple #[.string x, .string y]) ∧ Below w.heap.size w w' := by
  have hd := Draw.made cap hin
  have hb0 := (Below.refl w.heap.size w).alloc (Nat.le_refl _) (.cells #[.slice p bs.length cap, .int .i64 0, .int .u64 0] 48)
  have hs0 : w.heap.size < (w.alloc (.cells #[.slice p bs.length cap, .int .i64 0, .int .u64 0] 48)).heap.size := by simp
  obtain ⟨w0, hw0⟩ : ∃ w0, w.alloc (.cells #[.slice p bs.length cap, .int .i64 0, .int .u64 0] 48) = w0 := ⟨_, rfl⟩
  rw [hw0] at hd hb0 hs0
  obtain ⟨n, hn⟩ : ∃ n, bs.length = n := ⟨_, rfl⟩
  rw [hn] at hw0 ⊢
  go_enter Tryd.func22, Tryd.ntmps22
  clear hin hn
  go_wp2_with fail
  refine (any1_d w.heap.size p cap 0 bs w0 hd (by omega)).mono ?_
  rintro e w1 ⟨x, hx, rfl, ha⟩
  have hlt1 := ha.1.lt
  have hb1 := draw_below hb0 (Nat.le_refl _) hs0 ha
  clear hw0
  go_wp2_with fail
  have hbl := (Below.refl w1.heap.size w1).alloc (Nat.le_refl _) (.cells (sepS.map Value.string).toArray 9)
  refine (of_d w.heap.size p cap (0 + 2) bs w1.heap.size 5 5 sepS _ (ha.1.below hbl) (by omega) rfl (by omega) (by omega) (by simp) (by omega) (fun i hi => ?_)).mono ?_
  · have := (OwnArr.made w1 9 (sepS.map Value.string)).cell i
    have hl : i < sepS.length := hi
    rw [List.getElem?_map, List.getElem?_eq_getElem hl] at this
    rw [List.getElem?_eq_getElem hl]
    exact this
  · rintro e w2 ⟨y, hy, rfl, ha2⟩
    have hyl := sepS_len y hy
    clear hy
    go_wp2_with fail
    go_ret2
    exact ⟨x, y, hx, hyl, rfl, (hb1.trans (hbl.mono hb1.size)).trans (ha2.2.below (Nat.le_refl _) (by simp; omega))⟩

set_option maxHeartbeats 600000 in
theorem drawLess_any (p : Option Addr) (cap : Nat) (bs : List UInt8) (w : World) (hin : InBytes w p bs) :
    Calls Tryd.prog 27 #[.slice p bs.length cap] w fun e w' => ∃ x y : ByteArray, e = .returned (.tuple #[.string x, .string y]) ∧ Below w.heap.size w w' := by
  have hd := Draw.made cap hin
  have hb0 := (Below.refl w.heap.size w).alloc (Nat.le_refl _) (.cells #[.slice p bs.length cap, .int .i64 0, .int .u64 0] 48)
  have hs0 : w.heap.size < (w.alloc (.cells #[.slice p bs.length cap, .int .i64 0, .int .u64 0] 48)).heap.size := by simp
  obtain ⟨w0, hw0⟩ : ∃ w0, w.alloc (.cells #[.slice p bs.length cap, .int .i64 0, .int .u64 0] 48) = w0 := ⟨_, rfl⟩
  rw [hw0] at hd hb0 hs0
  obtain ⟨n, hn⟩ : ∃ n, bs.length = n := ⟨_, rfl⟩
  rw [hn] at hw0 ⊢
  go_enter Tryd.func27, Tryd.ntmps27
  clear hin hn
  go_wp2_with fail
  refine (any1_d w.heap.size p cap 0 bs w0 hd (by omega)).mono ?_
  rintro e w1 ⟨x, _, rfl, ha⟩
  have hlt1 := ha.1.lt
  have hb1 := draw_below hb0 (Nat.le_refl _) hs0 ha
  clear hw0
  go_wp2_with fail
  refine (any1_d w.heap.size p cap (0 + 2) bs w1 ha.1 (by omega)).mono ?_
  rintro e w2 ⟨y, _, rfl, ha2⟩
  go_wp2_with fail
  go_ret2
  exact ⟨x, y, rfl, hb1.trans (ha2.2.below (Nat.le_refl _) hlt1)⟩

theorem own_but {b base n size : Nat} {e : TypeId} {v : Value} {xs : List Value} {w w' : World} (h : w.ownsRow base e size v n xs) (hb : But b w w') (hlt : b < base) : w'.ownsRow base e size v n xs := by
  refine ⟨h.1, ?_⟩
  rcases h.2 with h | ⟨g, cap, cur, e, hB, hh, rest⟩
  · exact .inl h
  · exact .inr ⟨g, cap, cur, e, hB, by
      rw [hb.block g (by
        rcases Nat.lt_or_ge g w.heap.size with h' | h'
        · exact h'
        · rw [Array.getElem?_eq_none h'] at hh; cases hh) (by omega)]
      exact hh, rest⟩

theorem Draw.under {b : Nat} {p : Option Addr} {bs : List UInt8} {cap A : Nat} {w w' : World} (h : Draw b p bs cap A w) (hb : Below (b + 1) w w') : Draw b p bs cap A w' := by
  refine ⟨?_, ⟨h.code.len, fun h0 => ?_⟩, h.apart⟩
  · obtain ⟨k, sd, hk, ho⟩ := h.cur
    exact ⟨k, sd, hk, ho.below hb (by omega)⟩
  · obtain ⟨q, off, e, hlt, hcell⟩ := h.code.cells h0
    obtain ⟨q', off', e', hq⟩ := h.apart h0
    have e2 : q = q' := by rw [e] at e'; simp at e'; exact e'.1
    exact ⟨q, off, e, Nat.lt_of_lt_of_le hlt hb.size, fun i hi => (hb.cell (p := ⟨q, off + i, none⟩) (by show q < b + 1; omega)).trans (hcell i hi)⟩

theorem strs_vals (ss : List ByteArray) : strVals (ss.map (·.data.toList)) = ss.map Value.string := by
  simp [strVals, Function.comp_def]
theorem own_strs' {B : Nat} {w : World} {v : Value} {ss : List ByteArray} (h : w.ownsRow B 9 1 v ss.length (ss.map Value.string)) (hl : ss.length ≤ 9223372036854775807) (he : ∀ x ∈ ss, x.size ≤ 9223372036854775807) (hv : v ≠ .slice none 0 0) : OwnStrs B w v ss := by
  by_cases h0 : 0 < ss.length
  · have := own_strs (B := B) (w := w) (v := v) (ps := ss.map (·.data.toList)) (by rw [strs_vals]; simpa using h) (by simpa using h0) (by simpa using hl) (fun p hp => by
      obtain ⟨x, hx, rfl⟩ := List.mem_map.1 hp
      rw [← Lib.size_eq]; exact he x hx)
    rw [List.map_map] at this
    have e : ss.map ((fun l : List UInt8 => (⟨l.toArray⟩ : ByteArray)) ∘ (·.data.toList)) = ss := by
      have : ((fun l : List UInt8 => (⟨l.toArray⟩ : ByteArray)) ∘ (·.data.toList)) = id := by
        funext x
        obtain ⟨⟨l⟩⟩ := x
        rfl
      rw [this, List.map_id]
    rwa [e] at this
  · have hz : ss = [] := List.length_eq_zero_iff.1 (by omega)
    subst hz
    rcases h.2 with ⟨h, _⟩ | ⟨g, c, cur, e1, hB, _, hn, _⟩
    · exact absurd h hv
    · exact ⟨g, c, e1, hn, hB, ⟨by simp, by simp, fun h => absurd h (Nat.lt_irrefl _)⟩⟩

theorem sizes_bd (ss : List ByteArray) (b : Nat) (h : ∀ x ∈ ss, x.size ≤ b) : sizes ss ≤ b * ss.length := by
  unfold sizes
  induction ss with
  | nil => simp
  | cons x r ih =>
    have h1 := h x (by simp)
    have h2 := ih (fun y hy => h y (by simp [hy]))
    simp only [List.map_cons, List.sum_cons, List.length_cons, Nat.mul_add, Nat.mul_one]
    omega
theorem own_up {B B' : Nat} {w : World} {v : Value} {ss : List ByteArray} (h : OwnStrs B w v ss) (hb : B' ≤ B) : OwnStrs B' w v ss := by
  obtain ⟨g, c, e1, e2, e3, e4⟩ := h
  exact ⟨g, c, e1, e2, by omega, e4⟩

set_option maxHeartbeats 1000000 in
theorem drawJoin_any (p : Option Addr) (cap : Nat) (bs : List UInt8) (w : World) (hin : InBytes w p bs) :
    Calls Tryd.prog 24 #[.slice p bs.length cap] w fun e w' => ∃ (v : Value) (ss : List ByteArray) (y : ByteArray), ss.length ≤ 5 ∧ sizes ss ≤ 4060 ∧ y.size ≤ 2 ∧ e = .returned (.tuple #[v, .string y]) ∧ OwnStrs w.heap.size w' v ss ∧ Below w.heap.size w w' := by
  obtain ⟨i0, hi, hz0, hz1, hz2⟩ := info_parts infoStr
  have hd := Draw.made cap hin
  have hb0 := (Below.refl w.heap.size w).alloc (Nat.le_refl _) (.cells #[.slice p bs.length cap, .int .i64 0, .int .u64 0] 48)
  have hs0 : (w.alloc (.cells #[.slice p bs.length cap, .int .i64 0, .int .u64 0] 48)).heap.size = w.heap.size + 1 := by simp
  obtain ⟨w0, hw0⟩ : ∃ w0, w.alloc (.cells #[.slice p bs.length cap, .int .i64 0, .int .u64 0] 48) = w0 := ⟨_, rfl⟩
  rw [hw0] at hd hb0 hs0
  obtain ⟨n, hn⟩ : ∃ n, bs.length = n := ⟨_, rfl⟩
  rw [hn] at hw0 ⊢
  go_enter Tryd.func24, Tryd.ntmps24
  clear hin hn
  go_wp2_with fail
  have ho0 : (w0.alloc (.cells #[] 9)).ownsRow (w.heap.size + 1) 9 1 (.slice (some ⟨w.heap.size + 1, 0, none⟩) 0 0) 0 [] :=
    ⟨rfl, Or.inr ⟨w.heap.size + 1, 0, #[], rfl, Nat.le_refl _, by rw [← hs0]; exact OwnArr.made w0 _ [], Nat.le_refl _, by unfold maxLen; omega, rfl, rfl⟩⟩
  refine (pick_d w.heap.size p cap 0 bs 4 (w0.alloc (.cells #[] 9)) (hd.below ((Below.refl _ _).alloc (Nat.le_refl _) _)) (by omega) (by omega) (by omega)).mono ?_
  rintro e w1 ⟨x, rfl, hx0, hx1, ha⟩
  obtain ⟨m, rfl⟩ : ∃ m : Nat, x = (m : Int) := ⟨x.toNat, by omega⟩
  have hm : m ≤ 3 := by omega
  have hb1 := draw_below (hb0.alloc (by omega) (.cells #[] 9)) (Nat.le_refl _) (by simp; omega) ha
  have ho1 := own_but ho0 ha.2 (by omega)
  have hd1 := ha.1
  clear hw0 ho0 ha hd
  go_wp2_with fail
  go_loopw [5, 7] (fun v i wr => ∃ (k : Nat) (ss : List ByteArray), k ≤ m ∧ i = .int .i64 k ∧ ss.length = k ∧ (∀ x ∈ ss, x.size ≤ 10) ∧ v ≠ .slice none 0 0 ∧ wr.ownsRow (w.heap.size + 1) 9 1 v k (ss.map Value.string) ∧ Draw w.heap.size p bs cap (2 + 2 * k) wr ∧ Below w.heap.size w wr) (fun _ i _ => m - (intOf i).toNat)
  case atStart => exact ⟨0, [], Nat.zero_le _, rfl, rfl, by simp, by simp, ho1, hd1, hb1⟩
  case round =>
    obtain ⟨k, ss, hk, rfl, hlen, hss, hv, hown, hd2, hb2⟩ := hrel
    replace hss := Lib.hid hss
    replace hv := Lib.hid hv
    by_cases hlt : k < m
    · go_wp2_with fail
      refine (any1_d w.heap.size p cap (2 + 2 * k) bs wr hd2 (by omega)).mono ?_
      rintro e w2 ⟨x, hx, rfl, ha⟩
      have hown2 := own_but hown ha.2 (by omega)
      have hsz2 : w.heap.size + 1 ≤ w2.heap.size := by have := ha.1.lt; omega
      have hb3 := hb2.trans (ha.2.below (Nat.le_refl _) hd2.lt)
      go_wp2_with (at_builtin; refine wpList_append_own _ rfl _ _ 34 rfl (w.heap.size + 1) 9 i0 (.string ⟨#[]⟩) 1 16 Tryd.underlying34 hi hz0 hz1 hz2 rfl (by decide) _ _ _ rfl (hown2.alloc _) ⟨w2.heap.size, 0, none⟩ 1 1 [.string x] rfl rfl (cell_one_new _ _ _) (fun x hx => by simp at hx; subst hx; rfl) (by unfold maxLen; omega) (by omega) (by simp; omega) ?_; intro v' w3 hown' hgrow3 hnil3)
      have hU : Below (w.heap.size + 1) w2 w3 := ((Below.refl _ w2).alloc hsz2 _).grown hgrow3 (by simp; omega) (own_block hown2)
      have hd3 := ha.1.under hU
      have hb4 := hb3.trans (hU.mono (by omega))
      have hv3 : Hid (v' ≠ .slice none 0 0) := fun e => by have := (hnil3.1 e).2; omega
      have hown3 : Hid (w3.ownsRow (w.heap.size + 1) 9 1 v' (k + 1) ((ss ++ [x]).map Value.string)) := by
        show World.ownsRow _ _ _ _ _ _ _
        rw [List.map_append]; exact hown'
      have hss3 : Hid (∀ y ∈ ss ++ [x], y.size ≤ 10) := fun y hy => by
        rcases List.mem_append.1 hy with h | h
        · exact hss.out y h
        · rw [List.mem_singleton.1 h]; exact hx
      clear hown' hgrow3 hnil3 hown2 hU ha
      go_wp2_with fail
      go_roundw
      case rel => exact ⟨k + 1, ss ++ [x], by omega, by go_num, by simp; omega, hss3.out, hv3.out, hown3.out, hd3, hb4⟩
      case measure => simp [intOf]; omega
    · have hkm : k = m := by omega
      subst hkm
      go_wp2_with fail
      refine (one_d w.heap.size p cap (2 + 2 * k) bs 20 wr hd2 (by omega) (by omega) (by omega)).mono ?_
      rintro e w4 ⟨y, rfl, ha4⟩
      have hown4 := own_but hown ha4.2 (by omega)
      have hb4 := hb2.trans (ha4.2.below (Nat.le_refl _) hd2.lt)
      have hsz4 : w.heap.size + 1 ≤ w4.heap.size := by have := ha4.1.lt; omega
      replace hown4 := Lib.hid hown4
      clear hown
      cases y
      · go_wp2_with fail
        have hblF := (Below.refl w4.heap.size w4).alloc (Nat.le_refl _) (.cells (markSepS.map Value.string).toArray 9)
        refine (of_d w.heap.size p cap (2 + 2 * k + 2) bs w4.heap.size 5 5 markSepS _ (ha4.1.below hblF) (by omega) rfl (by omega) (by omega) (by simp) (by have := ha4.1.lt; omega) (fun i hi => ?_)).mono ?_
        · have := (OwnArr.made w4 9 (markSepS.map Value.string)).cell i
          have hl : i < markSepS.length := hi
          rw [List.getElem?_map, List.getElem?_eq_getElem hl] at this
          rw [List.getElem?_eq_getElem hl]
          exact this
        · rintro e w9 ⟨y, hy, rfl, ha9⟩
          have hyl := markSepS_len y hy
          clear hy
          have HO9 := own_but (hown4.out.alloc (.cells (markSepS.map Value.string).toArray 9)) ha9.2 (by omega)
          have hB9 := (hb4.trans (hblF.mono hb4.size)).trans (ha9.2.below (Nat.le_refl _) (by have := ha4.1.lt; simp; omega))
          replace HO9 := Lib.hid HO9
          go_wp2_with fail
          go_ret2
          exact ⟨_, ss, y, (by omega), (by have := sizes_bd ss 10 hss.out; omega), hyl, rfl, own_up (own_strs' (by rw [hlen]; exact HO9.out) (by omega) (fun x hx => by have := hss.out x hx; omega) hv.out) (by omega), hB9⟩
      · go_wp2_with fail
        refine (pick_d w.heap.size p cap (2 + 2 * k + 2) bs 20 w4 ha4.1 (by omega) (by omega) (by omega)).mono ?_
        rintro e w5 ⟨x, rfl, hx0, hx1, ha5⟩
        obtain ⟨q, rfl⟩ : ∃ q : Nat, x = (q : Int) := ⟨x.toNat, by omega⟩
        have hq : q ≤ 19 := by omega
        have hb5 := hb4.trans (ha5.2.below (Nat.le_refl _) ha4.1.lt)
        have hown5 := own_but hown4.out ha5.2 (by omega)
        have hmk0 := run_make_row' (P := Tryd.prog) 22 5 (.int .u8 0) 1 Tryd.underlying22 infoByte rfl .i64 .i64 (3990 + q) (by omega) (by omega) w5
        rw [madeCells_one] at hmk0
        have ec : ((3990 + q : Nat) : Int) = 3990 + (q : Int) := by omega
        rw [ec] at hmk0
        have hrow := OwnArr.made w5 5 (List.replicate (3990 + q) (.int .u8 0))
        have hcv := run_convert_bytes_back (P := Tryd.prog) (w5.alloc (.cells (List.replicate (3990 + q) (.int .u8 0)).toArray 5)) 22 9 5 ⟨w5.heap.size, 0, none⟩ (3990 + q) (List.replicate (3990 + q) 0) Tryd.underlying22 Tryd.underlying5 Tryd.underlying9 (fun j hj => by
          have hj' : j < 3990 + q := by simpa using hj
          rw [head_add, hrow.cell j, List.getElem?_replicate, if_pos hj']
          simp)
        rw [List.length_replicate] at hcv
        have hbl := (Below.refl w5.heap.size w5).alloc (Nat.le_refl _) (.cells (List.replicate (3990 + q) (.int .u8 0)).toArray 5)
        clear hrow
        obtain ⟨Z, hZ⟩ : ∃ Z : ByteArray, (⟨(List.replicate (3990 + q) (0 : UInt8)).toArray⟩ : ByteArray) = Z := ⟨_, rfl⟩
        have hZl : Z.size ≤ 4009 := by
          rw [← hZ, Lib.size_eq]
          simp
          omega
        rw [hZ] at hcv
        have hown6 := hown5.alloc (.cells (List.replicate (3990 + q) (.int .u8 0)).toArray 5)
        have hd6 := ha5.1.below hbl
        have hb6 := hb5.trans (hbl.mono hb5.size)
        obtain ⟨w6, hw6⟩ : ∃ w6, w5.alloc (.cells (List.replicate (3990 + q) (.int .u8 0)).toArray 5) = w6 := ⟨_, rfl⟩
        rw [hw6] at hmk0 hcv hown6 hd6 hb6
        have hsz6 : w.heap.size + 1 ≤ w6.heap.size := by have := hd6.lt; omega
        have hzs : Hid (sizes (ss ++ [Z]) ≤ 4060) := by
          show _ ≤ _
          have := sizes_bd ss 10 hss.out
          unfold sizes at this ⊢
          rw [List.map_append, List.sum_append]
          simp
          omega
        have hss7 : Hid (∀ y ∈ ss ++ [Z], y.size ≤ 4009) := fun y hy => by
          rcases List.mem_append.1 hy with h | h
          · have := hss.out y h; omega
          · rw [List.mem_singleton.1 h]; exact hZl
        clear hZ hw6 ec hown5 hbl hown4
        go_wp2_with (at_builtin; refine wpList_append_own _ rfl _ _ 34 rfl (w.heap.size + 1) 9 i0 (.string ⟨#[]⟩) 1 16 Tryd.underlying34 hi hz0 hz1 hz2 rfl (by decide) _ _ _ rfl (hown6.alloc _) ⟨w6.heap.size, 0, none⟩ 1 1 [.string Z] rfl rfl (cell_one_new _ _ _) (fun x hx => by simp at hx; subst hx; rfl) (by unfold maxLen; omega) (by omega) (by simp; omega) ?_; intro v' w7 hown' hgrow3 hnil3)
        have hU : Below (w.heap.size + 1) w6 w7 := ((Below.refl _ w6).alloc hsz6 _).grown hgrow3 (by simp; omega) (own_block hown6)
        have hd7 := hd6.under hU
        have hb7 := hb6.trans (hU.mono (by omega))
        have hv7 : Hid (v' ≠ .slice none 0 0) := fun e => by have := (hnil3.1 e).2; omega
        have hown7 : Hid (w7.ownsRow (w.heap.size + 1) 9 1 v' (k + 1) ((ss ++ [Z]).map Value.string)) := by
          show World.ownsRow _ _ _ _ _ _ _
          rw [List.map_append]; exact hown'
        clear hown' hgrow3 hnil3 hown6 hU hmk0 hcv
        go_wp2_with fail
        have hblF := (Below.refl w7.heap.size w7).alloc (Nat.le_refl _) (.cells (markSepS.map Value.string).toArray 9)
        refine (of_d w.heap.size p cap (2 + 2 * k + 2 + 2) bs w7.heap.size 5 5 markSepS _ (hd7.below hblF) (by omega) rfl (by omega) (by omega) (by simp) (by have := hd7.lt; omega) (fun i hi => ?_)).mono ?_
        · have := (OwnArr.made w7 9 (markSepS.map Value.string)).cell i
          have hl : i < markSepS.length := hi
          rw [List.getElem?_map, List.getElem?_eq_getElem hl] at this
          rw [List.getElem?_eq_getElem hl]
          exact this
        · rintro e w9 ⟨y, hy, rfl, ha9⟩
          have hyl := markSepS_len y hy
          clear hy
          have HO9 := own_but (hown7.out.alloc (.cells (markSepS.map Value.string).toArray 9)) ha9.2 (by omega)
          have hB9 := (hb7.trans (hblF.mono hb7.size)).trans (ha9.2.below (Nat.le_refl _) (by have := hd7.lt; simp; omega))
          replace HO9 := Lib.hid HO9
          go_wp2_with fail
          go_ret2
          exact ⟨_, (ss ++ [Z]), y, (by simp; omega), hzs.out, hyl, rfl, own_up (own_strs' (by rw [List.length_append, hlen]; exact HO9.out) (by simp; omega) (fun x hx => by have := hss7.out x hx; omega) hv7.out) (by omega), hB9⟩
end Go.Proofs.YtnbpdgkpamgcfaaDoor
