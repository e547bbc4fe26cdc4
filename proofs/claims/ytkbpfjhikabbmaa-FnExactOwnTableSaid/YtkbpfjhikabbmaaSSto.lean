/- The laws' own helpers on lists of lists: szIntSS, toIntSS. -/
import Derived.Test.YtkbpfjhikabbmaaSSlaw
import Derived.Test.YtkbpfjhikabbmaaOwnArr
namespace Go.Proofs.Ytkbpfjhikabbmaa
open Go.RowKit

theorem infoSlS : (Try.prog.info? 33).map (fun i => (i.zero, i.size, i.bytes)) = some (some (.slice none 0 0), 1, 24) := by kernel_rfl

set_option maxHeartbeats 400000 in
theorem szI_leftS (p : Option Addr) (cap n : Nat) (left : Int) (w : World) (hn : n ≤ 9223372036854775807) (h0 : 0 ≤ left ∧ left ≤ 1048576) :
    Calls Try.prog 33 #[.slice p n cap, .int .i64 left] w fun e w' => e = .returned (.int .i64 (if (n : Int) ≤ left then left - (n : Int) else -1)) ∧ w = w' := by
  by_cases h : (n : Int) ≤ left
  · rw [if_pos h]
    have h' : ¬ (left - (n : Int) < 0) := by omega
    have hw : IntKind.i64.wrap (left - (n : Int)) = left - (n : Int) := IntWalk.i64_in _ (by omega)
    go_enter Try.func33, Try.ntmps33
    go_wp2
    go_ret
    exact ⟨rfl, rfl⟩
  · rw [if_neg h]
    have h' : (left - (n : Int) < 0) := by omega
    have hw : IntKind.i64.wrap (left - (n : Int)) = left - (n : Int) := IntWalk.i64_in _ (by omega)
    go_enter Try.func33, Try.ntmps33
    go_wp2
    go_ret
    exact ⟨rfl, rfl⟩

theorem OwnArr.otherS {w : World} {b : Nat} {e : TypeId} {xs : List Value} (h : OwnArr w b e xs) {a : Addr} (ha : b ≠ a.block) (v : Value) : OwnArr (w.setCell a v) b e xs := by
  unfold OwnArr at *
  rw [Below.heap_setCell _ _ _ _ ha]; exact h

/-- the lengths of lists -/
def lens (Ls : List (List Int)) : List Nat := Ls.map List.length
theorem lens_len (Ls : List (List Int)) : (lens Ls).length = Ls.length := by unfold lens; rw [List.length_map]
theorem lens_get {Ls : List (List Int)} {i : Nat} {x : List Int} (h : Ls[i]? = some x) : (lens Ls)[i]?.getD 0 = x.length := by unfold lens; rw [List.getElem?_map, h]; rfl
theorem lens_flat (Ls : List (List Int)) : Ls.flatten.length = sumS (lens Ls) := by
  induction Ls with
  | nil => rfl
  | cons x Ls ih => rw [List.flatten_cons, List.length_append, ih]; unfold lens; rw [List.map_cons, sumS_cons]

set_option maxRecDepth 4000 in
set_option maxHeartbeats 1000000 in
theorem szSS_any (p : Option Addr) (cap : Nat) (Ls : List (List Int)) (w : World) (lo hi : Nat) (hin : RdS lo hi w p Ls) (hl : Ls.length ≤ 9223372036854775807) (hx : ∀ x ∈ Ls, x.length ≤ 9223372036854775807) :
    Calls Try.prog 16 #[.slice p Ls.length cap, .int .i64 1048576] w fun e w' => e = .returned (.int .i64 (if Ls.length + sumS (lens Ls) ≤ 1048576 then 1048576 - ((Ls.length + sumS (lens Ls) : Nat) : Int) else -1)) ∧ w = w' := by
  have H1 := Lib.hid hin
  have HX := Lib.hid hx
  have HG := Lib.hid (fun i x (h : Ls[i]? = some x) => lens_get h)
  have HS := Lib.hid (fun i (h : i < (lens Ls).length) => sumS_le h)
  have HT := Lib.hid (fun i (h : i < (lens Ls).length) => sumS_take_succ h)
  have HA := Lib.hid (sumS_all (lens Ls))
  rw [lens_len] at HS HT HA
  obtain ⟨T, hT⟩ : ∃ T : Nat → Nat, (fun i => sumS ((lens Ls).take i)) = T := ⟨_, rfl⟩
  have HTT : Hid (∀ i, sumS ((lens Ls).take i) = T i) := fun i => by rw [← hT]
  have hT0 : T 0 = 0 := by rw [← HTT.out]; rfl
  obtain ⟨R, hR⟩ : ∃ R, sumS (lens Ls) = R := ⟨_, rfl⟩
  rw [hR] at HS HA ⊢
  simp only [HTT.out] at HS HT HA
  obtain ⟨n, hn⟩ : ∃ n, Ls.length = n := ⟨_, rfl⟩
  have HN := Lib.hid hn
  rw [hn] at hl HS HT HA ⊢
  have HT0 := Lib.hid hT0
  obtain ⟨Z, hZ⟩ : ∃ Z : Int, (if n + R ≤ 1048576 then 1048576 - ((n + R : Nat) : Int) else -1) = Z := ⟨_, rfl⟩
  rw [hZ]
  have HZ := Lib.hid hZ
  clear hin hT hR hn hT0 hx hZ
  by_cases hn0 : n ≤ 1048576
  · have h0 : ¬ (1048576 - (n : Int) < 0) := by omega
    go_enter Try.func16, Try.ntmps16
    go_wp2_with fail
    go_loop [1, 5] (fun v i => ∃ j : Nat, j ≤ n ∧ n + T j ≤ 1048576 ∧ v = .int .i64 (1048576 - (n : Int) - (T j : Int)) ∧ i = .int .i64 (j : Int)) (fun _ i => n - (intOf i).toNat)
    case atStart => exact ⟨0, Nat.zero_le _, by rw [HT0.out]; omega, by rw [HT0.out]; simp, rfl⟩
    case round =>
      obtain ⟨j, hj, hle, rfl, rfl⟩ := hrel
      by_cases hlt : j < n
      · have hji : (j : Int) < (n : Int) := by omega
        have hwj : IntKind.i64.wrap ((j : Int) + 1) = (j : Int) + 1 := IntWalk.i64_in _ (by omega)
        obtain ⟨b, off, q, c, x, hx, rfl, c1, -⟩ := H1.out.at (i := j) (by rw [HN.out]; exact hlt)
        have hg := HG.out j x hx
        have hxl := HX.out x (List.mem_of_getElem? hx)
        have hs := HS.out j hlt
        have ht := HT.out j hlt
        rw [hg] at hs ht
        obtain ⟨m, hm⟩ : ∃ m, x.length = m := ⟨_, rfl⟩
        rw [hm] at c1 hs ht hxl
        obtain ⟨t, htt⟩ : ∃ t, T j = t := ⟨_, rfl⟩
        rw [htt] at hs ht hle ⊢
        have SL := fun w' => szI_leftS q c m (1048576 - (n : Int) - (t : Int)) w' hxl (by omega)
        have HTE := Lib.hid ht
        by_cases hmt : (m : Int) ≤ 1048576 - (n : Int) - (t : Int)
        · rw [if_pos hmt] at SL
          have h00 : ¬ (1048576 - (n : Int) - (t : Int) - (m : Int) < 0) := by omega
          replace SL := Lib.hid SL
          clear hx hg hm htt ht hs
          go_wp2_with fail
          refine (SL.out _).mono ?_
          rintro e w2 ⟨rfl, rfl⟩
          go_wp2_with fail
          go_round
          case rel => exact ⟨j + 1, by omega, by rw [HTE.out]; omega, by rw [HTE.out]; congr 1; omega, by go_num⟩
          case measure => simp [intOf]; omega
        · rw [if_neg hmt] at SL
          have hz := HZ.out
          rw [if_neg (by omega)] at hz
          subst hz
          replace SL := Lib.hid SL
          clear hx hg hm htt ht hs
          go_wp2_with fail
          refine (SL.out _).mono ?_
          rintro e w2 ⟨rfl, rfl⟩
          go_wp2_with fail
          go_ret
          exact ⟨rfl, rfl⟩
      · have hjn : j = n := by omega
        subst hjn
        have hno : ¬ (j : Int) < (j : Int) := by omega
        have hr := HA.out
        rw [hr] at hle ⊢
        have hz := HZ.out
        rw [if_pos hle] at hz
        have hz2 := Lib.hid hz
        clear hz
        go_wp2_with fail
        go_ret
        exact ⟨by rw [← hz2.out]; exact ret_int (by omega), rfl⟩
  · have h0 : 1048576 - (n : Int) < 0 := by omega
    have hz := HZ.out
    rw [if_neg (by omega)] at hz
    subst hz
    go_enter Try.func16, Try.ntmps16
    go_wp2_with fail
    go_ret
    exact ⟨rfl, rfl⟩

/-- the copies that are made so far -/
def cpyV (Ls : List (List Int)) (bs : Nat → Nat) (j : Nat) : Nat → Value := fun i => if i < j then .slice (some ⟨bs i, 0, none⟩) (Ls[i]?.getD []).length (Ls[i]?.getD []).length else .slice none 0 0
def cpyC (Ls : List (List Int)) (bs : Nat → Nat) (j : Nat) : List Value := (List.range Ls.length).map (cpyV Ls bs j)
theorem cpyC_len (Ls : List (List Int)) (bs : Nat → Nat) (j : Nat) : (cpyC Ls bs j).length = Ls.length := by unfold cpyC; rw [List.length_map, List.length_range]
theorem cpyC_zero (Ls : List (List Int)) (bs : Nat → Nat) : cpyC Ls bs 0 = List.replicate Ls.length (.slice none 0 0) := by
  unfold cpyC cpyV
  apply List.ext_getElem?
  intro i
  rw [List.getElem?_map]
  by_cases h : i < Ls.length
  · rw [List.getElem?_range h]; simp [h]
  · rw [List.getElem?_eq_none (by rw [List.length_range]; omega), List.getElem?_eq_none (by rw [List.length_replicate]; omega)]; rfl
theorem cpyC_set {Ls : List (List Int)} {bs : Nat → Nat} {j b : Nat} {x : List Int} (h : Ls[j]? = some x) : (cpyC Ls bs j).set j (.slice (some ⟨b, 0, none⟩) x.length x.length) = cpyC Ls (fun i => if i = j then b else bs i) (j + 1) := by
  have hj := (List.getElem?_eq_some_iff.1 h).1
  apply List.ext_getElem?
  intro i
  rw [List.getElem?_set, cpyC_len]
  by_cases e : j = i
  · subst e
    rw [if_pos rfl, if_pos hj]
    unfold cpyC cpyV
    rw [List.getElem?_map, List.getElem?_range hj]
    simp [h]
  · rw [if_neg e]
    unfold cpyC cpyV
    rw [List.getElem?_map, List.getElem?_map]
    by_cases hi : i < Ls.length
    · rw [List.getElem?_range hi]
      simp only [Option.map_some, Option.some.injEq]
      have e2 : ¬ i = j := fun h => e h.symm
      by_cases h1 : i < j
      · rw [if_pos h1, if_pos (by omega), if_neg e2]
      · rw [if_neg h1, if_neg (by omega)]
    · rw [List.getElem?_eq_none (by rw [List.length_range]; omega)]; rfl
/-- copies of lists, each in a block of its own behind a world -/
structure CpyS (lo : Nat) (w : World) (Ls : List (List Int)) (g : Nat) (bs : Nat → Nat) (j : Nat) : Prop where
  arr : OwnArr w g 33 (cpyC Ls bs j)
  low : lo ≤ g
  inn : ∀ i x, i < j → Ls[i]? = some x → OwnArr w (bs i) 3 (iv x)
  ge : ∀ i, i < j → i < Ls.length → lo ≤ bs i ∧ bs i ≠ g
  apart : ∀ i k, i < j → k < j → i < Ls.length → k < Ls.length → i ≠ k → bs i ≠ bs k

theorem CpyS.owns {lo : Nat} {w : World} {Ls : List (List Int)} {g : Nat} {bs : Nat → Nat} (h : CpyS lo w Ls g bs Ls.length) : OwnS lo w.heap.size w (some ⟨g, 0, none⟩) (lens Ls) g bs (fun i => (Ls[i]?.getD []).length) := by
  have hg := h.arr.lt
  refine ⟨?_, ⟨h.low, hg⟩, Nat.le_refl _, fun i hi => ?_, fun i hi => ?_, fun i k hi hk => ?_⟩
  · have := Rd.of_own h.arr (Nat.le_refl g) (Nat.lt_succ_self g) (by omega) Ls.length
    rw [List.take_of_length_le (by rw [cpyC_len]; exact Nat.le_refl _)] at this
    have e : cpyC Ls bs Ls.length = (List.range (lens Ls).length).map fun i => Value.slice (some ⟨bs i, 0, none⟩) ((lens Ls)[i]?.getD 0) ((Ls[i]?.getD []).length) := by
      unfold cpyC cpyV
      rw [lens_len]
      apply List.map_congr_left
      intro i hi
      have hi' := List.mem_range.1 hi
      rw [if_pos hi', lens_get (List.getElem?_eq_getElem hi')]
      rw [List.getElem?_eq_getElem hi']; rfl
    rw [← e]; exact this
  · rw [lens_len] at hi
    have ho := h.inn i Ls[i] hi (List.getElem?_eq_getElem hi)
    rw [lens_get (List.getElem?_eq_getElem hi)]
    exact ⟨ho.lt, fun _ => ⟨bs i, _, rfl, Nat.le_refl _, Nat.lt_succ_self _, ho, by rw [iv_length]; exact Nat.le_refl _⟩⟩
  · rw [lens_len] at hi
    obtain ⟨l1, l2⟩ := h.ge i hi hi
    exact ⟨l1, (h.inn i Ls[i] hi (List.getElem?_eq_getElem hi)).lt, l2⟩
  · rw [lens_len] at hi hk
    exact h.apart i k hi hk hi hk
theorem CpyS.rds {lo : Nat} {w : World} {Ls : List (List Int)} {g : Nat} {bs : Nat → Nat} (h : CpyS lo w Ls g bs Ls.length) : RdS lo w.heap.size w (some ⟨g, 0, none⟩) Ls := by
  have hg := h.arr.lt
  have := Rd.of_own h.arr h.low hg (Nat.le_refl _) Ls.length
  rw [List.take_of_length_le (by rw [cpyC_len]; exact Nat.le_refl _)] at this
  refine ⟨_, this, cpyC_len _ _ _, fun i x hx => ?_⟩
  have hi := (List.getElem?_eq_some_iff.1 hx).1
  have ho := h.inn i x hi hx
  refine ⟨some ⟨bs i, 0, none⟩, x.length, ?_, ?_⟩
  · unfold cpyC cpyV
    rw [List.getElem?_map, List.getElem?_range hi]
    simp only [Option.map_some, if_pos hi, hx, Option.getD_some]
  · have := Rd.of_own ho (h.ge i hi hi).1 ho.lt (Nat.le_refl _) x.length
    rwa [List.take_of_length_le (by rw [iv_length]; exact Nat.le_refl _)] at this

/-- what toIntSS gives -/
def MadeS (w : World) (Ls : List (List Int)) (e : Ending) (w' : World) : Prop := ∃ g bs, e = .returned (.slice (some ⟨g, 0, none⟩) Ls.length Ls.length) ∧ CpyS w.heap.size w' Ls g bs Ls.length ∧ Below w.heap.size w w'

set_option maxRecDepth 4000 in
set_option maxHeartbeats 2000000 in
theorem toSS_any (p : Option Addr) (cap : Nat) (Ls : List (List Int)) (w : World) (lo hi : Nat) (hin : RdS lo hi w p Ls) (hl : Ls.length ≤ 1048576) (hx : ∀ x ∈ Ls, x.length ≤ 1048576) :
    Calls Try.prog 18 #[.slice p Ls.length cap] w (MadeS w Ls) := by
  have hmk0 := @run_make_row' Try.prog 22 33 (.slice none 0 0) 24 Try.underlying22 infoSlS rfl .i64 .i64 Ls.length (by omega) (by omega)
  rw [madeCells_one, ← cpyC_zero Ls (fun _ => 0)] at hmk0
  have hmk := hmk0 w
  obtain ⟨w2, hw2⟩ : ∃ w2, w2 = w.alloc (.cells (cpyC Ls (fun _ => 0) 0).toArray 33) := ⟨_, rfl⟩
  rw [← hw2] at hmk
  have HC0 : Hid (CpyS w.heap.size w2 Ls w.heap.size (fun _ => 0) 0) := by
    refine ⟨by rw [hw2]; exact OwnArr.made _ _ _, Nat.le_refl _, fun i x h => by omega, fun i h => by omega, fun i k h => by omega⟩
  have HB0 : Hid (Below w.heap.size w w2) := by
    show Below _ _ _
    rw [hw2]; exact (Below.refl _ _).alloc (Nat.le_refl _) _
  have H1 := Lib.hid hin
  have HX := Lib.hid hx
  obtain ⟨n, hn⟩ : ∃ n, Ls.length = n := ⟨_, rfl⟩
  have HN := Lib.hid hn
  rw [hn] at hl hmk ⊢
  obtain ⟨g, hg⟩ : ∃ g, w.heap.size = g := ⟨_, rfl⟩
  have HGG := Lib.hid hg
  rw [hg] at hmk HC0 HB0
  clear hin hx hn hmk0 hw2 hg
  go_enter Try.func18, Try.ntmps18
  go_wp2_with fail
  clear hmk
  go_loopw [4] (fun i wr => ∃ (j : Nat) (bs : Nat → Nat), j ≤ n ∧ i = .int .i64 (j : Int) ∧ Hid (CpyS g wr Ls g bs j) ∧ Hid (Below g w wr)) (fun i _ => n - (intOf i).toNat)
  case atStart => exact ⟨0, _, Nat.zero_le _, rfl, HC0, HB0⟩
  case round =>
    obtain ⟨j, bs, hj, rfl, HC, HB⟩ := hrel
    clear HC0 HB0
    by_cases hlt : j < n
    · have hji : (j : Int) < (n : Int) := by omega
      have hwj : IntKind.i64.wrap ((j : Int) + 1) = (j : Int) + 1 := IntWalk.i64_in _ (by omega)
      have HBg : Below w.heap.size w wr := by rw [HGG.out]; exact HB.out
      obtain ⟨b, off, q, c, x, hx, rfl, c1, r1⟩ := (H1.out.bel HBg).at (i := j) (by rw [HN.out]; exact hlt)
      have hxl := HX.out x (List.mem_of_getElem? hx)
      have TI := toI_any q c x wr _ _ r1 hxl
      have hsz : g ≤ wr.heap.size := by have := HBg.size; rw [HGG.out] at this; exact this
      have hgl := HC.out.arr.lt
      have NX : Hid (∀ (bj : Nat) (w' : World), wr.heap.size ≤ bj → OwnArr w' bj 3 (iv x) → Below wr.heap.size wr w' → w'.cell? ⟨g, j, none⟩ = some (.slice none 0 0) ∧ w'.frozen? ⟨g, j, none⟩ = false ∧ CpyS g (w'.setCell ⟨g, j, none⟩ (.slice (some ⟨bj, 0, none⟩) x.length x.length)) Ls g (fun i => if i = j then bj else bs i) (j + 1) ∧ Below g w (w'.setCell ⟨g, j, none⟩ (.slice (some ⟨bj, 0, none⟩) x.length x.length))) := by
        intro bj w' hbj ho hb
        have ha := HC.out.arr.below hb hgl
        have hjl : j < Ls.length := by rw [HN.out]; exact hlt
        refine ⟨(ha.cell j).trans ?_, ha.free j, ⟨?_, HC.out.low, fun i y hi hy => ?_, fun i hi hil => ?_, fun i k hi hk hil hkl hne => ?_⟩, (HB.out.trans (hb.mono hsz)).setCell (Nat.le_refl _) _⟩
        · unfold cpyC cpyV
          rw [List.getElem?_map, List.getElem?_range hjl]
          simp
        · have := ha.set j (.slice (some ⟨bj, 0, none⟩) x.length x.length)
          rw [cpyC_set hx] at this
          exact this
        · show OwnArr _ (if i = j then bj else bs i) _ _
          by_cases e : i = j
          · subst e
            rw [if_pos rfl]
            rw [hx] at hy
            simp only [Option.some.injEq] at hy
            subst hy
            exact ho.otherS (by show bj ≠ g; omega) _
          · rw [if_neg e]
            have hij : i < j := by omega
            have h3 := HC.out.inn i y hij hy
            have h4 := (HC.out.ge i hij (List.getElem?_eq_some_iff.1 hy).1).2
            exact (h3.below hb h3.lt).otherS (by show bs i ≠ g; exact h4) _
        · show g ≤ (if i = j then bj else bs i) ∧ (if i = j then bj else bs i) ≠ g
          by_cases e : i = j
          · rw [if_pos e]; omega
          · rw [if_neg e]; exact HC.out.ge i (by omega) hil
        · show (if i = j then bj else bs i) ≠ (if k = j then bj else bs k)
          have old : ∀ i', i' < j → i' < Ls.length → bs i' < wr.heap.size := fun i' h1 h2 => (HC.out.inn i' Ls[i'] h1 (List.getElem?_eq_getElem h2)).lt
          by_cases e : i = j
          · rw [if_pos e, if_neg (by omega)]
            have := old k (by omega) hkl
            omega
          · rw [if_neg e]
            by_cases e2 : k = j
            · rw [if_pos e2]
              have := old i (by omega) hil
              omega
            · rw [if_neg e2]
              exact HC.out.apart i k (by omega) (by omega) hil hkl hne
      obtain ⟨m, hm⟩ : ∃ m, x.length = m := ⟨_, rfl⟩
      rw [hm] at c1 TI NX
      replace TI := Lib.hid TI
      clear hx hm r1 hxl HBg HC HB
      go_wp2_with fail
      refine TI.out.mono ?_
      rintro e w3 ⟨bj, hb1, -, rfl, ho, hb⟩
      obtain ⟨d1, d2, d3, d4⟩ := NX.out bj w3 hb1 ho hb
      have D3 := Lib.hid d3
      have D4 := Lib.hid d4
      clear TI c1 d3 d4 ho hb NX hb1
      go_wp2_with fail
      go_roundw
      case rel => exact ⟨j + 1, _, by omega, by go_num, D3, D4⟩
      case measure => simp [intOf]; omega
    · have hjn : j = n := by omega
      subst hjn
      have hno : ¬ (j : Int) < (j : Int) := by omega
      go_wp2_with fail
      go_ret
      exact ⟨g, bs, by rw [HN.out]; rfl, by rw [HN.out, HGG.out]; exact HC.out, by rw [HGG.out]; exact HB.out⟩
end Go.Proofs.Ytkbpfjhikabbmaa
