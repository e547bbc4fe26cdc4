/- The laws' own helpers on slices of numbers: szIntS, toIntS, eqIntS, markIntS, heldIntS. -/
import Derived.Test.YtoedcklgpmhnnaaRd
import Derived.Deep.QuietTactic
import Derived.BigQuiet
import Derived.IntWalk
namespace Go.Proofs.Ytoedcklgpmhnnaa
open Go.RowKit

theorem infoInt : (Try.prog.info? 3).map (fun i => (i.zero, i.size, i.bytes)) = some (some (.int .i64 0), 1, 8) := by kernel_rfl

set_option maxHeartbeats 400000 in
theorem szI_any (p : Option Addr) (cap n : Nat) (w : World) (hn : n ≤ 9223372036854775807) :
    Calls Try.prog 29 #[.slice p n cap, .int .i64 1048576] w fun e w' => e = .returned (.int .i64 (if n ≤ 1048576 then 1048576 - (n : Int) else -1)) ∧ w = w' := by
  by_cases h : n ≤ 1048576
  · have h' : ¬ (1048576 - (n : Int) < 0) := by omega
    go_enter Try.func29, Try.ntmps29
    go_wp2
    go_ret
    exact ⟨rfl, rfl⟩
  · have h' : (1048576 - (n : Int) < 0) := by omega
    go_enter Try.func29, Try.ntmps29
    go_wp2
    go_ret
    exact ⟨rfl, rfl⟩

set_option maxHeartbeats 400000 in
theorem toI_any (p : Option Addr) (cap : Nat) (xs : List Int) (w : World) (lo hi : Nat) (hin : Ri lo hi w p xs) (hreach : xs.length ≤ 1048576) :
    Calls Try.prog 12 #[.slice p xs.length cap] w fun e w' => ∃ b, w.heap.size ≤ b ∧ b < w'.heap.size ∧ e = .returned (.slice (some ⟨b, 0, none⟩) xs.length xs.length) ∧ OwnArr w' b 3 (iv xs) ∧ Below w.heap.size w w' := by
  have hmk0 := @run_make_row' Try.prog 22 3 (.int .i64 0) 8 Try.underlying22 infoInt rfl .i64 .i64 xs.length (by omega) (by omega)
  rw [madeCells_one, ← filled_zero (fun i => .int .i64 (xs[i]?.getD 0)) (.int .i64 0) xs.length] at hmk0
  obtain ⟨w1, hw1⟩ : ∃ w1, w1 = w.alloc (.cells (filled (fun i => .int .i64 (xs[i]?.getD 0)) (.int .i64 0) xs.length 0).toArray 3) := ⟨_, rfl⟩
  have hown1 : OwnArr w1 w.heap.size 3 (filled (fun i => .int .i64 (xs[i]?.getD 0)) (.int .i64 0) xs.length 0) := by rw [hw1]; exact OwnArr.made _ _ _
  have hbel1 : Below w.heap.size w w1 := by rw [hw1]; exact (Below.refl _ _).alloc (Nat.le_refl _) _
  have hmk := hmk0 w
  rw [← hw1] at hmk
  clear hmk0 hw1
  have HIN := Lib.hid hin
  have HO := Lib.hid hown1
  clear hin hown1
  go_enter Try.func12, Try.ntmps12
  go_wp2
  clear hmk
  go_loopw [4] (fun i wr => ∃ (k : Nat), k ≤ xs.length ∧ i = .int .i64 k ∧ OwnArr wr w.heap.size 3 (filled (fun i => .int .i64 (xs[i]?.getD 0)) (.int .i64 0) xs.length k) ∧ Below w.heap.size w wr) (fun i _ => xs.length - (intOf i).toNat)
  case atStart => exact ⟨0, Nat.zero_le _, rfl, HO.out, hbel1⟩
  case round =>
    obtain ⟨k, hk, rfl, hown, hbl⟩ := hrel
    by_cases hlt : k < xs.length
    · obtain ⟨b, off, rfl, _, hb', hb, hc⟩ := HIN.out.int (by omega)
      have hcell := (hbl.cell (p := ⟨b, off + k, none⟩) hb).trans (hc k hlt)
      have hold := hown.cell k
      rw [filled_get _ _ _ _ _ hlt, if_neg (by omega)] at hold
      have hfree := hown.free k
      have hset := hown.set k (.int .i64 (xs[k]?.getD 0))
      rw [filled_set (fun i => .int .i64 (xs[i]?.getD 0))] at hset
      obtain ⟨s, hs⟩ : ∃ s, s = xs[k]?.getD 0 := ⟨_, rfl⟩
      rw [← hs] at hcell hset
      have HS := Lib.hid hset
      have HO2 := Lib.hid hown
      clear hs hset hc hown HO
      go_wp2
      go_roundw
      case rel => exact ⟨k + 1, by omega, by go_num, HS.out, hbl.setCell (p := ⟨w.heap.size, k, none⟩) (Nat.le_refl _) _⟩
      case measure => simp [intOf]; omega
    · have HO2 := Lib.hid hown
      have hlt2 := hown.lt
      clear hown HO
      go_wp2
      go_ret
      refine ⟨w.heap.size, Nat.le_refl _, hlt2, rfl, ?_, hbl⟩
      have e : filled (fun i => .int .i64 (xs[i]?.getD 0)) (.int .i64 0) xs.length k = iv xs := by
        apply List.ext_getElem?
        intro i
        rcases Nat.lt_or_ge i xs.length with h | h
        · rw [filled_get _ _ _ _ _ h, if_pos (by omega), iv_get h]
        · rw [List.getElem?_eq_none (by rw [filled_len]; exact h), List.getElem?_eq_none (by rw [iv_length]; exact h)]
      rw [← e]; exact HO2.out

set_option maxHeartbeats 400000 in
theorem eqI_same (p p' : Option Addr) (cap cap' : Nat) (xs : List Int) (w : World) (lo hi lo' hi' : Nat) (hin : Ri lo hi w p xs) (hin' : Ri lo' hi' w p' xs) (hlen : xs.length ≤ 9223372036854775807) :
    Calls Try.prog 15 #[.slice p xs.length cap, .slice p' xs.length cap'] w fun e w' => e = .returned (.bool true) ∧ Below w.heap.size w w' := by
  by_cases hn : 0 < xs.length
  · obtain ⟨b, off, rfl, _, _, hb, hc⟩ := hin.int hn
    obtain ⟨b', off', rfl, _, _, hb', hc'⟩ := hin'.int hn
    clear hin hin'
    go_enter Try.func15, Try.ntmps15
    have HC := Lib.hid hc
    have HC' := Lib.hid hc'
    clear hc hc'
    go_wp2
    go_loopw [5] (fun i wr => ∃ (k : Nat), k ≤ xs.length ∧ i = .int .i64 k ∧ Below w.heap.size w wr) (fun i _ => xs.length - (intOf i).toNat)
    case atStart => exact ⟨0, Nat.zero_le _, rfl, Below.refl _ _⟩
    case round =>
      obtain ⟨k, hk, rfl, hbl⟩ := hrel
      by_cases hlt : k < xs.length
      · have hcell := (hbl.cell (p := ⟨b, off + k, none⟩) hb).trans (HC.out k hlt)
        have hcell' := (hbl.cell (p := ⟨b', off' + k, none⟩) hb').trans (HC'.out k hlt)
        obtain ⟨s, hs⟩ : ∃ s, s = xs[k]?.getD 0 := ⟨_, rfl⟩
        rw [← hs] at hcell hcell'
        clear hs
        have hk0 : (0 : Int) ≤ (k : Int) := by omega
        have hk1 : (k : Int) < (xs.length : Int) := by omega
        go_wp2
        go_quiet (fail)
        go_wp2
        go_roundw
        case rel => exact ⟨k + 1, by omega, by go_num, bel_drewN hbl _⟩
        case measure => simp [intOf]; omega
      · go_wp2
        go_ret
        exact ⟨rfl, hbl⟩
  · have hz : xs = [] := List.length_eq_zero_iff.1 (by omega)
    subst hz
    clear hin hin' hlen hn
    go_enter Try.func15, Try.ntmps15
    go_wp2
    refine wp_loop_rounds 1 ?_
    rw [rounds_succ]
    go_wp2
    go_ret
    exact ⟨rfl, Below.refl _ _⟩

/-- what markIntS leaves behind n places: the marks from k on, and what lay behind them -/
def markedI (xs : List Value) (k n : Nat) : List Value := (List.range n).map (fun i => Value.int .i64 ((k + i : Nat) : Int)) ++ xs.drop n
theorem markedI_get (xs : List Value) (k n i : Nat) (h : i < n) : (markedI xs k n)[i]? = some (.int .i64 ((k + i : Nat) : Int)) := by
  unfold markedI
  rw [List.getElem?_append_left (by simpa using h)]
  simp [h]
theorem markedI_get' (xs : List Value) (k n i : Nat) (h : n ≤ i) : (markedI xs k n)[i]? = xs[i]? := by
  unfold markedI
  rw [List.getElem?_append_right (by simpa using h), List.getElem?_drop]
  congr 1
  simp
  omega
theorem markedI_len (xs : List Value) (k n : Nat) (h : n ≤ xs.length) : (markedI xs k n).length = xs.length := by
  simp [markedI]; omega
theorem markedI_set (xs : List Value) (k n : Nat) (h : n < xs.length) : (markedI xs k n).set n (.int .i64 ((k + n : Nat) : Int)) = markedI xs k (n + 1) := by
  apply List.ext_getElem?
  intro i
  rw [List.getElem?_set, markedI_len _ _ _ (by omega)]
  by_cases hi : n = i
  · subst hi
    rw [if_pos rfl, if_pos h, markedI_get _ _ _ _ (by omega)]
  · rw [if_neg hi]
    rcases Nat.lt_or_ge i n with h' | h'
    · rw [markedI_get _ _ _ _ h', markedI_get _ _ _ _ (by omega)]
    · rw [markedI_get' _ _ _ _ h', markedI_get' _ _ _ _ (by omega)]
/-- n marks from k on -/
def mk (k n : Nat) : List Int := (List.range n).map (fun i => ((k + i : Nat) : Int))
theorem mk_length (k n : Nat) : (mk k n).length = n := by simp [mk]
theorem mk_get (k n i : Nat) (h : i < n) : (mk k n)[i]?.getD 0 = ((k + i : Nat) : Int) := by simp [mk, h]
theorem marked_take (xs : List Value) (k n : Nat) : (markedI xs k n).take n = iv (mk k n) := by
  unfold markedI iv mk
  rw [List.take_append_of_le_length (by simp), List.take_of_length_le (by simp), List.map_map]
  rfl

set_option maxHeartbeats 400000 in
theorem markI_arr (g n cap k : Nat) (xs : List Value) (w : World) (ho : OwnArr w g 3 xs) (hn : n ≤ xs.length) (h1 : k + n ≤ 10000000) :
    Calls Try.prog 21 #[.slice (some ⟨g, 0, none⟩) n cap, .int .i64 (k : Int)] w fun e w' => e = .returned (.int .i64 ((k + n : Nat) : Int)) ∧ OwnArr w' g 3 (markedI xs k n) ∧ Keep g (g + 1) w w' := by
  have HO := Lib.hid ho
  clear ho
  go_enter Try.func21, Try.ntmps21
  go_wp2
  go_loopw [1, 5] (fun c i wr => ∃ (m : Nat), m ≤ n ∧ i = .int .i64 m ∧ c = .int .i64 ((k + m : Nat) : Int) ∧ Hid (OwnArr wr g 3 (markedI xs k m)) ∧ Keep g (g + 1) w wr) (fun _ i _ => n - (intOf i).toNat)
  case atStart => exact ⟨0, Nat.zero_le _, rfl, by go_num, by show OwnArr _ _ _ _; simpa [markedI] using HO.out, Keep.refl _ _ _⟩
  case round =>
    obtain ⟨m, hm, rfl, rfl, HR, hbl⟩ := hrel
    by_cases hlt : m < n
    · obtain ⟨c, hc⟩ : ∃ c, k + m = c := ⟨_, rfl⟩
      have hcb : c + 1 ≤ 10000000 := by omega
      have hm1 : (m : Int) < (n : Int) := by omega
      have hm0 : (0 : Int) ≤ (m : Int) := by omega
      have hold := HR.out.cell m
      rw [markedI_get' _ _ _ _ (Nat.le_refl _), List.getElem?_eq_getElem (by omega)] at hold
      have hfree := HR.out.free m
      have hset := HR.out.set m (.int .i64 ((k + m : Nat) : Int))
      rw [markedI_set _ _ _ (by omega), hc] at hset
      replace hset := Lib.hid hset
      have hb3 := hbl.setCell (b := g) ⟨Nat.le_refl _, Nat.lt_succ_self _⟩ m (.int .i64 (c : Int))
      rw [hc]
      clear HR hbl
      go_wp2
      go_roundw
      case rel => exact ⟨m + 1, by omega, by go_num, by go_num, hset, hb3⟩
      case measure => simp [intOf]; omega
    · have hme : m = n := by omega
      subst hme
      go_wp2
      go_ret
      exact ⟨rfl, HR.out, hbl⟩

set_option maxHeartbeats 400000 in
theorem markI_none (p : Option Addr) (cap k : Nat) (w : World) :
    Calls Try.prog 21 #[.slice p 0 cap, .int .i64 (k : Int)] w fun e w' => e = .returned (.int .i64 (k : Int)) ∧ w = w' := by
  go_enter Try.func21, Try.ntmps21
  go_wp2
  refine wp_loop_rounds 1 ?_
  rw [rounds_succ]
  go_wp2
  go_ret
  exact ⟨rfl, rfl⟩

/-- markIntS on a slice of the call's own -/
theorem markI_any (p : Option Addr) (lo hi n cap k : Nat) (w : World) (ho : Own lo hi w 3 p n) (h1 : k + n ≤ 10000000) :
    Calls Try.prog 21 #[.slice p n cap, .int .i64 (k : Int)] w fun e w' => e = .returned (.int .i64 ((k + n : Nat) : Int)) ∧ Ri lo hi w' p (mk k n) ∧ Own lo hi w' 3 p n ∧ Keep lo hi w w' := by
  by_cases hn : 0 < n
  · obtain ⟨g, ys, rfl, h2, h3, h4, h5⟩ := ho.arr hn
    refine (markI_arr g n cap k ys w h4 h5 h1).mono ?_
    rintro e w' ⟨rfl, ho', hk⟩
    have ht := ho.top
    have hs := hk.size
    refine ⟨rfl, ?_, ⟨by omega, fun _ => ⟨g, _, rfl, h2, h3, ho', by rw [markedI_len _ _ _ h5]; exact h5⟩⟩, hk.mono h2 (by omega)⟩
    have := Rd.of_own ho' h2 h3 (by omega) n
    rw [marked_take] at this
    exact this
  · have : n = 0 := by omega
    subst this
    refine (markI_none p cap k w).mono ?_
    rintro e w' ⟨rfl, rfl⟩
    exact ⟨rfl, Rd.nil _ _ _ _ ho.top, ho, Keep.refl _ _ _⟩

set_option maxHeartbeats 400000 in
/-- heldIntS on a slice that shows its marks -/
theorem heldI_any (p : Option Addr) (lo hi n cap k : Nat) (w : World) (hr : Ri lo hi w p (mk k n)) (h1 : k + n ≤ 10000000) :
    Calls Try.prog 22 #[.slice p n cap, .int .i64 (k : Int)] w fun e w' => e = .returned (.int .i64 ((k + n : Nat) : Int)) ∧ Below w.heap.size w w' := by
  by_cases hn : 0 < n
  · obtain ⟨b, off, rfl, _, _, hb, hc⟩ := hr.int (by rw [mk_length]; exact hn)
    rw [mk_length] at hc
    clear hr
    have HC := Lib.hid hc
    clear hc
    go_enter Try.func22, Try.ntmps22
    go_wp2
    go_loopw [1, 5] (fun c i wr => ∃ (m : Nat), m ≤ n ∧ i = .int .i64 m ∧ c = .int .i64 ((k + m : Nat) : Int) ∧ Below w.heap.size w wr) (fun _ i _ => n - (intOf i).toNat)
    case atStart => exact ⟨0, Nat.zero_le _, rfl, by go_num, Below.refl _ _⟩
    case round =>
      obtain ⟨m, hm, rfl, rfl, hbl⟩ := hrel
      by_cases hlt : m < n
      · have hcell := (hbl.cell (p := ⟨b, off + m, none⟩) hb).trans (HC.out m hlt)
        rw [mk_get _ _ _ hlt] at hcell
        obtain ⟨c, hc⟩ : ∃ c, k + m = c := ⟨_, rfl⟩
        rw [hc] at hcell
        have hcb : c + 1 ≤ 10000000 := by omega
        have hm1 : (m : Int) < (n : Int) := by omega
        have hm0 : (0 : Int) ≤ (m : Int) := by omega
        rw [hc]
        go_wp2
        go_roundw
        case rel => exact ⟨m + 1, by omega, by go_num, by go_num, hbl⟩
        case measure => simp [intOf]; omega
      · have hme : m = n := by omega
        subst hme
        go_wp2
        go_ret
        exact ⟨rfl, hbl⟩
  · have : n = 0 := by omega
    subst this
    clear hr hn
    go_enter Try.func22, Try.ntmps22
    go_wp2
    refine wp_loop_rounds 1 ?_
    rw [rounds_succ]
    go_wp2
    go_ret
    exact ⟨rfl, Below.refl _ _⟩
end Go.Proofs.Ytoedcklgpmhnnaa
