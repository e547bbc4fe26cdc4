/- The laws' own helpers that write marks into a slice of strings and look whether they stand: markText, markStringS, heldStringS. -/
import Derived.Test.YtnbpdgkpamgcfaaDoorEqS
import Derived.Test.YtnbpdgkpamgcfaaDoorCur
import Derived.Test.YtnbpdgkpamgcfaaDoorNum
import Derived.Laws.IdiomStrings
import Derived.Lib.Strings
import Derived.Deep.RegionWith
namespace Go.Proofs.YtnbpdgkpamgcfaaDoor
open Go.RowKit

/-- the digits of n in front of o -/
def mkL (n : Nat) (o : ByteArray) : ByteArray := if _h : n = 0 then o else mkL (n / 10) (dig10 (n % 10) ++ o)
termination_by n
decreasing_by omega
theorem mkL_zero (o : ByteArray) : mkL 0 o = o := by rw [mkL]; simp
theorem mkL_step (n : Nat) (o : ByteArray) (h : 0 < n) : mkL n o = mkL (n / 10) (dig10 (n % 10) ++ o) := by rw [mkL, dif_neg (by omega)]
def mkS (k : Nat) : ByteArray := ⟨#[109]⟩ ++ mkL k ⟨#[]⟩

set_option maxRecDepth 10000 in
set_option maxHeartbeats 400000 in
theorem markText_any (k : Nat) (w : World) (h0 : 0 < k) (h1 : k ≤ 1000000) :
    Calls Tryd.prog 54 #[.int .i64 (k : Int)] w fun e w' => e = .returned (.string (mkS k)) ∧ Below w.heap.size w w' := by
  have hk0 : ¬ k = 0 := by omega
  go_enter Tryd.func54, Tryd.ntmps54
  go_wp2
  go_loopw [0, 3] (fun i o wr => ∃ (n : Nat) (x : ByteArray), i = .int .i64 n ∧ o = .string x ∧ n + x.size ≤ k ∧ Hid (mkL n x = mkL k ⟨#[]⟩) ∧ Below w.heap.size w wr) (fun i _ _ => (intOf i).toNat)
  case atStart => exact ⟨k, _, rfl, rfl, by simp [ByteArray.size], rfl, Below.refl _ _⟩
  case round =>
    obtain ⟨n, x, rfl, rfl, hle, HM, hbl⟩ := hrel
    by_cases hn : 0 < n
    · obtain ⟨r, hr⟩ : ∃ r, r = n % 10 := ⟨_, rfl⟩
      obtain ⟨d, hd⟩ : ∃ d, d = n / 10 := ⟨_, rfl⟩
      have hr10 : r < 10 := by omega
      have HM2 : Hid (mkL d (dig10 r ++ x) = mkL k ⟨#[]⟩) := by
        show _ = _
        rw [hr, hd, ← mkL_step n x hn]
        exact HM.out
      have hw2 : IntKind.i64.wrap ((n : Int) % 10) = (r : Int) := by rw [IntWalk.i64_in _ (by omega)]; omega
      have hw2' : (n : Int) % 10 = (r : Int) := by omega
      have hw1 : IntKind.i64.wrap ((n : Int) / 10) = (d : Int) := by rw [IntWalk.i64_in _ (by omega)]; omega
      have hdn : d + 1 ≤ n := by omega
      have hd1 : (dig10 r).size = 1 := rfl
      have hsz : (dig10 r ++ x).size = 1 + x.size := by rw [ByteArray.size_append]; rfl
      have hcv := run_convert_bytes_back (P := Tryd.prog) (wr.alloc (.cells #[.int .u8 ((UInt8.ofNat (48 + r)).toNat : Int)] 5)) 22 9 5 ⟨wr.heap.size, 0, none⟩ 1 [UInt8.ofNat (48 + r)] Tryd.underlying22 Tryd.underlying5 Tryd.underlying9 (fun j hj => by
        have hj' : j = 0 := by simpa using hj
        subst hj'
        exact (OwnArr.made wr 5 [.int .u8 ((UInt8.ofNat (48 + r)).toNat : Int)]).cell 0)
      have hu : ((UInt8.ofNat (48 + r)).toNat : Int) = 48 + (r : Int) := by simp; omega
      rw [hu] at hcv
      simp only [List.length_cons, List.length_nil, Nat.zero_add] at hcv
      clear hu
      change _ = Result.ok (Value.string (dig10 r)) _ at hcv
      clear hr hd
      go_wp2
      go_roundw
      case rel => exact ⟨d, dig10 r ++ x, by go_num, rfl, by omega, HM2, hbl.alloc hbl.size _⟩
      case measure => simp [intOf]; omega
    · have hz : n = 0 := by omega
      subst hz
      have HX : Hid (x = mkL k ⟨#[]⟩) := by have := HM.out; rw [mkL_zero] at this; exact this
      go_wp2
      go_ret
      refine ⟨?_, hbl⟩
      rw [HX.out]
      rfl

/-- what markStringS leaves behind n places: the marks from k on, and what lay behind them -/
def marked (xs : List Value) (k n : Nat) : List Value := (List.range n).map (fun i => Value.string (mkS (k + i))) ++ xs.drop n
theorem marked_get (xs : List Value) (k n i : Nat) (h : i < n) : (marked xs k n)[i]? = some (.string (mkS (k + i))) := by
  unfold marked
  rw [List.getElem?_append_left (by simpa using h)]
  simp [h]
theorem marked_get' (xs : List Value) (k n i : Nat) (h : n ≤ i) : (marked xs k n)[i]? = xs[i]? := by
  unfold marked
  rw [List.getElem?_append_right (by simpa using h), List.getElem?_drop]
  congr 1
  simp
  omega
theorem marked_len (xs : List Value) (k n : Nat) (h : n ≤ xs.length) : (marked xs k n).length = xs.length := by
  simp [marked]; omega
theorem marked_set (xs : List Value) (k n : Nat) (h : n < xs.length) : (marked xs k n).set n (.string (mkS (k + n))) = marked xs k (n + 1) := by
  apply List.ext_getElem?
  intro i
  rw [List.getElem?_set, marked_len _ _ _ (by omega)]
  by_cases hi : n = i
  · subst hi
    rw [if_pos rfl, if_pos h, marked_get _ _ _ _ (by omega)]
  · rw [if_neg hi]
    rcases Nat.lt_or_ge i n with h' | h'
    · rw [marked_get _ _ _ _ h', marked_get _ _ _ _ (by omega)]
    · rw [marked_get' _ _ _ _ h', marked_get' _ _ _ _ (by omega)]

set_option maxHeartbeats 400000 in
theorem markS_any (g n cap k : Nat) (xs : List Value) (w : World) (ho : OwnArr w g 9 xs) (hn : n ≤ xs.length) (h0 : 0 < k) (h1 : k + n ≤ 1000000) :
    Calls Tryd.prog 32 #[.slice (some ⟨g, 0, none⟩) n cap, .int .i64 (k : Int)] w fun e w' => e = .returned (.int .i64 ((k + n : Nat) : Int)) ∧ OwnArr w' g 9 (marked xs k n) ∧ But g w w' := by
  have HO := Lib.hid ho
  clear ho
  go_enter Tryd.func32, Tryd.ntmps32
  go_wp2
  go_loopw [1, 5] (fun c i wr => ∃ (m : Nat), m ≤ n ∧ i = .int .i64 m ∧ c = .int .i64 ((k + m : Nat) : Int) ∧ Hid (OwnArr wr g 9 (marked xs k m)) ∧ But g w wr) (fun _ i _ => n - (intOf i).toNat)
  case atStart => exact ⟨0, Nat.zero_le _, rfl, by go_num, by show OwnArr _ _ _ _; simpa [marked] using HO.out, But.refl _ _⟩
  case round =>
    obtain ⟨m, hm, rfl, rfl, HR, hbl⟩ := hrel
    by_cases hlt : m < n
    · have M := fun w' => markText_any (k + m) w' (by omega) (by omega)
      replace M := Lib.hid M
      obtain ⟨c, hc⟩ : ∃ c, k + m = c := ⟨_, rfl⟩
      rw [hc] at M
      have hcb : c + 1 ≤ 1000000 := by omega
      have hm1 : (m : Int) < (n : Int) := by omega
      have hm0 : (0 : Int) ≤ (m : Int) := by omega
      rw [hc]
      go_wp2_with fail
      refine (M.out wr).mono ?_
      rintro e w2 ⟨rfl, hb2⟩
      have hO2 := HR.out.below hb2 HR.out.lt
      have hold := hO2.cell m
      rw [marked_get' _ _ _ _ (Nat.le_refl _), List.getElem?_eq_getElem (by omega)] at hold
      have hfree := hO2.free m
      have hset := hO2.set m (.string (mkS (k + m)))
      rw [marked_set _ _ _ (by omega), hc] at hset
      replace hset := Lib.hid hset
      have hb3 := (hbl.trans (Below.but hb2)).setCell m (.string (mkS c))
      clear hO2 HR M hbl hb2
      go_wp2
      go_roundw
      case rel => exact ⟨m + 1, by omega, by go_num, by go_num, hset, hb3⟩
      case measure => simp [intOf]; omega
    · have hme : m = n := by omega
      subst hme
      go_wp2
      go_ret
      exact ⟨rfl, HR.out, hbl⟩

set_option maxHeartbeats 400000 in
theorem heldS_any (g n cap k : Nat) (xs : List Value) (w : World) (ho : OwnArr w g 9 (marked xs k n)) (hn : n ≤ xs.length) (h0 : 0 < k) (h1 : k + n ≤ 1000000) :
    Calls Tryd.prog 33 #[.slice (some ⟨g, 0, none⟩) n cap, .int .i64 (k : Int)] w fun e w' => e = .returned (.int .i64 ((k + n : Nat) : Int)) ∧ Below w.heap.size w w' := by
  have HO := Lib.hid ho
  clear ho
  go_enter Tryd.func33, Tryd.ntmps33
  go_wp2
  go_loopw [1, 5] (fun c i wr => ∃ (m : Nat), m ≤ n ∧ i = .int .i64 m ∧ c = .int .i64 ((k + m : Nat) : Int) ∧ Below w.heap.size w wr) (fun _ i _ => n - (intOf i).toNat)
  case atStart => exact ⟨0, Nat.zero_le _, rfl, by go_num, Below.refl _ _⟩
  case round =>
    obtain ⟨m, hm, rfl, rfl, hbl⟩ := hrel
    by_cases hlt : m < n
    · have M := fun w' => markText_any (k + m) w' (by omega) (by omega)
      have hcell := (HO.out.below hbl HO.out.lt).cell m
      rw [marked_get _ _ _ _ hlt] at hcell
      have hbk := (HO.out.below hbl HO.out.lt).lt
      replace M := Lib.hid M
      obtain ⟨c, hc⟩ : ∃ c, k + m = c := ⟨_, rfl⟩
      rw [hc] at M hcell
      have hcb : c + 1 ≤ 1000000 := by omega
      have hm1 : (m : Int) < (n : Int) := by omega
      have hm0 : (0 : Int) ≤ (m : Int) := by omega
      rw [hc]
      go_wp2_with fail
      have hcell2 : wr.drew.cell? ⟨g, m, none⟩ = some (.string (mkS c)) := hcell
      go_region_with (go_at_call 54; refine (M.out _).mono ?_; rintro e w2 ⟨rfl, hb2⟩; have hcell3 := (hb2.cell (p := ⟨g, m, none⟩) hbk).trans hcell2; clear hcell2)
      all_goals
        go_wp2
        go_roundw
        case rel => exact ⟨m + 1, by omega, by go_num, by go_num, hbl.trans ((Below.refl _ wr).drew.trans hb2 |>.mono hbl.size)⟩
        case measure => simp [intOf]; omega
    · have hme : m = n := by omega
      subst hme
      go_wp2
      go_ret
      exact ⟨rfl, hbl⟩
end Go.Proofs.YtnbpdgkpamgcfaaDoor
