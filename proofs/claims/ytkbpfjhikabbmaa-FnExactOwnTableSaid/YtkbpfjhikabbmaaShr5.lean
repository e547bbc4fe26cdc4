/- Chapter 5, impl side: impl.chanceOf; a plane's isValid, hasNumber, shareOfOwn. -/
import Derived.Test.YtkbpfjhikabbmaaOwnP
namespace Go.Proofs.Ytkbpfjhikabbmaa
open Go.RowKit

set_option maxRecDepth 4000 in
set_option maxHeartbeats 1600000 in
theorem chanceOf_any (s : Nat) (hs : s ≤ 1099511627776) (w : World) :
    Calls Try.prog 48 #[.int .i64 (s : Nat)] w fun e w' => e = .returned (ratV (mkRat (s : Int) 479001600)) ∧ Below w.heap.size w w' := by
  have hq := cut_num (s : Int) 479001600 (by omega)
  have hle := cut_le (s : Int) 479001600 (by omega)
  rw [Int.natAbs_natCast] at hq hle
  have hg0 : 0 < Nat.gcd s 479001600 := Nat.gcd_pos_of_pos_right _ (by omega)
  have hgl : Nat.gcd s 479001600 ≤ 479001600 := Nat.gcd_le_right _ (by omega)
  have hgc : Nat.gcd 479001600 s = Nat.gcd s 479001600 := Nat.gcd_comm _ _
  obtain ⟨g, hg⟩ : ∃ g, Nat.gcd s 479001600 = g := ⟨_, rfl⟩
  rw [hg] at hq hg0 hgl hgc
  unfold ratV
  obtain ⟨q, hqq⟩ : ∃ q, mkRat (s : Int) 479001600 = q := ⟨_, rfl⟩
  rw [hqq] at hq hle ⊢
  obtain ⟨x, hx⟩ : ∃ x, q.num = x := ⟨_, rfl⟩
  obtain ⟨y, hy⟩ : ∃ y, q.den = y := ⟨_, rfl⟩
  rw [hx, hy] at hq hle ⊢
  obtain ⟨hq1, hq2⟩ := hq
  have HQ2 : (479001600 : Int).tdiv (g : Int) = (y : Int) := hq2
  have hw1 : IntKind.i64.wrap x = x := IntWalk.i64_in _ (by omega)
  have hw2 : IntKind.i64.wrap (y : Int) = (y : Int) := IntWalk.i64_in _ (by omega)
  have hgz : ¬ g = 0 := by omega
  have hgz1 : ¬ (g : Int) = 0 := by omega
  have HG0 := Lib.hid hgc
  have HZ0 := Lib.hid (OwnArr.made w 48 [.int .i64 0, .int .i64 0])
  have HB0 := Lib.hid ((Below.refl w.heap.size w).alloc (Nat.le_refl _) (.cells #[.int .i64 0, .int .i64 0] 48))
  have HS := Lib.hid (show s < 9223372036854775808 by omega)
  clear hg hqq hx hy hq2 hgc
  go_enter Try.func48, Try.ntmps48
  go_wp2_with fail
  go_loopw [3, 4] (fun va vb wr => ∃ x y : Nat, x < 9223372036854775808 ∧ y < 9223372036854775808 ∧ va = .int .i64 (x : Nat) ∧ vb = .int .i64 (y : Nat) ∧ Hid (Nat.gcd x y = g) ∧ Hid (OwnArr wr w.heap.size 48 [.int .i64 0, .int .i64 0]) ∧ Hid (Below w.heap.size w wr)) (fun _ vb _ => (intOf vb).toNat)
  case atStart => exact ⟨479001600, s, by omega, HS.out, rfl, rfl, HG0, HZ0, HB0⟩
  case round =>
    obtain ⟨a, b, ha, hb, rfl, rfl, HG, HZ, HB⟩ := hrel
    clear HG0 HZ0 HB0 HS
    by_cases hb0 : 0 < b
    · have hk : (0 : Int) < (b : Int) := by omega
      have hne : ¬ b = 0 := by omega
      have ht : (a : Int).tmod (b : Int) = ((a % b : Nat) : Int) := by rw [Int.ofNat_tmod]
      have hlt := Nat.mod_lt a hb0
      have HG2 : Hid (Nat.gcd b (a % b) = g) := by show _ = _; rw [← HG.out, Nat.gcd_comm a b, Nat.gcd_rec b a, Nat.gcd_comm]
      obtain ⟨z, hz⟩ : ∃ z, a % b = z := ⟨_, rfl⟩
      rw [hz] at ht hlt HG2
      have hw : IntKind.i64.wrap (z : Int) = (z : Int) := IntWalk.i64_in _ (by omega)
      clear hz
      go_wp2_with fail
      go_quiet (fail)
      go_wp2_with fail
      go_roundw
      case rel => exact ⟨b, z, hb, by omega, by go_num, by go_num, HG2, Lib.hid (HZ.out.drewN _), below_drewN HB.out _⟩
      case measure => simp [intOf]; omega
    · have hb00 : b = 0 := by omega
      subst hb00
      have hgx : a = g := by have := HG.out; rwa [Nat.gcd_zero_right] at this
      subst hgx
      obtain ⟨z0, z1, y0, y1⟩ := boxed_fr HZ.out
      go_wp2_with fail
      go_region
      all_goals
        go_wp2_with fail
        exact ret_fr Try.results48 rfl ((HZ.out.set 0 _).set 1 _) rfl ⟨rfl, ((HB.out.setCell (p := ⟨w.heap.size, 0, none⟩) (Nat.le_refl _) _).setCell (p := ⟨w.heap.size, 1, none⟩) (Nat.le_refl _) _).drew⟩

/-- a plane as a value -/
abbrev planeV (n k : Int) : Value := .agg #[.int .i64 n, .int .i64 k]
abbrev planeB (n k : Int) : Obj := .cells #[.int .i64 n, .int .i64 k] 42
theorem box_plane {w : World} {b : Nat} {t : TypeId} {x y : Value} (h : OwnArr w b t [x, y]) : w.cell? ⟨b, 0, none⟩ = some x ∧ w.cell? ⟨b, 1, none⟩ = some y := ⟨h.cell 0, h.cell 1⟩

set_option maxRecDepth 4000 in
set_option maxHeartbeats 1600000 in
theorem isValid_any (n k : Int) (w : World) :
    Calls Try.prog 25 #[.agg #[.int .i64 n, .int .i64 k]] w fun e w' => e = .returned (.bool (good5 n k)) ∧ Below w.heap.size w w' := by
  have HB := Lib.hid ((Below.refl w.heap.size w).alloc (Nat.le_refl _) (planeB n k))
  obtain ⟨b0, b1⟩ := box_plane (OwnArr.made w 42 [.int .i64 n, .int .i64 k])
  by_cases h1 : 1 ≤ n
  · by_cases h2 : n ≤ 12
    · by_cases h3 : 0 ≤ k
      · by_cases h4 : k ≤ n
        · have e : good5 n k = true := by unfold good5; simp [h1, h2, h3, h4]
          rw [e]
          clear e
          go_enter Try.func25, Try.ntmps25
          go_wp2_with fail
          go_ret
          exact ⟨rfl, HB.out⟩
        · have e : good5 n k = false := by unfold good5; simp [h4]
          rw [e]
          clear e
          go_enter Try.func25, Try.ntmps25
          go_wp2_with fail
          go_ret
          exact ⟨rfl, HB.out⟩
      · have e : good5 n k = false := by unfold good5; simp [h3]
        rw [e]
        clear e
        go_enter Try.func25, Try.ntmps25
        go_wp2_with fail
        go_ret
        exact ⟨rfl, HB.out⟩
    · have e : good5 n k = false := by unfold good5; simp [h2]
      rw [e]
      clear e
      go_enter Try.func25, Try.ntmps25
      go_wp2_with fail
      go_ret
      exact ⟨rfl, HB.out⟩
  · have e : good5 n k = false := by unfold good5; simp [h1]
    rw [e]
    clear e
    go_enter Try.func25, Try.ntmps25
    go_wp2_with fail
    go_ret
    exact ⟨rfl, HB.out⟩

/-- the share of own seats -/
def shr5 (n k i : Nat) : Nat := if i < k then 479001600 / n else 479001600 / (n - i + k) * (n - i)
theorem shr5_le (n k i : Nat) : shr5 n k i ≤ 479001600 := by
  unfold shr5
  split
  · exact Nat.div_le_self _ _
  · exact Nat.le_trans (Nat.mul_le_mul_left _ (Nat.le_add_right _ k)) (Nat.div_mul_le_self _ _)
theorem shr5_all : (List.range 13).all (fun n => (List.range (n + 1)).all (fun k => (List.range n).all (fun i => decide (mkRat ((shr5 n k i : Nat) : Int) 479001600 = ownR n k i)))) = true := by decide +kernel
theorem shr5_is {n k i : Nat} (hn : n ≤ 12) (hk : k ≤ n) (hi : i < n) : mkRat ((shr5 n k i : Nat) : Int) 479001600 = ownR n k i := by
  have h := shr5_all
  rw [List.all_eq_true] at h
  have h1 := h n (List.mem_range.2 (by omega))
  rw [List.all_eq_true] at h1
  have h2 := h1 k (List.mem_range.2 (by omega))
  rw [List.all_eq_true] at h2
  exact of_decide_eq_true (h2 i (List.mem_range.2 hi))

end Go.Proofs.Ytkbpfjhikabbmaa
