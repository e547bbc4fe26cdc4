/- Fractions in lowest terms: spec.l2Gcd, l2Cut, l2Plus, l2Times, by rational numbers. -/
import Derived.Test.YteabodhkgkffiaaRowHelp
import Derived.Laws.Rows
import Derived.BigRegion
import Derived.BigQuiet
import Derived.Deep.QuietTactic
import Derived.Deep.RegionWith
import Derived.Deep.RegionHeld3
import Derived.Deep.DeepCutAuto
import Derived.StillTailTactics
namespace Go.Proofs.Yteabodhkgkffiaa
open Go.RowKit

theorem below_drewN {B : Nat} {w w' : World} (h : Below B w w') (n : Nat) : Below B w (w'.drewN n) :=
  h.trans ⟨rfl, rfl, rfl, Nat.le_refl _, fun _ _ => rfl⟩
/-- a fraction as a value -/
abbrev ratV (q : Rat) : Value := .agg #[.int .i64 q.num, .int .i64 ((q.den : Nat) : Int)]

theorem cut_num (a : Int) (b : Nat) (hb : 0 < b) : a.tdiv ((Nat.gcd a.natAbs b : Nat) : Int) = (mkRat a b).num ∧ (b : Int).tdiv ((Nat.gcd a.natAbs b : Nat) : Int) = ((mkRat a b).den : Int) := by
  have hb0 : ¬ b = 0 := by omega
  rw [Rat.num_mkRat, Rat.den_mkRat, if_neg hb0, if_neg hb0, Nat.gcd_comm b]
  have hd : ((Nat.gcd a.natAbs b : Nat) : Int) ∣ a := Int.ofNat_dvd_left.2 (Nat.gcd_dvd_left _ _)
  constructor
  · rw [Int.tdiv_eq_ediv_of_dvd hd]
  · rw [← Int.ofNat_tdiv]
theorem cut_le (a : Int) (b : Nat) (hb : 0 < b) : (mkRat a b).num.natAbs ≤ a.natAbs ∧ (mkRat a b).den ≤ b := by
  have hb0 : ¬ b = 0 := by omega
  rw [Rat.num_mkRat, Rat.den_mkRat, if_neg hb0, if_neg hb0]
  constructor
  · obtain ⟨c, hc⟩ : ((b.gcd a.natAbs : Nat) : Int) ∣ a := Int.ofNat_dvd_left.2 (Nat.gcd_dvd_right _ _)
    have hg : 0 < b.gcd a.natAbs := Nat.gcd_pos_of_pos_left _ hb
    obtain ⟨g, hgg⟩ : ∃ g, b.gcd a.natAbs = g := ⟨_, rfl⟩
    rw [hgg] at hc hg ⊢
    rw [hc, Int.mul_ediv_cancel_left _ (by omega), Int.natAbs_mul]
    exact Nat.le_mul_of_pos_left _ (by omega)
  · exact Nat.div_le_self _ _

/-- the sum's numbers, as the program reckons them -/
theorem plus_is (p q : Rat) : mkRat (p.num * ((q.den / Nat.gcd p.den q.den : Nat) : Int) + q.num * ((p.den / Nat.gcd p.den q.den : Nat) : Int)) (p.den / Nat.gcd p.den q.den * q.den) = p + q := by
  have hp := p.den_nz
  have hq := q.den_nz
  obtain ⟨g, hg⟩ : ∃ g, Nat.gcd p.den q.den = g := ⟨_, rfl⟩
  have hg0 : g ≠ 0 := by
    rw [← hg]; exact Nat.gcd_ne_zero_left hp
  obtain ⟨x, hx⟩ : g ∣ p.den := by rw [← hg]; exact Nat.gcd_dvd_left _ _
  obtain ⟨y, hy⟩ : g ∣ q.den := by rw [← hg]; exact Nat.gcd_dvd_right _ _
  have hxd : p.den / g = x := by rw [hx, Nat.mul_div_cancel_left _ (by omega)]
  have hyd : q.den / g = y := by rw [hy, Nat.mul_div_cancel_left _ (by omega)]
  rw [hg, hxd, hyd, Rat.add_def']
  rw [← Rat.mkRat_mul_left (a := g) hg0]
  have e1 : (g : Int) * (p.num * (y : Int) + q.num * (x : Int)) = p.num * (q.den : Int) + q.num * (p.den : Int) := by
    rw [hx, hy]
    push_cast
    rw [Int.mul_add, Int.mul_left_comm, Int.mul_left_comm (g : Int) q.num]
  have e2 : g * (x * q.den) = p.den * q.den := by rw [← Nat.mul_assoc, ← hx]
  rw [e1, e2]

end Go.Proofs.Yteabodhkgkffiaa
