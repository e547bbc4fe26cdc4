/- Mathematics of a turned party. Plain lemmas. -/
import Derived.Test.YteabodhkgkffiaaPow6
namespace Go.Proofs.Yteabodhkgkffiaa
open Go.RowKit

theorem mod_two8 {a n : Nat} (h : a < 2 * n) : a % n = if a < n then a else a - n := by
  split
  · exact Nat.mod_eq_of_lt (by assumption)
  · rw [Nat.mod_eq_sub_mod (by omega)]; exact Nat.mod_eq_of_lt (by omega)
/-- who sits at seat i when everybody sits by b seats farther -/
def trG (l : List Nat) (n b i : Nat) : Nat := l[(i + (n - b)) % n]?.getD 0
/-- .. when p of them have sat down -/
def trF (l : List Nat) (n b p i : Nat) : Nat := if (i + (n - b)) % n < p then trG l n b i else 0
theorem trF_zero (l : List Nat) (n b : Nat) : nrM n (trF l n b 0) = nrM n fun _ => 0 := nr_congr fun j _ => by unfold trF; rw [if_neg (by omega)]
theorem trF_all (l : List Nat) {n b : Nat} (hn : 0 < n) : nrM n (trF l n b n) = nrM n (trG l n b) := nr_congr fun j _ => by unfold trF; rw [if_pos (Nat.mod_lt _ hn)]
theorem trF_next (l : List Nat) {n b p : Nat} (hp : p < n) (hb : b < n) {x : Nat} (hx : l[p]?.getD 0 = x) : nrM n (fun j => if j = (p + b) % n then x else trF l n b p j) = nrM n (trF l n b (p + 1)) := by
  apply nr_congr
  intro j hj
  have e1 := mod_two8 (a := p + b) (n := n) (by omega)
  have e2 := mod_two8 (a := j + (n - b)) (n := n) (by omega)
  have key : j = (p + b) % n ↔ (j + (n - b)) % n = p := by
    rw [e1, e2]
    constructor
    · intro h; split at h <;> split <;> omega
    · intro h; split at h <;> split <;> omega
  unfold trF trG
  by_cases h : (j + (n - b)) % n = p
  · rw [if_pos (key.2 h), if_pos (by omega), h]
    exact hx.symm
  · rw [if_neg (fun e => h (key.1 e))]
    by_cases h2 : (j + (n - b)) % n < p
    · rw [if_pos h2, if_pos (by omega)]
    · rw [if_neg h2, if_neg (by omega)]
end Go.Proofs.Yteabodhkgkffiaa
