/- Mathematics of the first party apart: it is looked for person by person. Plain lemmas. -/
import Derived.Test.YteabodhkgkffiaaParM8
import Derived.Test.YteabodhkgkffiaaOrderM
import Derived.Test.YteabodhkgkffiaaCycM5
namespace Go.Proofs.Yteabodhkgkffiaa


/-- the first party that begins so and in which no couple sits together -/
def skip8 (l : List Nat) (x : Nat) : Bool := decide (x ∈ l) || (decide (0 < l.length) && decide (l[l.length - 1]?.getD 0 / 2 = x / 2))
def mor8 (n : Nat) (ring : Bool) : Nat → List Nat → Option (List Nat)
  | 0, l => if tog8 ring l = 0 then some l else none
  | f + 1, l => (List.range n).findSome? fun x => if skip8 l x = true then none else mor8 n ring f (l ++ [x])
theorem mor8_step (n : Nat) (ring : Bool) (f : Nat) (l : List Nat) (k : Nat) : (List.range (k + 1)).findSome? (fun x => if skip8 l x = true then none else mor8 n ring f (l ++ [x])) = ((List.range k).findSome? (fun x => if skip8 l x = true then none else mor8 n ring f (l ++ [x]))).or (if skip8 l k = true then none else mor8 n ring f (l ++ [k])) := by
  rw [List.range_succ, List.findSome?_append]
  simp only [List.findSome?_cons, List.findSome?_nil]
  congr 1
  split <;> simp_all
theorem mor8_hit {n : Nat} {ring : Bool} {f : Nat} {l : List Nat} {k : Nat} {r : List Nat} (hk : k < n) (h0 : (List.range k).findSome? (fun x => if skip8 l x = true then none else mor8 n ring f (l ++ [x])) = none) (hs : skip8 l k = false) (hr : mor8 n ring f (l ++ [k]) = some r) : mor8 n ring (f + 1) l = some r := by
  have h1 := mor8_step n ring f l k
  rw [h0, if_neg (by rw [hs]; simp), hr] at h1
  have key : ∀ m, (List.range (k + 1 + m)).findSome? (fun x => if skip8 l x = true then none else mor8 n ring f (l ++ [x])) = some r := by
    intro m
    induction m with
    | zero => exact h1
    | succ m ih => rw [← Nat.add_assoc, mor8_step, ih]; rfl
  have := key (n - (k + 1))
  rw [show k + 1 + (n - (k + 1)) = n by omega] at this
  exact this
theorem mor8_len {n : Nat} {ring : Bool} : ∀ (f : Nat) (l : List Nat) (r : List Nat), mor8 n ring f l = some r → r.length = l.length + f := by
  intro f
  induction f with
  | zero =>
    intro l r h
    unfold mor8 at h
    split at h
    · cases h; rfl
    · cases h
  | succ f ih =>
    intro l r h
    unfold mor8 at h
    obtain ⟨x, -, hx⟩ := List.exists_of_findSome?_eq_some h
    split at hx
    · cases hx
    · have := ih _ _ hx
      rw [List.length_append] at this
      simp at this
      omega
theorem skip_no {l : List Nat} {x : Nat} (h : skip8 l x = false) : x ∉ l := by
  unfold skip8 at h
  simp only [Bool.or_eq_false_iff, decide_eq_false_iff_not] at h
  exact h.1
theorem nodup_snoc8 {l : List Nat} {x : Nat} (h : l.Nodup) (hx : x ∉ l) : (l ++ [x]).Nodup := by
  rw [List.nodup_append]
  refine ⟨h, by simp, fun a ha b hb e => ?_⟩
  simp at hb
  subst hb
  subst e
  exact hx ha
theorem nodup_all8 {n : Nat} {l : List Nat} (hd : l.Nodup) (hl : ∀ x ∈ l, x < n) (hn : l.length = n) (r : Nat) (hr : r < n) : r ∈ l := by
  have h := nodup_free n l hd hl
  have h0 : tk n (fun i => !decide (i ∈ l)) = [] := List.length_eq_zero_iff.1 (by omega)
  refine Classical.byContradiction fun hn => ?_
  have : r ∈ tk n (fun i => !decide (i ∈ l)) := mem_tk.2 ⟨hr, by simpa using hn⟩
  rw [h0] at this
  simp at this
theorem orderB_nodup {n : Nat} {l : List Nat} (hd : l.Nodup) (hl : ∀ x ∈ l, x < n) (hn : l.length = n) : orderB (n : Int) (ints l) = true := by
  unfold orderB
  rw [ints_length, hn]
  simp only [decide_true, Bool.true_and, List.all_eq_true, decide_eq_true_eq, List.mem_range]
  intro i hi
  unfold ints
  exact List.mem_map.2 ⟨i, nodup_all8 hd hl hn i hi, rfl⟩
end Go.Proofs.Yteabodhkgkffiaa
