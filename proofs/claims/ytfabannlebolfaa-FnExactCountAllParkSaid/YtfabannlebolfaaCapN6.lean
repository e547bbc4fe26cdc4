/- Chapter 6, impl side: lists that all park on a line, seat by seat: mathematics. Plain lemmas. -/
import Derived.Test.YtfabannlebolfaaCapM6
namespace Go.Proofs.Ytfabannlebolfaa

/-- the sum of the first k numbers -/
def smM (G : Nat → Nat) : Nat → Nat
  | 0 => 0
  | k + 1 => smM G k + G k
theorem sm_congr {G H : Nat → Nat} : ∀ {k : Nat}, (∀ j, j < k → G j = H j) → smM G k = smM H k
  | 0, _ => rfl
  | k + 1, h => by show smM G k + G k = smM H k + H k; rw [sm_congr (fun j hj => h j (by omega)), h k (by omega)]
theorem sm_front (G : Nat → Nat) : ∀ k, smM G (k + 1) = G 0 + smM (fun j => G (j + 1)) k
  | 0 => by show 0 + G 0 = G 0 + 0; omega
  | k + 1 => by
    show smM G (k + 1) + G (k + 1) = G 0 + (smM (fun j => G (j + 1)) k + G (k + 1))
    rw [sm_front G k]; omega
theorem sm_rev (G : Nat → Nat) : ∀ t, smM (fun i => G (t - i)) (t + 1) = smM G (t + 1)
  | 0 => rfl
  | t + 1 => by
    rw [sm_front]
    show G (t + 1 - 0) + smM (fun j => G (t + 1 - (j + 1))) (t + 1) = smM G (t + 1) + G (t + 1)
    rw [sm_congr (H := fun i => G (t - i)) (fun j _ => by show G (t + 1 - (j + 1)) = G (t - j); congr 1; omega), sm_rev G t, Nat.sub_zero]
    omega
theorem sm_out {G : Nat → Nat} {a : Nat} (h : ∀ j, a ≤ j → G j = 0) : ∀ d, smM G (a + d) = smM G a
  | 0 => rfl
  | d + 1 => by show smM G (a + d) + G (a + d) = _; rw [sm_out h d, h (a + d) (by omega), Nat.add_zero]
theorem sm_mul (c : Nat) (G : Nat → Nat) : ∀ k, smM (fun j => c * G j) k = c * smM G k
  | 0 => rfl
  | k + 1 => by show smM _ k + c * G k = c * (smM G k + G k); rw [sm_mul c G k, Nat.mul_add]
theorem sm_le {G H : Nat → Nat} : ∀ {k : Nat}, (∀ j, j < k → G j ≤ H j) → smM G k ≤ smM H k
  | 0, _ => Nat.le_refl _
  | k + 1, h => Nat.add_le_add (sm_le fun j hj => h j (by omega)) (h k (by omega))
theorem sm_mono (G : Nat → Nat) : ∀ i j, i ≤ j → smM G i ≤ smM G j
  | i, 0, h => by rw [show i = 0 by omega]; exact Nat.le_refl _
  | i, j + 1, h => by
    by_cases e : i = j + 1
    · rw [e]; exact Nat.le_refl _
    · have := sm_mono G i j (by omega)
      show _ ≤ smM G j + G j
      omega

/-- lists of t cars that may have one more seat: the first i terms -/
def lwM (F : Nat → Nat) (t i : Nat) : Nat := smM (fun i => chN t i * F (t - i)) i
/-- lists of t cars that park with the last p seats alone -/
def lsM (rm : Nat → Nat) : Nat → Nat → Nat
  | 0, t => if t = 0 then 1 else 0
  | p + 1, t => if t ≤ rm (p + 1) then lwM (lsM rm p) t (t + 1) else 0

theorem lb_all : (List.range 13).all (fun p => (List.range 13).all (fun t => decide (lwM (fun j => p ^ j) t (t + 1) = (p + 1) ^ t))) = true := by decide +kernel
theorem lb_is {p t : Nat} (hp : p ≤ 12) (ht : t ≤ 12) : lwM (fun j => p ^ j) t (t + 1) = (p + 1) ^ t := by
  have h := lb_all
  rw [List.all_eq_true] at h
  have h1 := h p (List.mem_range.2 (by omega))
  rw [List.all_eq_true] at h1
  exact of_decide_eq_true (h1 t (List.mem_range.2 (by omega)))
theorem lw_le {p t : Nat} {F : Nat → Nat} (hp : p ≤ 12) (ht : t ≤ 12) (hF : ∀ j, j ≤ t → F j ≤ p ^ j) (i : Nat) (hi : i ≤ t + 1) : lwM F t i ≤ (p + 1) ^ t := by
  rw [← lb_is hp ht]
  unfold lwM
  refine Nat.le_trans (sm_mono _ i (t + 1) hi) (sm_le fun j hj => Nat.mul_le_mul_left _ (hF (t - j) (by omega)))
theorem ls_le (rm : Nat → Nat) : ∀ p, p ≤ 12 → ∀ t, t ≤ 12 → lsM rm p t ≤ p ^ t
  | 0, _, t, _ => by
    show (if t = 0 then 1 else 0) ≤ _
    split
    · rename_i h; rw [h]; exact Nat.le_refl _
    · exact Nat.zero_le _
  | p + 1, hp, t, ht => by
    show (if t ≤ rm (p + 1) then _ else 0) ≤ _
    split
    · exact lw_le (by omega) ht (fun j hj => ls_le rm p (by omega) j (by omega)) _ (Nat.le_refl _)
    · exact Nat.zero_le _
theorem pow13 {p t : Nat} (hp : p ≤ 12) (ht : t ≤ 12) : (p + 1) ^ t ≤ 23298085122481 := by
  have h1 : (p + 1) ^ t ≤ 13 ^ t := Nat.pow_le_pow_left (by omega) t
  have h2 : 13 ^ t ≤ 13 ^ 12 := Nat.pow_le_pow_right (by omega) ht
  have h3 : 13 ^ 12 = 23298085122481 := by decide
  omega
theorem lw_big (rm : Nat → Nat) {p t : Nat} (hp : p ≤ 12) (ht : t ≤ 12) {i : Nat} (hi : i ≤ t + 1) : lwM (lsM rm p) t i ≤ 23298085122481 :=
  Nat.le_trans (lw_le hp ht (fun j hj => ls_le rm p hp j (by omega)) i hi) (pow13 hp ht)
theorem ls_big (rm : Nat → Nat) {p t : Nat} (hp : p ≤ 12) (ht : t ≤ 12) : lsM rm p t ≤ 23298085122481 := by
  have h1 := ls_le rm p hp t ht
  have h2 : p ^ t ≤ (p + 1) ^ t := Nat.pow_le_pow_left (by omega) t
  have h3 := pow13 hp ht
  omega

theorem id_all : (List.range 13).all (fun m => (List.range (m + 1)).all (fun t => (List.range (t + 1)).all (fun j => decide (chN m j * chN (m - j) (t - j) = chN m t * chN t (t - j))))) = true := by decide +kernel
theorem id_is {m t j : Nat} (hm : m ≤ 12) (ht : t ≤ m) (hj : j ≤ t) : chN m j * chN (m - j) (t - j) = chN m t * chN t (t - j) := by
  have h := id_all
  rw [List.all_eq_true] at h
  have h1 := h m (List.mem_range.2 (by omega))
  rw [List.all_eq_true] at h1
  have h2 := h1 t (List.mem_range.2 (by omega))
  rw [List.all_eq_true] at h2
  exact of_decide_eq_true (h2 j (List.mem_range.2 (by omega)))
theorem one_all : (List.range 13).all (fun m => decide (chN m m = 1)) = true := by decide +kernel
theorem one_is {m : Nat} (hm : m ≤ 12) : chN m m = 1 := by
  have h := one_all
  rw [List.all_eq_true] at h
  exact of_decide_eq_true (h m (List.mem_range.2 (by omega)))
theorem ps_sm (m room : Nat) (F : Nat → Nat) (t : Nat) : ∀ k, psM m room F k t = smM (fun j => if j ≤ t ∧ t ≤ m ∧ t ≤ room then F j * chN (m - j) (t - j) else 0) k
  | 0 => rfl
  | k + 1 => by show psM m room F k t + _ = smM _ k + _; rw [ps_sm m room F t k]
theorem tb_ls {m : Nat} (hm : m ≤ 12) (rm : Nat → Nat) : ∀ p, ∀ t, t ≤ m → tbM m rm p t = chN m t * lsM rm p t
  | 0, t, _ => by
    show (if t = 0 then 1 else 0) = chN m t * (if t = 0 then 1 else 0)
    by_cases h : t = 0
    · subst h; rfl
    · rw [if_neg h, Nat.mul_zero]
  | p + 1, t, ht => by
    show psM m (rm (p + 1)) (tbM m rm p) (m + 1) t = chN m t * (if t ≤ rm (p + 1) then lwM (lsM rm p) t (t + 1) else 0)
    rw [ps_sm]
    by_cases hr : t ≤ rm (p + 1)
    · rw [if_pos hr]
      have e : m + 1 = (t + 1) + (m - t) := by omega
      rw [e, sm_out (fun j hj => by rw [if_neg (by omega)])]
      have e2 : lwM (lsM rm p) t (t + 1) = smM (fun j => chN t (t - j) * lsM rm p j) (t + 1) := by
        unfold lwM
        rw [← sm_rev (fun j => chN t (t - j) * lsM rm p j) t]
        refine sm_congr fun j hj => ?_
        rw [show t - (t - j) = j by omega]
      rw [e2, ← sm_mul]
      refine sm_congr fun j hj => ?_
      rw [if_pos (by omega), tb_ls hm rm p j (by omega), ← Nat.mul_assoc, ← id_is hm ht (show j ≤ t by omega), Nat.mul_assoc, Nat.mul_assoc, Nat.mul_comm (lsM rm p j)]
    · rw [if_neg hr, Nat.mul_zero, show m + 1 = 0 + (m + 1) by omega, sm_out (fun j hj => by rw [if_neg (by omega)])]
      rfl
/-- all free seats -/
theorem rm_part (n : Nat) (S : Nat → Bool) : ∀ p, p ≤ n → rmM n S p + (tk (n - p) fun i => !S i).length = (tk n fun i => !S i).length
  | 0, _ => by show 0 + _ = _; rw [Nat.zero_add, Nat.sub_zero]
  | p + 1, h => by
    have ih := rm_part n S p (by omega)
    rw [show n - p = (n - 1 - p) + 1 by omega, tk_succ, List.length_append] at ih
    show rmM n S p + (if S (n - 1 - p) then 0 else 1) + _ = _
    rw [show n - (p + 1) = n - 1 - p by omega]
    cases hS : S (n - 1 - p) with
    | true => rw [hS] at ih; simp at ih ⊢; omega
    | false => rw [hS] at ih; simp at ih ⊢; omega
theorem rm_all (n : Nat) (S : Nat → Bool) : rmM n S n = (tk n fun i => !S i).length := by
  have h := rm_part n S n (Nat.le_refl _)
  rw [Nat.sub_self] at h
  exact h
theorem cap_line {n m : Nat} {S : Nat → Bool} (hn : 1 ≤ n) (hm : m ≤ 12) : capM n false S m = lsM (rmM n S) n m := by
  unfold capM
  by_cases h : (tk n fun i => !S i).length < m
  · rw [if_pos h]
    obtain ⟨k, rfl⟩ : ∃ k, n = k + 1 := ⟨n - 1, by omega⟩
    show 0 = if m ≤ rmM (k + 1) S (k + 1) then _ else 0
    rw [if_neg (by rw [rm_all]; omega)]
  · rw [if_neg h, if_neg (by simp), tb_ls hm _ n m (Nat.le_refl _), one_is hm, Nat.one_mul]
theorem tk_not (S : Nat → Bool) : ∀ n, (tk n fun i => !S i).length + (tk n S).length = n
  | 0 => rfl
  | n + 1 => by
    have ih := tk_not S n
    rw [tk_succ, tk_succ, List.length_append, List.length_append]
    cases hS : S n <;> simp <;> omega
end Go.Proofs.Ytfabannlebolfaa
