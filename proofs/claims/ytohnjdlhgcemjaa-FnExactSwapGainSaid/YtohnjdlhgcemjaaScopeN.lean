/- A scope with several labels to which the run jumps, each time with less to do: over every program. -/
import Derived.Scope
namespace Go.Proofs.Ytohnjdlhgcemjaa

/-- by a goto: what is asked at its label; else as Q -/
def jumpM (J : Nat → Act → World → Prop) (Q : Exit → Act → World → Prop) : Exit → Act → World → Prop
  | .goto t, a, w => J t a w
  | .normal, a, w => Q .normal a w
  | .exit d, a, w => Q (.exit d) a w
  | .ret, a, w => Q .ret a w
  | .panic c, a, w => Q (.panic c) a w
  | .outgrown, a, w => Q .outgrown a w
/-- what is asked at a label, if less is left to do -/
def lessM (J : Nat → Nat → Act → World → Prop) (m : Nat) (t : Nat) (a : Act) (w : World) : Prop := ∃ k, k < m ∧ J t k a w

/-- the code behind a label -/
def fromLabel (c : Code) (t : Nat) : Code :=
  match findLabel c t with
  | some (.seq .skip x) => x
  | _ => .skip
theorem wp_scope_many {P : Program} {Q : Exit → Act → World → Prop} {c : Code} (J : Nat → Nat → Act → World → Prop) (hs : ∀ t m a w, J t m a w → ∃ x, findLabel c t = some (.seq .skip x))
    (pass : ∀ t m a w, J t m a w → (fromLabel c t).wp P (jumpM (lessM J m) Q) a w) {a : Act} {w : World}
    (first : (∀ t m a w, J t m a w → (fromLabel c t).wp P (jumpM (fun t' a' w' => ∃ k, J t' k a' w') Q) a w) → c.wp P (jumpM (fun t' a' w' => ∃ k, J t' k a' w') Q) a w) : (Code.scope c).wp P Q a w := by
  obtain ⟨R0, hR⟩ : ∃ R0 : Nat → Code, R0 = fromLabel c := ⟨_, rfl⟩
  obtain ⟨R, hRR⟩ : ∃ R : Nat → Code, ∀ t, R t = .seq .skip (R0 t) := ⟨_, fun _ => rfl⟩
  have hf : ∀ t m a w, J t m a w → findLabel c t = some (R t) := by
    intro t m a w h
    obtain ⟨x, hx⟩ := hs t m a w h
    rw [hx, hRR, hR]
    unfold fromLabel
    rw [hx]
  rw [← hR] at pass first
  clear hR
  have pass0 := pass
  clear pass
  have pass : ∀ t m a w, J t m a w → (R t).wp P (jumpM (lessM J m) Q) a w := by
    intro t m a w h
    rw [hRR]
    exact wp_seq (wp_skip (pass0 t m a w h))
  have weaken : ∀ t m a w, J t m a w → (R0 t).wp P (jumpM (fun t' a' w' => ∃ k, J t' k a' w') Q) a w := by
    intro t m a w h
    refine wp_mono (pass0 t m a w h) ?_
    intro e a' w' hq
    cases e with
    | goto t' => obtain ⟨k, -, hk⟩ := hq; exact ⟨k, hk⟩
    | _ => exact hq
  have c0 := first weaken
  clear first weaken pass0
  intro b k cs
  have again : ∀ m t a w, J t m a w → ∃ e a' w', Q e a' w' ∧ Arrives P (lone (b.at a (.code (R t) :: .inScope c :: k)) cs w) b k cs e a' w' := by
    intro m
    refine Nat.strongRecOn m ?_
    intro m ih t a w h
    obtain ⟨e, a1, w1, hq, har⟩ := pass t m a w h b (.inScope c :: k) cs
    cases e with
    | goto t' =>
      obtain ⟨m', hm', h'⟩ := hq
      obtain ⟨e2, a2, w2, hq2, har2⟩ := ih m' hm' t' a1 w1 h'
      refine ⟨e2, a2, w2, hq2, .of_steps (har _ ?_) har2⟩
      simp [gotoIn, hf t' m' a1 w1 h']
    | normal => exact ⟨_, a1, w1, hq, Steps.trans har (.one step_inScope)⟩
    | exit d => exact ⟨.exit d, a1, w1, hq, fun k' hk => har k' (by simp [exitTo, hk])⟩
    | ret => exact ⟨_, a1, w1, hq, har⟩
    | panic ch => exact ⟨_, a1, w1, hq, har⟩
    | outgrown => exact ⟨_, a1, w1, hq, har⟩
  obtain ⟨e, a1, w1, hq, har⟩ := c0 b (.inScope c :: k) cs
  cases e with
  | goto t =>
    obtain ⟨m, h⟩ := hq
    obtain ⟨e2, a2, w2, hq2, har2⟩ := again m t a1 w1 h
    refine ⟨e2, a2, w2, hq2, .of_steps (.head step_scope (har _ ?_)) har2⟩
    simp [gotoIn, hf t m a1 w1 h]
  | normal => exact ⟨_, a1, w1, hq, .head step_scope (Steps.trans har (.one step_inScope))⟩
  | exit d => exact ⟨.exit d, a1, w1, hq, fun k' hk => .head step_scope (har k' (by simp [exitTo, hk]))⟩
  | ret => exact ⟨_, a1, w1, hq, .of_steps (.one step_scope) har⟩
  | panic ch => exact ⟨_, a1, w1, hq, .of_steps (.one step_scope) har⟩
  | outgrown => exact ⟨_, a1, w1, hq, .of_steps (.one step_scope) har⟩
end Go.Proofs.Ytohnjdlhgcemjaa
