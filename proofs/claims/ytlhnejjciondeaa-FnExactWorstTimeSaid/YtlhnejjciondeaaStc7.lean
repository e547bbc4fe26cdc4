/- Chapter 7, spec side: how a cabin grows in memory. Plain lemmas. -/
import Derived.Test.YtlhnejjciondeaaSto7
import Derived.Test.YtlhnejjciondeaaFrtM7
import Derived.Maps.AppendAt
namespace Go.Proofs.Ytlhnejjciondeaa
open Go.RowKit

def mone (_ : Nat) : Int := -1
def far7 (v : Value) (g c d e f : Nat) : Prop := v.ownBlock ≠ some g ∧ v.ownBlock ≠ some c ∧ v.ownBlock ≠ some d ∧ v.ownBlock ≠ some e ∧ v.ownBlock ≠ some f
structure S7 (r0 n : Nat) (Z : List Value) (w0 : World) (g c d e f : Nat) (va vb : Value) (ja jb : Nat) (wr : World) : Prop where
  lo : r0 < g ∧ r0 < c ∧ r0 < d ∧ r0 < e ∧ r0 < f
  gd : g ≠ c ∧ g ≠ d ∧ g ≠ e ∧ g ≠ f
  box : OwnArr wr g 65 [va, vb, .slice (some ⟨c, 0, none⟩) n n, .slice (some ⟨d, 0, none⟩) n n, .slice (some ⟨e, 0, none⟩) n n, .slice (some ⟨f, 0, none⟩) n n]
  oa : Out (r0 + 1) wr va (frM mone ja)
  ob : Out (r0 + 1) wr vb (frM mone jb)
  ne : ∀ k, va.ownBlock = some k → vb.ownBlock ≠ some k
  ka : far7 va g c d e f
  kb : far7 vb g c d e f
  zc : OwnArr wr c 3 Z
  zd : OwnArr wr d 3 Z
  ze : OwnArr wr e 3 Z
  zf : OwnArr wr f 3 Z
  r : OwnArr wr r0 65 cabZ
  bel : Below (r0 + 1) w0 wr
theorem own_kept {w w3 : World} {o : Obj} {row : Option Nat} {x : Nat} {e : TypeId} {xs : List Value} (h : OwnArr w x e xs) (hg : (w.alloc o).grownBy w3 row) (hne : row ≠ some x) : OwnArr w3 x e xs := by
  have hl := h.lt
  have h2 := h.alloc o
  unfold OwnArr at *
  rw [hg.block x (by simp; omega) (fun e => hne e.symm)]
  exact h2
theorem out_set {B : Nat} {w : World} {v : Value} {xs : List Int} {g i : Nat} {x : Value} (h : Out B w v xs) (hv : v.ownBlock ≠ some g) : Out B (w.setCell ⟨g, i, none⟩ x) v xs := by
  refine ⟨h.1, h.2.elim .inl ?_⟩
  rintro ⟨k, cap, cur, rfl, hB, hh, r⟩
  have hk : k ≠ g := fun e => hv (by rw [e]; rfl)
  exact .inr ⟨k, cap, cur, rfl, hB, by rw [Below.heap_setCell w ⟨g, i, none⟩ x k hk]; exact hh, r⟩
theorem far_at {v v' : Value} {g c d e f s : Nat} (h : far7 v g c d e f) (hs : g < s ∧ c < s ∧ d < s ∧ e < s ∧ f < s) (hat : v'.ownBlock = v.ownBlock ∨ v'.ownBlock = some s) : far7 v' g c d e f := by
  rcases hat with h' | h'
  · unfold far7 at *; rw [h']; exact h
  · unfold far7; rw [h']
    refine ⟨?_, ?_, ?_, ?_, ?_⟩ <;> (intro e; simp at e; omega)
theorem not_own7 {a b : Option Nat} (h : ∀ k, a = some k → b ≠ some k) : b = none ∨ b ≠ a := by
  cases hb : b with
  | none => exact .inl rfl
  | some k => exact .inr fun e => h k e.symm hb
section
variable {r0 n : Nat} {Z : List Value} {w0 : World} {g c d e f : Nat} {va vb : Value} {ja jb : Nat} {wr w3 : World} {v' : Value} {o : Obj}
theorem S7.lts (h : S7 r0 n Z w0 g c d e f va vb ja jb wr) : g < wr.heap.size ∧ c < wr.heap.size ∧ d < wr.heap.size ∧ e < wr.heap.size ∧ f < wr.heap.size :=
  ⟨h.box.lt, h.zc.lt, h.zd.lt, h.ze.lt, h.zf.lt⟩
theorem S7.appA (h : S7 r0 n Z w0 g c d e f va vb ja jb wr) (hg : (wr.alloc o).grownBy w3 va.ownBlock) (ho : Out (r0 + 1) w3 v' (frM mone (ja + 1))) (hat : v'.ownBlock = va.ownBlock ∨ v'.ownBlock = some (wr.alloc o).heap.size) :
    S7 r0 n Z w0 g c d e f v' vb (ja + 1) jb (w3.setCell ⟨g, 0, none⟩ v') := by
  have hlt := h.lts
  have hsz : (wr.alloc o).heap.size = wr.heap.size + 1 := by simp
  have hk' := far_at h.ka (s := (wr.alloc o).heap.size) (by omega) hat
  have hr : r0 < g := h.lo.1
  have hra : va.ownBlock ≠ some r0 := fun e => by have := (World.ownsRow.lt h.oa _ e).1; omega
  refine ⟨h.lo, h.gd, (own_kept h.box hg h.ka.1).set 0 v', out_set ho hk'.1, out_set (World.ownsRow.kept (World.ownsRow.alloc h.ob o) hg (not_own7 h.ne)) h.kb.1, ?_, hk', h.kb, ?_, ?_, ?_, ?_, ?_, ?_⟩
  · intro k hk hkb
    rcases hat with h' | h'
    · rw [h'] at hk; exact h.ne k hk hkb
    · rw [h'] at hk
      have := (World.ownsRow.lt h.ob k hkb).2
      simp at hk; omega
  · exact (own_kept h.zc hg h.ka.2.1).other7 (Ne.symm h.gd.1) _
  · exact (own_kept h.zd hg h.ka.2.2.1).other7 (Ne.symm h.gd.2.1) _
  · exact (own_kept h.ze hg h.ka.2.2.2.1).other7 (Ne.symm h.gd.2.2.1) _
  · exact (own_kept h.zf hg h.ka.2.2.2.2).other7 (Ne.symm h.gd.2.2.2) _
  · exact (own_kept h.r hg hra).other7 (by omega) _
  · have h1 : Below (r0 + 1) wr w3 := ((Below.refl (r0 + 1) wr).alloc (by omega) o).grown hg (by omega) (own_block h.oa)
    exact (h.bel.trans h1).setCell (p := ⟨g, 0, none⟩) (by show r0 + 1 ≤ g; omega) _
theorem S7.appB (h : S7 r0 n Z w0 g c d e f va vb ja jb wr) (hg : (wr.alloc o).grownBy w3 vb.ownBlock) (ho : Out (r0 + 1) w3 v' (frM mone (jb + 1))) (hat : v'.ownBlock = vb.ownBlock ∨ v'.ownBlock = some (wr.alloc o).heap.size) :
    S7 r0 n Z w0 g c d e f va v' ja (jb + 1) (w3.setCell ⟨g, 1, none⟩ v') := by
  have hlt := h.lts
  have hsz : (wr.alloc o).heap.size = wr.heap.size + 1 := by simp
  have hk' := far_at h.kb (s := (wr.alloc o).heap.size) (by omega) hat
  have hr : r0 < g := h.lo.1
  have hra : vb.ownBlock ≠ some r0 := fun e => by have := (World.ownsRow.lt h.ob _ e).1; omega
  refine ⟨h.lo, h.gd, (own_kept h.box hg h.kb.1).set 1 v', out_set (World.ownsRow.kept (World.ownsRow.alloc h.oa o) hg (not_own7 (fun k hk hk2 => h.ne k hk2 hk))) h.ka.1, out_set ho hk'.1, ?_, h.ka, hk', ?_, ?_, ?_, ?_, ?_, ?_⟩
  · intro k hk hkb
    rcases hat with h' | h'
    · rw [h'] at hkb; exact h.ne k hk hkb
    · rw [h'] at hkb
      have := (World.ownsRow.lt h.oa k hk).2
      simp at hkb; omega
  · exact (own_kept h.zc hg h.kb.2.1).other7 (Ne.symm h.gd.1) _
  · exact (own_kept h.zd hg h.kb.2.2.1).other7 (Ne.symm h.gd.2.1) _
  · exact (own_kept h.ze hg h.kb.2.2.2.1).other7 (Ne.symm h.gd.2.2.1) _
  · exact (own_kept h.zf hg h.kb.2.2.2.2).other7 (Ne.symm h.gd.2.2.2) _
  · exact (own_kept h.r hg hra).other7 (by omega) _
  · have h1 : Below (r0 + 1) wr w3 := ((Below.refl (r0 + 1) wr).alloc (by omega) o).grown hg (by omega) (own_block h.ob)
    exact (h.bel.trans h1).setCell (p := ⟨g, 1, none⟩) (by show r0 + 1 ≤ g; omega) _
end
theorem out_form {B : Nat} {w : World} {v : Value} {xs : List Int} {m : Nat} (h : Out B w v xs) (hm : xs.length = m) : ∃ q c, v = .slice q m c := by
  obtain ⟨q, c, rfl, -⟩ := h.rd
  exact ⟨q, c, by rw [hm]⟩
theorem ia_zero {w : World} {g n : Nat} {K : Nat → Nat} (h : OwnArr w g 3 (List.replicate n (.int .i64 0))) (hK : K g = n) : IA w g n K (fun _ => 0) :=
  ⟨_, h, ⟨by simp, by simp [hK]⟩, fun j hj => by simp [hj]⟩
theorem ia_out {w : World} {B n : Nat} {v : Value} (h : Out B w v (frM mone n)) (hn : 1 ≤ n) : ∃ a k, v = .slice (some ⟨a, 0, none⟩) n k ∧ B ≤ a ∧ k ≤ maxLen ∧ ∀ K : Nat → Nat, K a = k → IA w a n K (fun _ => -1) := by
  obtain ⟨h1, h2⟩ := h
  rw [frM_len] at h1 h2
  rcases h2 with ⟨-, h0⟩ | ⟨a, k, cur, rfl, hB, hh, hnk, hk, hcs, htk⟩
  · omega
  · refine ⟨a, k, rfl, hB, hk, fun K hK => ⟨cur.toList, by unfold OwnArr; simpa using hh, ⟨by simp; omega, by simp [hK]; omega⟩, fun j hj => ?_⟩⟩
    rw [Nat.mul_one] at htk
    have e : cur.toList[j]? = (iv (frM mone n))[j]? := by rw [← htk, List.getElem?_take, if_pos hj]
    rw [e, iv_get (by rw [frM_len]; exact hj)]
    unfold frM
    simp [hj, mone]
end Go.Proofs.Ytlhnejjciondeaa
