/- Chapter 7, impl side: what is told of travelers: impl.canBoardBy, boardTime, tellRows. -/
import Derived.Test.YtohnjdlhgcemjaaBrdU7
import Derived.Test.YtohnjdlhgcemjaaIsOrd
import Derived.Test.YtohnjdlhgcemjaaTimN7
import Derived.Test.YtohnjdlhgcemjaaRes7
namespace Go.Proofs.Ytohnjdlhgcemjaa
open Go.RowKit

theorem rows_apart {n : Nat} {l : List Nat} (h : orderB (n : Int) (ints l) = true) : ∀ j k, j < n → k < n → j ≠ k → lrow l j ≠ lrow l k := by
  obtain ⟨hg, hl⟩ := order_good h
  rw [ints_length] at hl
  have key : ∀ j k, j < k → k < n → lrow l j ≠ lrow l k := by
    intro j k hjk hk e
    have h1 := (hg k (by rw [ints_length]; omega)).2.2
    refine h1 (List.mem_iff_getElem.2 ⟨j, by rw [List.length_take, ints_length]; omega, ?_⟩)
    have h2 := ints_get (l := l) (k := k) (by omega)
    have h3 := ints_get (l := l) (k := j) (by omega)
    rw [h2, List.getElem_take]
    rw [List.getElem?_eq_getElem (by rw [ints_length]; omega)] at h3
    simp only [Option.getD_some] at h3
    rw [h3]
    show ((lrow l j : Nat) : Int) = ((lrow l k : Nat) : Int)
    rw [e]
  intro j k hj hk hne
  rcases Nat.lt_or_ge j k with h | h
  · exact key j k h hk
  · exact fun e => key k j (by omega) hj e.symm

set_option maxRecDepth 4000 in
set_option maxHeartbeats 1000000 in
theorem canBoardBy_any (n s : Int) (p : Option Addr) (cap : Nat) (xs : List Int) (w : World) (lo hi : Nat) (hin : Ri lo hi w p xs) (hlen : xs.length ≤ 1048576) :
    Calls Try.prog 27 #[.int .i64 n, .int .i64 s, .slice p xs.length cap] w fun e w' => e = .returned (.bool (ask7 n s xs)) ∧ Below w.heap.size w w' := by
  have IN := fun w' => canBoard_any n s w'
  unfold ask7
  cases hg : rows7 n s with
  | false =>
    rw [hg] at IN
    replace IN := Lib.hid IN
    clear hg hin
    go_enter Try.func27, Try.ntmps27
    go_wp2_with fail
    refine (IN.out _).mono ?_
    rintro e w1 ⟨rfl, rfl⟩
    go_wp2_with fail
    go_ret
    exact ⟨rfl, Below.refl _ _⟩
  | true =>
    rw [hg] at IN
    replace IN := Lib.hid IN
    rw [Bool.true_and]
    unfold rows7 at hg
    rw [Bool.and_eq_true] at hg
    obtain ⟨n, rfl, h1, h2⟩ := rowsB_is hg.1
    have O := isOrder_any p cap xs (n : Int) w lo hi hin (by omega) (by omega) hlen
    obtain ⟨R, hR⟩ : ∃ R, orderB (n : Int) xs = R := ⟨_, rfl⟩
    rw [hR] at O ⊢
    obtain ⟨m, hm⟩ : ∃ m, xs.length = m := ⟨_, rfl⟩
    rw [hm] at O ⊢
    replace O := Lib.hid O
    clear hg hin hm hR
    go_enter Try.func27, Try.ntmps27
    go_wp2_with fail
    refine (IN.out _).mono ?_
    rintro e w1 ⟨rfl, rfl⟩
    go_wp2_with fail
    refine O.out.mono ?_
    rintro e w2 ⟨rfl, hb⟩
    go_wp2_with fail
    go_ret
    exact ⟨rfl, hb⟩

set_option maxRecDepth 4000 in
set_option maxHeartbeats 1000000 in
theorem boardTime_any (s : Int) (n : Nat) (p : Option Addr) (cap : Nat) (l : List Nat) (U : Nat) (w : World) (lo hi : Nat) (hin : Ri lo hi w p (ints l)) (hn1 : 1 ≤ n) (hn : n ≤ 10) (hs1 : 1 ≤ s) (hs : s ≤ 5) (hll : l.length = n) (hl : ∀ x ∈ l, x < n) (ha : ∀ r, r < n → r ∈ l) (hnd : ∀ j k, j < n → k < n → j ≠ k → lrow l j ≠ lrow l k) (hU : runs7 n s (-1) l U) :
    Calls Try.prog 28 #[.int .i64 s, .slice p n cap] w fun e w' => e = .returned (.int .i64 (U : Nat)) ∧ Below w.heap.size w w' := by
  have B := until_any 9223372036854775807 s n p cap l U w lo hi hin hn1 hn hs1 hs hll hl ha hnd (runsI_all hU)
  unfold MadeBrd at B
  replace B := Lib.hid B
  clear hin hl ha hnd hU
  go_enter Try.func28, Try.ntmps28
  go_wp2_with fail
  refine B.out.mono ?_
  rintro e w1 ⟨g, tb, ab, kt, ka, T, rfl, hB, hF, hL⟩
  obtain ⟨-, -, g2⟩ := hB.cells
  have HL := Lib.hid hL
  clear hB hF hL B
  go_wp2_with fail
  go_ret
  exact ⟨rfl, HL.out⟩

theorem Brd.far {w : World} {n g tb ab kt ka : Nat} {T : Nat → Nat} {l : List Nat} {s u : Int} {C : Cab} (h : Brd w n g tb ab kt ka T l s u C) {B x i : Nat} (hF : from7 B n g tb ab T) (hx : x < B) (v : Value) : Brd (w.setCell ⟨x, i, none⟩ v) n g tb ab kt ka T l s u C := by
  have h1 := hF.g
  have h2 := hF.tb
  have h3 := hF.ab
  exact ⟨h.dis, h.own.far7 (by omega) v, h.tr.other (by omega) v, h.ai.other (by omega) v, fun r hr => (h.tv r hr).far7 (by have := hF.tr r hr; omega) v⟩
theorem IA.far {w : World} {g n : Nat} {K : Nat → Nat} {F : Nat → Int} (h : IA w g n K F) {i : Nat} {v : Int} {G : Nat → Int} (e : ∀ j, j < n → updI F i v j = G j) : IA (w.setCell ⟨g, i, none⟩ (.int .i64 v)) g n K G := (h.set i v).congr e
/-- what is told of the rows that came first -/
def toldF (l : List Nat) (F : Nat → Int) (i r : Nat) : Int := if r ∈ l.take i then F r else 0
theorem told_step {l : List Nat} {F : Nat → Int} {i n : Nat} (hi : i < l.length) (j : Nat) (hj : j < n) : updI (toldF l F i) (l[i]?.getD 0) (F (l[i]?.getD 0)) j = toldF l F (i + 1) j := by
  unfold toldF
  rw [List.take_succ_eq_append_getElem hi, List.getElem?_eq_getElem hi]
  simp only [Option.getD_some, List.mem_append, List.mem_singleton]
  by_cases e : j = l[i]
  · rw [e, upd_at, if_pos (.inr rfl)]
  · rw [upd_ne e]
    by_cases h : j ∈ l.take i
    · rw [if_pos h, if_pos (.inl h)]
    · rw [if_neg h, if_neg (by rintro (h' | h'); exact h h'; exact e h')]
theorem told_all {n : Nat} {l : List Nat} {F : Nat → Int} (hll : l.length = n) (ha : ∀ r, r < n → r ∈ l) (j : Nat) (hj : j < n) : toldF l F n j = F j := by
  unfold toldF
  rw [List.take_of_length_le (by omega), if_pos (ha j hj)]
end Go.Proofs.Ytohnjdlhgcemjaa
