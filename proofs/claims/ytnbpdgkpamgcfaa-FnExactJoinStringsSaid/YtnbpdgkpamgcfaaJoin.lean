/- FnExactJoinStrings: for every slice of texts and every separator the law answers true and leaves its arguments as they were. No condition. -/
import Derived.Test.YtnbpdgkpamgcfaaRows
import Derived.Test.YtnbpdgkpamgcfaaFrame
import Derived.Test.YtnbpdgkpamgcfaaSlices
import Derived.Test.YtnbpdgkpamgcfaaJoinAll
import Derived.SliceStrings
namespace Go.Proofs.Ytnbpdgkpamgcfaa.joinStrings
open Go.ChangeShapes Go.WideShapes Go.ChangeAt Go.RowKit
open Go.WideMaps Go.WideElems
open Go.ChangeMaps (setBlock shut_map_nil open_string shut_string keptBut_setBlock frozen?_setBlock heap_setBlock_same)

theorem own : ownKnob Try.prog.godebug = none := by kernel_rfl
theorem laidOut : laidOutB Try.prog = true := by kernel_rfl
theorem cellsStr : Try.prog.cellsOf 9 = 1 := by kernel_rfl

set_option maxHeartbeats 400000 in
theorem walk (p : Option Addr) (cap : Nat) (ss : List ByteArray) (sep : ByteArray) (w : World) (hin : InStrs w p ss) (hs : sep.size ≤ 9223372036854775807) :
    Calls Try.prog 3 #[.slice p ss.length cap, .string sep] w fun e w' => e = .returned (.bool true) ∧ Below w.heap.size w w' := by
  by_cases h0 : sep.size ≤ 1048576
  · by_cases hsz : (ss.length : Int) + sizes ss ≤ 1048576
    · have hpos : 0 ≤ szR ss 1048576 := by unfold szR; rw [if_pos hsz]; omega
      go_enter Try.func3, Try.ntmps3
      go_wp2_with fail
      refine (sz_any p cap ss 1048576 w hin (by omega) (by omega)).mono ?_
      rintro e w' ⟨rfl, rfl⟩
      go_wp2_with fail
      refine (toS_any p cap ss w hin (by omega)).mono ?_
      rintro e w1 ⟨b1, hb1, rfl, hin1, hbl1⟩
      go_wp2_with fail
      refine (joinS_all _ _ ss sep w1 hin1 hs hsz).mono ?_
      rintro e w2 ⟨rfl, hbl2⟩
      have hbl20 : Below w.heap.size w w2 := hbl1.trans (hbl2.mono hbl1.size)
      go_wp2_with fail
      refine (toS_any p cap ss w2 (hin.below hbl20) (by omega)).mono ?_
      rintro e w3 ⟨b3, hb3, rfl, hin3, hbl3⟩
      have hbl30 : Below w.heap.size w w3 := hbl20.trans (hbl3.mono hbl20.size)
      go_wp2_with fail
      refine (joinI_all _ _ ss sep w3 hin3 (Nat.le_refl _) hs hsz).mono ?_
      rintro e w4 ⟨rfl, hbl4⟩
      have hbl40 : Below w.heap.size w w4 := hbl30.trans (hbl4.mono hbl30.size)
      go_wp2_with fail
      refine (toS_any p cap ss w4 (hin.below hbl40) (by omega)).mono ?_
      rintro e w5 ⟨b5, hb5, rfl, hin5, hbl5⟩
      have hbl50 : Below w.heap.size w w5 := hbl40.trans (hbl5.mono hbl40.size)
      go_wp2_with fail
      refine (eqS_same _ _ _ _ ss w5 ((hin3.below hbl4).below hbl5) hin5).mono ?_
      rintro e w6 ⟨rfl, hbl6⟩
      go_wp2_with fail
      go_ret
      exact ⟨rfl, hbl50.trans (hbl6.mono hbl50.size)⟩
    · have hneg : szR ss 1048576 < 0 := by unfold szR; rw [if_neg hsz]; omega
      go_enter Try.func3, Try.ntmps3
      go_wp2_with fail
      refine (sz_any p cap ss 1048576 w hin (by omega) (by omega)).mono ?_
      rintro e w' ⟨rfl, rfl⟩
      go_wp2_with fail
      go_ret
      exact ⟨rfl, Below.refl _ _⟩
  · go_enter Try.func3, Try.ntmps3
    go_wp2
    go_ret
    exact ⟨rfl, Below.refl _ _⟩

set_option maxRecDepth 100000 in
theorem lifted (os : Os) (started : os.Started) (H : Type) (enc : TypeId × Value → H) (F : Stop.Interp) :
    ReturnsInHanded {} Try.checked os 3 .any ((OpenSpec.ofChange Rows.fnExactJoinStringsSpec).preRow enc Try.prog Try.f3 Rows.fnExactJoinStringsRow.domain false Rows.fnExactJoinStringsRow.laid) (((OpenSpec.ofChange Rows.fnExactJoinStringsSpec).at F).post enc Try.prog Try.f3 false true false false) := by
  refine law_lifted (C := Try.checked) (s := Rows.fnExactJoinStringsSpec) (tb := 4) own started (by kernel_rfl) Try.func3 laidOut ?_ (by kernel_rfl) Try.underlying4 rfl ?_
    (witness_row_at (enc := enc) (C := Try.checked) false (World.holding Try.prog os ⟨#[], #[], []⟩) #[.slice none 0 0, .string ⟨#[]⟩] rfl (by kernel_rfl) (by kernel_rfl) (by kernel_rfl)
      (OpenSpec.preRow_of_cond 8 (x := ([.nil, .lit (.string [])], [], [])) (by kernel_rfl) (by kernel_rfl) (fun k hk => by cases hk) (by kernel_rfl) (laidMetH_nil _ _))) ?_
  · intro t ht
    rw [Try.params3] at ht
    simp at ht
    rcases ht with rfl | rfl
    · exact ⟨by kernel_rfl, of_decide_eq_true (by kernel_rfl)⟩
    · exact ⟨by kernel_rfl, of_decide_eq_true (by kernel_rfl)⟩
  · intro ds hds
    rw [Try.params3] at hds
    match ds, hds with
    | [_, _], _ => rfl
  · intro W base args ds ps hval0 hA0 hlt hsz hL hsh
    have hval : ∀ (j : Nat) t v, Try.f3.params[j]? = some t → args[j]? = some v → Value.okWide Try.prog W .any base t v := hval0
    have hA : DataW.TrodAll enc Try.prog W 0 (fun _ => true) true Try.f3.params.toList args.toList ds ps := hA0
    rw [Try.params3] at hA hval
    obtain ⟨v0, v1, d0, d1, p0, p1, rfl, rfl, rfl, h0, h1⟩ := trodAll_two hA
    obtain ⟨a, rfl, rfl, rfl, wa⟩ := open_string Try.underlying9 (hval 1 9 v1 rfl rfl) h1
    obtain ⟨a0, len, cap, rfl⟩ := okWide_slice Try.underlying22 (hval 0 22 v0 rfl rfl)
    obtain ⟨fuel, hf⟩ := h0
    rcases open_strings Try.underlying22 Try.underlying9 cellsStr hf with ⟨hcs, hx⟩ | ⟨ad, len', cap', ss, hcs, _, hl, hm, hz, hx, hcell, hws⟩
    · simp [Value.cells] at hcs
      obtain ⟨rfl, rfl, rfl⟩ := hcs
      exact walk none 0 [] a W ⟨by simp, by simp, fun h => absurd h (Nat.lt_irrefl _)⟩ wa
    · simp [Value.cells] at hcs
      obtain ⟨rfl, rfl, rfl⟩ := hcs
      simp only [if_true] at hz
      simp only [Prod.mk.injEq] at hx
      obtain ⟨hx1, hx2⟩ := hx
      have hlen : (ss.take len).length = len := by rw [List.length_take]; omega
      have hin : InStrs W (some ad) (ss.take len) := by
        refine ⟨by rw [hlen]; unfold maxLen at hm; omega, fun s hs => hws s (List.mem_of_mem_take hs), fun h0 => ?_⟩
        rw [hlen] at h0
        obtain ⟨b, off, spot⟩ := ad
        have hspot : spot = none := by simpa [Addr.add] using World.cell?_spot (hcell 0 (by omega))
        subst hspot
        refine ⟨b, off, rfl, hlt (.cell b off) ?_, fun i hi => ?_⟩
        · rw [hx2]
          simp only [List.mem_append]
          exact Or.inl (MemPlace.mem_row.2 ⟨0, by omega, by simp⟩)
        · rw [hlen] at hi
          have := hcell i (by omega)
          rw [add_plain] at this
          rw [this, List.getElem?_take, if_pos hi]
          simp
      have := walk (some ad) cap (ss.take len) a W hin wa
      rw [hlen] at this
      exact this

theorem proved : Rows.FnExactJoinStringsSaid :=
  OpenClaim.holds_of_cond 3 Try.f3 rfl rfl rfl rfl rfl rfl rfl ⟨rfl, rfl, rfl, rfl, rfl⟩ rfl rfl rfl rfl rfl (by kernel_rfl) Try.func3 (by kernel_rfl)
    (of_decide_eq_true (by kernel_rfl)) (by unfold Func.isWrapper; first | (rw [if_pos (by decide +kernel)]; kernel_rfl) | (rw [if_neg (by decide +kernel)]; exact ⟨rfl, rfl⟩))
    (fun os started H enc _ F => by rw [OpenClaim.pre_eq_preRow]; exact lifted os started H enc F)
#print axioms proved
end Go.Proofs.Ytnbpdgkpamgcfaa.joinStrings
