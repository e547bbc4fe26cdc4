/- The text of a Row: spec.l2Text. -/
import Derived.Test.YtbgmfjhcgfnfoaaOut
import Derived.Test.YtbgmfjhcgfnfoaaHasS
namespace Go.Proofs.Ytbgmfjhcgfnfoaa
open Go.RowKit

/-- the text's head, the signs of the first k seats -/
def preT (ring : Bool) : ByteArray := if ring then ⟨#[114, 105, 110, 103, 32]⟩ else ⟨#[108, 105, 110, 101, 32]⟩
def signT (b : Bool) : ByteArray := if b then ⟨#[120]⟩ else ⟨#[46]⟩
def textT (ring : Bool) (S : Nat → Bool) : Nat → ByteArray
  | 0 => preT ring
  | k + 1 => textT ring S k ++ signT (S k)
theorem signT_size (b : Bool) : (signT b).size = 1 := by cases b <;> rfl
theorem textT_size (ring : Bool) (S : Nat → Bool) (k : Nat) : (textT ring S k).size = 5 + k := by
  induction k with
  | zero => cases ring <;> rfl
  | succ k ih => rw [textT, ByteArray.size_append, ih, signT_size]; omega

set_option maxRecDepth 4000 in
set_option maxHeartbeats 1000000 in
theorem l2Text_any (n : Nat) (ring : Bool) (p : Option Addr) (cap : Nat) (S : Nat → Bool) (w : World) (lo hi : Nat) (hin : Ri lo hi w p (ints (tk n S))) (hn : n ≤ 24) :
    Calls Try.prog 51 #[rowV n ring p (ints (tk n S)).length cap] w fun e w' => e = .returned (.string (textT ring S n)) ∧ Below w.heap.size w w' := by
  have hlen := ints_tk_len n S
  have HG : Hid (∀ (k : Nat), k < n → ∀ w', Below w.heap.size w w' → Calls Try.prog 58 #[rowV n ring p (ints (tk n S)).length cap, .int .i64 k] w' fun e w'' => e = .returned (.bool (S k)) ∧ Below w'.heap.size w' w'') := by
    show ∀ _, _
    intro k hk w' hb
    have := l2Is_any n ring p cap (ints (tk n S)) k w' lo hi (hin.below hb hin.top) (by omega)
    rw [has_tk hk] at this
    exact this
  obtain ⟨m, hm⟩ : ∃ m, (ints (tk n S)).length = m := ⟨_, rfl⟩
  rw [hm] at HG ⊢
  have HX0 := Lib.hid (OwnArr.made w 28 [.int .i64 n, .bool ring, .slice p m cap])
  have HB0 := Lib.hid (box_below w n ring p m cap 28)
  clear hm hin hlen
  cases ring with
  | false =>
    go_enter Try.func51, Try.ntmps51
    go_wp2_with fail
    go_loopw [3, 4] (fun v i wr => ∃ (k : Nat) (x : ByteArray), k ≤ n ∧ i = .int .i64 k ∧ v = .string x ∧ x.size = 5 + k ∧ Hid (textT false S k = x) ∧ Hid (OwnArr wr w.heap.size 28 [.int .i64 n, .bool false, .slice p m cap]) ∧ Hid (Below w.heap.size w wr)) (fun _ i _ => n - (intOf i).toNat)
    case atStart => exact ⟨0, _, Nat.zero_le _, rfl, rfl, rfl, rfl, HX0, HB0⟩
    case round =>
      obtain ⟨k, x, hk, rfl, rfl, hxs, HT, HX, HB⟩ := hrel
      clear HX0 HB0
      obtain ⟨c0, c1, c2, -⟩ := HX.out.three
      by_cases hlt : k < n
      · have hk1 : (k : Int) < (n : Int) := by omega
        have G := Lib.hid (HG.out k hlt wr HB.out)
        obtain ⟨b, hb⟩ : ∃ b, S k = b := ⟨_, rfl⟩
        rw [hb] at G
        have HN : Hid (textT false S (k + 1) = x ++ signT b) := by show _ = _; rw [textT, HT.out, hb]
        have hs2 : (x ++ signT b).size = 5 + (k + 1) := by rw [ByteArray.size_append, hxs, signT_size]; omega
        clear hb
        cases b with
        | true =>
          have h1 : (ByteArray.mk #[120]).size = 1 := rfl
          change Hid (_ = x ++ ⟨#[120]⟩) at HN
          change (x ++ ⟨#[120]⟩).size = _ at hs2
          replace hs2 := Lib.hid hs2
          go_wp2_with fail
          refine G.out.mono ?_
          rintro e w2 ⟨rfl, hb2⟩
          have HX2 := Lib.hid (HX.out.below hb2 HX.out.lt)
          have HB2 := Lib.hid (HB.out.trans (hb2.mono HB.out.size))
          clear HX HB hb2 c0 c1 c2 G
          go_wp2_with fail
          go_roundw
          case rel => exact ⟨k + 1, _, by omega, by go_num, rfl, hs2.out, HN, HX2, HB2⟩
          case measure => simp [intOf]; omega
        | false =>
          have h1 : (ByteArray.mk #[46]).size = 1 := rfl
          change Hid (_ = x ++ ⟨#[46]⟩) at HN
          change (x ++ ⟨#[46]⟩).size = _ at hs2
          replace hs2 := Lib.hid hs2
          go_wp2_with fail
          refine G.out.mono ?_
          rintro e w2 ⟨rfl, hb2⟩
          have HX2 := Lib.hid (HX.out.below hb2 HX.out.lt)
          have HB2 := Lib.hid (HB.out.trans (hb2.mono HB.out.size))
          clear HX HB hb2 c0 c1 c2 G
          go_wp2_with fail
          go_roundw
          case rel => exact ⟨k + 1, _, by omega, by go_num, rfl, hs2.out, HN, HX2, HB2⟩
          case measure => simp [intOf]; omega
      · have hkn : k = n := by omega
        subst hkn
        go_wp2_with fail
        go_ret
        exact ⟨by rw [HT.out]; rfl, HB.out⟩
  | true =>
    go_enter Try.func51, Try.ntmps51
    go_wp2_with fail
    go_loopw [3, 4] (fun v i wr => ∃ (k : Nat) (x : ByteArray), k ≤ n ∧ i = .int .i64 k ∧ v = .string x ∧ x.size = 5 + k ∧ Hid (textT true S k = x) ∧ Hid (OwnArr wr w.heap.size 28 [.int .i64 n, .bool true, .slice p m cap]) ∧ Hid (Below w.heap.size w wr)) (fun _ i _ => n - (intOf i).toNat)
    case atStart => exact ⟨0, _, Nat.zero_le _, rfl, rfl, rfl, rfl, HX0, HB0⟩
    case round =>
      obtain ⟨k, x, hk, rfl, rfl, hxs, HT, HX, HB⟩ := hrel
      clear HX0 HB0
      obtain ⟨c0, c1, c2, -⟩ := HX.out.three
      by_cases hlt : k < n
      · have hk1 : (k : Int) < (n : Int) := by omega
        have G := Lib.hid (HG.out k hlt wr HB.out)
        obtain ⟨b, hb⟩ : ∃ b, S k = b := ⟨_, rfl⟩
        rw [hb] at G
        have HN : Hid (textT true S (k + 1) = x ++ signT b) := by show _ = _; rw [textT, HT.out, hb]
        have hs2 : (x ++ signT b).size = 5 + (k + 1) := by rw [ByteArray.size_append, hxs, signT_size]; omega
        clear hb
        cases b with
        | true =>
          have h1 : (ByteArray.mk #[120]).size = 1 := rfl
          change Hid (_ = x ++ ⟨#[120]⟩) at HN
          change (x ++ ⟨#[120]⟩).size = _ at hs2
          replace hs2 := Lib.hid hs2
          go_wp2_with fail
          refine G.out.mono ?_
          rintro e w2 ⟨rfl, hb2⟩
          have HX2 := Lib.hid (HX.out.below hb2 HX.out.lt)
          have HB2 := Lib.hid (HB.out.trans (hb2.mono HB.out.size))
          clear HX HB hb2 c0 c1 c2 G
          go_wp2_with fail
          go_roundw
          case rel => exact ⟨k + 1, _, by omega, by go_num, rfl, hs2.out, HN, HX2, HB2⟩
          case measure => simp [intOf]; omega
        | false =>
          have h1 : (ByteArray.mk #[46]).size = 1 := rfl
          change Hid (_ = x ++ ⟨#[46]⟩) at HN
          change (x ++ ⟨#[46]⟩).size = _ at hs2
          replace hs2 := Lib.hid hs2
          go_wp2_with fail
          refine G.out.mono ?_
          rintro e w2 ⟨rfl, hb2⟩
          have HX2 := Lib.hid (HX.out.below hb2 HX.out.lt)
          have HB2 := Lib.hid (HB.out.trans (hb2.mono HB.out.size))
          clear HX HB hb2 c0 c1 c2 G
          go_wp2_with fail
          go_roundw
          case rel => exact ⟨k + 1, _, by omega, by go_num, rfl, hs2.out, HN, HX2, HB2⟩
          case measure => simp [intOf]; omega
      · have hkn : k = n := by omega
        subst hkn
        go_wp2_with fail
        go_ret
        exact ⟨by rw [HT.out]; rfl, HB.out⟩
end Go.Proofs.Ytbgmfjhcgfnfoaa
