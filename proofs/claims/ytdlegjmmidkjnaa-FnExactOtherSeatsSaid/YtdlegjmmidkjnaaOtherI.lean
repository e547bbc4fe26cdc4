/- impl.OtherSeats, for every Row; both functions give the same Row. -/
import Derived.Test.YtdlegjmmidkjnaaOther
namespace Go.Proofs.Ytdlegjmmidkjnaa
open Go.RowKit

set_option maxHeartbeats 800000 in
theorem otherI_bad (s : Int) (ring : Bool) (p : Option Addr) (cap : Nat) (xs : List Int) (w : World) (lo hi : Nat) (hin : Ri lo hi w p xs) (hlen : xs.length ≤ 1048576) (hr : rowB s ring xs = false) :
    Calls Try.prog 16 #[rowV s ring p xs.length cap] w (MadeRow w 0 false [] false) := by
  have hb := box_below w s ring p xs.length cap 26
  have hb2 : Below w.heap.size w ((w.alloc (.cells #[Value.int .i64 s, Value.bool ring, Value.slice p xs.length cap] 26)).alloc (.cells #[Value.int .i64 0, Value.bool false, Value.slice none 0 0] 26)) := hb.alloc hb.size _
  have R := Lib.hid (isRow_any s ring p cap xs _ lo hi (hin.below hb2 hin.top) hlen)
  rw [hr] at R
  have HZ := Lib.hid (OwnArr.mk' (w := w.alloc (.cells #[Value.int .i64 s, Value.bool ring, Value.slice p xs.length cap] 26)) (n := w.heap.size + 1) (e := 26) (C := #[Value.int .i64 0, Value.bool false, Value.slice none 0 0]) (xs := [.int .i64 0, .bool false, .slice none 0 0]) rfl (by simp))
  have HB := Lib.hid hb2
  clear hb hb2 hin hr
  unfold MadeRow
  go_enter Try.func16, Try.ntmps16
  go_wp2_with fail
  refine R.out.mono ?_
  rintro e w1 ⟨rfl, hb1⟩
  have HZ1 := Lib.hid (HZ.out.below hb1 HZ.out.lt)
  have HB1 := Lib.hid (HB.out.trans (hb1.mono HB.out.size))
  clear HZ HB hb1 R
  obtain ⟨z0, z1, z2, y0, y1, y2⟩ := HZ1.out.three
  go_wp2_with fail
  refine ret_row2 Try.results16 rfl rfl (((HZ1.out.set 0 _).set 1 _).set 2 _) rfl ⟨_, rfl, Out.none _ _, ?_⟩
  exact ((HB1.out.setCell (by show _ ≤ w.heap.size + 1; omega) _).setCell (by show _ ≤ w.heap.size + 1; omega) _).setCell (by show _ ≤ w.heap.size + 1; omega) _

set_option maxRecDepth 4000 in
set_option maxHeartbeats 2000000 in
theorem otherI_any (n : Nat) (ring : Bool) (p : Option Addr) (cap : Nat) (S : Nat → Bool) (w : World) (lo hi : Nat) (hin : Ri lo hi w p (ints (tk n S))) (h2 : 2 ≤ n) (hn : n ≤ 24) (h3 : ring = true → 3 ≤ n) :
    Calls Try.prog 16 #[rowV n ring p (ints (tk n S)).length cap] w (MadeRow w n ring (ints (tk n fun q => !S q)) true) := by
  have hlen := ints_tk_len n S
  have hb := box_below w n ring p (ints (tk n S)).length cap 26
  have hb2 : Below w.heap.size w ((w.alloc (.cells #[Value.int .i64 n, Value.bool ring, Value.slice p (ints (tk n S)).length cap] 26)).alloc (.cells #[Value.int .i64 0, Value.bool false, Value.slice none 0 0] 26)) := hb.alloc hb.size _
  have R := Lib.hid (isRow_any n ring p cap (ints (tk n S)) _ lo hi (hin.below hb2 hin.top) (by omega))
  rw [rowB_of h2 hn h3] at R
  have MK := Lib.hid (fun w' (h : Ri lo hi w' p (ints (tk n S))) => marksOf_any n ring p cap S w' lo hi h hn)
  have RO := Lib.hid (fun (q : Option Addr) (w' : World) (l h' : Nat) (h : Rd l h' w' q (bv (bl n fun i => !S i))) => rowOf_any n ring q n (fun i => !S i) w' l h' h (by omega) true (rowB_of h2 hn h3))
  have HZ := Lib.hid (OwnArr.mk' (w := w.alloc (.cells #[Value.int .i64 n, Value.bool ring, Value.slice p (ints (tk n S)).length cap] 26)) (n := w.heap.size + 1) (e := 26) (C := #[Value.int .i64 0, Value.bool false, Value.slice none 0 0]) (xs := [.int .i64 0, .bool false, .slice none 0 0]) rfl (by simp))
  have HX := Lib.hid ((OwnArr.made w 26 [.int .i64 n, .bool ring, .slice p (ints (tk n S)).length cap]).alloc (.cells #[Value.int .i64 0, Value.bool false, Value.slice none 0 0] 26))
  have HI := Lib.hid (hin.below hb2 hin.top)
  have HB := Lib.hid hb2
  clear hb hb2 hin h3 hlen
  obtain ⟨m, hm⟩ : ∃ m, (ints (tk n S)).length = m := ⟨_, rfl⟩
  rw [hm] at R MK HX HI HB HZ ⊢
  clear hm
  unfold MadeRow
  go_enter Try.func16, Try.ntmps16
  go_wp2_with fail
  refine R.out.mono ?_
  rintro e w1 ⟨rfl, hb1⟩
  have HZ1 := Lib.hid (HZ.out.below hb1 HZ.out.lt)
  have HX1 := Lib.hid (HX.out.below hb1 (by simp; omega))
  have HI1 := Lib.hid (HI.out.bel hb1)
  have HB1 := Lib.hid (HB.out.trans (hb1.mono HB.out.size))
  clear HZ HX HI HB hb1 R
  obtain ⟨c0, c1, c2, -⟩ := HX1.out.three
  go_wp2_with fail
  refine (MK.out _ HI1.out).mono ?_
  rintro e w2 ⟨g, rfl, hg, hO, hb2⟩
  have HZ2 := Lib.hid (HZ1.out.below hb2 HZ1.out.lt)
  have HX2 := Lib.hid (HX1.out.below hb2 HX1.out.lt)
  have HB2 := Lib.hid (HB1.out.trans (hb2.mono HB1.out.size))
  have HO2 : Hid (OwnArr w2 g 4 (bv (bl n fun i => if i < 0 then !S i else S i))) := by
    show OwnArr _ _ _ _
    have : bl n (fun i => if i < 0 then !S i else S i) = bl n S := bl_congr fun k _ => by simp
    rw [this]; exact hO
  have hgw : w.heap.size + 2 ≤ g := by have := HZ1.out.lt; omega
  clear HZ1 HX1 HI1 HB1 hb2 hO hg c0 c1 c2 MK
  go_wp2_with fail
  go_loopw [5, 14] (fun _ i wr => ∃ (k : Nat), k ≤ n ∧ i = .int .i64 k ∧ Hid (OwnArr wr g 4 (bv (bl n fun i => if i < k then !S i else S i))) ∧ Hid (OwnArr wr (w.heap.size + 1) 26 [.int .i64 0, .bool false, .slice none 0 0]) ∧ Hid (OwnArr wr w.heap.size 26 [.int .i64 n, .bool ring, .slice p m cap]) ∧ Hid (Below w.heap.size w wr)) (fun _ i _ => n - (intOf i).toNat)
  case atStart => exact ⟨0, Nat.zero_le _, rfl, HO2, HZ2, HX2, HB2⟩
  case round =>
    obtain ⟨k, hk, rfl, HO, HZ, HX, HB⟩ := hrel
    clear HO2 HZ2 HX2 HB2
    by_cases hlt : k < n
    · have hold := HO.out.cell k
      rw [bv_get (by rw [bl_length]; exact hlt), bl_getD hlt] at hold
      simp only [Nat.lt_irrefl, if_false] at hold
      have hfree := HO.out.free k
      obtain ⟨b, hb⟩ : ∃ b, S k = b := ⟨_, rfl⟩
      rw [hb] at hold
      have hset := HO.out.set k (.bool (!b))
      rw [bv_set, bl_set] at hset
      have hcong : bl n (fun i => if i = k then !b else if i < k then !S i else S i) = bl n (fun i => if i < k + 1 then !S i else S i) := bl_congr fun i _ => by
        by_cases h1 : i = k
        · subst h1; simp [hb]
        · by_cases h4 : i < k
          · have : i < k + 1 := by omega
            simp [h1, h4, this]
          · have : ¬ i < k + 1 := by omega
            simp [h1, h4, this]
      rw [hcong] at hset
      have HO3 := Lib.hid hset
      have HZ3 := Lib.hid (HZ.out.other (a := ⟨g, k, none⟩) (by show w.heap.size + 1 ≠ g; omega) (.bool (!b)))
      have HX3 := Lib.hid (HX.out.other (a := ⟨g, k, none⟩) (by show w.heap.size ≠ g; omega) (.bool (!b)))
      have HB3 := Lib.hid (HB.out.setCell (p := ⟨g, k, none⟩) (by show _ ≤ g; omega) (.bool (!b)))
      have hk1 : (k : Int) < (n : Int) := by omega
      clear hset hcong hb HO HZ HX HB
      go_wp2_with fail
      go_roundw
      case rel => exact ⟨k + 1, by omega, by go_num, HO3, HZ3, HX3, HB3⟩
      case measure => simp [intOf]; omega
    · have hkn : k = n := by omega
      have HE : Hid (OwnArr wr g 4 (bv (bl n fun i => !S i))) := by
        show OwnArr _ _ _ _
        have := HO.out
        have e : bl n (fun i => if i < k then !S i else S i) = bl n (fun i => !S i) := bl_congr fun i hi' => by
          have : i < k := by omega
          simp [this]
        rw [e] at this
        exact this
      have HR := Rd.of_own HE.out (Nat.zero_le g) (Nat.lt_succ_self g) (by have := HE.out.lt; omega) n
      rw [List.take_of_length_le (by rw [bv_length, bl_length]; exact Nat.le_refl _)] at HR
      have RO2 := Lib.hid (RO.out _ wr _ _ HR)
      clear HO HR RO HE
      obtain ⟨c0, c1, c2, -⟩ := HX.out.three
      go_wp2_with fail
      refine RO2.out.mono ?_
      rintro e w3 ⟨v, rfl, hO3, hb3⟩
      obtain ⟨q, qc, rfl, -⟩ := (hO3 trivial).rd
      have HO3 := Lib.hid ((hO3 trivial).mono (HB.out.size))
      have HZ3 := Lib.hid (HZ.out.below hb3 HZ.out.lt)
      have HB3 := Lib.hid (HB.out.trans (hb3.mono HB.out.size))
      clear hO3 hb3 HZ HX HB c0 c1 c2 RO2
      obtain ⟨z0, z1, z2, y0, y1, y2⟩ := HZ3.out.three
      go_wp2_with fail
      refine ret_row2 Try.results16 rfl rfl (((HZ3.out.set 0 _).set 1 _).set 2 _) rfl ⟨_, rfl, ?_, ?_⟩
      · have hne := own_ne HO3.out HZ3.out
        exact ((HO3.out.other (a := ⟨w.heap.size + 1, 0, none⟩) hne _).other (a := ⟨w.heap.size + 1, 1, none⟩) hne _).other (a := ⟨w.heap.size + 1, 2, none⟩) hne _
      · exact ((HB3.out.setCell (by show _ ≤ w.heap.size + 1; omega) _).setCell (by show _ ≤ w.heap.size + 1; omega) _).setCell (by show _ ≤ w.heap.size + 1; omega) _

theorem otherSeats_both (s : Int) (ring : Bool) (xs : List Int) : ∃ (s' : Int) (ring' : Bool) (L : List Int) (B : Bool), L.length ≤ 24 ∧
    (∀ (p : Option Addr) (cap : Nat) (w : World) (lo hi : Nat), Ri lo hi w p xs → xs.length ≤ 1048576 → Calls Try.prog 15 #[rowV s ring p xs.length cap] w (MadeRow w s' ring' L B)) ∧
    (∀ (p : Option Addr) (cap : Nat) (w : World) (lo hi : Nat), Ri lo hi w p xs → xs.length ≤ 1048576 → Calls Try.prog 16 #[rowV s ring p xs.length cap] w (MadeRow w s' ring' L B)) := by
  by_cases hr : rowB s ring xs = true
  · obtain ⟨n, S, rfl, rfl, h2, hn, h3⟩ := rowB_is hr
    exact ⟨n, ring, ints (tk n fun q => !S q), true, by have := ints_tk_len n (fun q => !S q); omega,
      fun p cap w lo hi hin _ => otherS_any n ring p cap S w lo hi hin h2 hn h3,
      fun p cap w lo hi hin _ => otherI_any n ring p cap S w lo hi hin h2 hn h3⟩
  · have hr' : rowB s ring xs = false := by simpa using hr
    exact ⟨0, false, [], false, by simp,
      fun p cap w lo hi hin hl => otherS_bad s ring p cap xs w lo hi hin hl hr',
      fun p cap w lo hi hin hl => otherI_bad s ring p cap xs w lo hi hin hl hr'⟩
end Go.Proofs.Ytdlegjmmidkjnaa
