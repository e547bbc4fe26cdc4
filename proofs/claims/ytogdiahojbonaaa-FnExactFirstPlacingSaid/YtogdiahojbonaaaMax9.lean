/- slices.Max and slices.Min of numbers: one of them, and none is greater, or less. -/
import Derived.Test.YtogdiahojbonaaaOut
namespace Go.Proofs.Ytogdiahojbonaaa
open Go.RowKit

set_option maxHeartbeats 800000 in
theorem max9_any (q : Option Addr) (cap : Nat) (xs : List Int) (N : Nat) (hn : xs.length = N) (hN1 : 1 ≤ N) (hNb : N ≤ 1048576) (w : World) (lo hi : Nat) (hin : Ri lo hi w q xs) :
    Calls Try.prog 39 #[.slice q N cap] w fun e w' => ∃ M, e = .returned (.int .i64 M) ∧ (∀ x ∈ xs, x ≤ M) ∧ M ∈ xs ∧ w = w' := by
  obtain ⟨b, off, rfl, -, -, -, hc⟩ := hin.int (by omega)
  obtain ⟨f, hf⟩ : ∃ f : Nat → Int, f = fun i => xs[i]?.getD 0 := ⟨_, rfl⟩
  have HC : Hid (∀ i, i < N → w.cell? ⟨b, off + i, none⟩ = some (.int .i64 (f i))) := by
    show ∀ _, _
    intro i hi
    rw [hf]; exact hc i (by omega)
  have HE : Hid (∀ y, (∀ i, i < N → f i ≤ y) → (∃ i, i < N ∧ f i = y) → (∀ x ∈ xs, x ≤ y) ∧ y ∈ xs) := by
    show ∀ _, _
    intro y h1 h2
    refine ⟨fun x hx => ?_, ?_⟩
    · obtain ⟨i, hi, rfl⟩ := List.getElem_of_mem hx
      have := h1 i (by omega)
      rw [hf] at this
      simpa [List.getElem?_eq_getElem hi] using this
    · obtain ⟨i, hi, rfl⟩ := h2
      rw [hf]
      simp only [List.getElem?_eq_getElem (show i < xs.length by omega), Option.getD_some]
      exact List.getElem_mem _
  have h0 := HC.out 0 (by omega)
  rw [Nat.add_zero] at h0
  clear hc hin hf hn
  obtain ⟨x0, hx0⟩ : ∃ x, f 0 = x := ⟨_, rfl⟩
  rw [hx0] at h0
  have hNp : ¬ (N : Int) < 1 := by omega
  have hN0 : 0 < N := by omega
  have HX0 : Hid ((∀ i, i < 1 → f i ≤ x0) ∧ ∃ i, i < 1 ∧ f i = x0) := ⟨fun i hi => by (have : i = 0 := (by omega)); subst this; omega, 0, by omega, hx0⟩
  clear hx0
  go_enter Try.func39, Try.ntmps39
  go_wp2_with fail
  go_loop [3, 4] (fun m i => ∃ (k : Nat) (y : Int), 1 ≤ k ∧ k ≤ N ∧ i = .int .i64 k ∧ m = .int .i64 y ∧ Hid ((∀ i, i < k → f i ≤ y) ∧ ∃ i, i < k ∧ f i = y)) (fun _ i => N - (intOf i).toNat)
  case atStart => exact ⟨1, x0, Nat.le_refl _, hN1, rfl, rfl, HX0⟩
  case round =>
    obtain ⟨k, y, hk1, hk, rfl, rfl, HY⟩ := hrel
    by_cases hlt : k < N
    · have hki : (k : Int) < (N : Int) := by omega
      have hk0 : (0 : Int) ≤ (k : Int) := by omega
      have h1 := HC.out k hlt
      obtain ⟨z, hz⟩ : ∃ z, f k = z := ⟨_, rfl⟩
      rw [hz] at h1
      by_cases hlz : y < z
      · have HY2 : Hid ((∀ i, i < k + 1 → f i ≤ z) ∧ ∃ i, i < k + 1 ∧ f i = z) := by
          obtain ⟨g1, -⟩ := HY.out
          refine ⟨fun i hi => ?_, k, by omega, hz⟩
          rcases Nat.lt_or_ge i k with h | h
          · have := g1 i h; omega
          · have : i = k := by omega
            subst this; omega
        have hlz2 : ¬ z ≤ y := by omega
        have hlz3 : y ≤ z := by omega
        clear hz HY
        go_wp2_with fail
        go_round
        case rel => exact ⟨k + 1, z, by omega, by omega, by go_num, by simp, HY2⟩
        case measure => simp [intOf]; omega
      · have HY2 : Hid ((∀ i, i < k + 1 → f i ≤ y) ∧ ∃ i, i < k + 1 ∧ f i = y) := by
          obtain ⟨g1, i0, g2, g3⟩ := HY.out
          refine ⟨fun i hi => ?_, i0, by omega, g3⟩
          rcases Nat.lt_or_ge i k with h | h
          · exact g1 i h
          · have : i = k := by omega
            subst this; omega
        have hlz2 : z ≤ y := by omega
        clear hz HY
        go_wp2_with fail
        go_round
        case rel => exact ⟨k + 1, y, by omega, by omega, by go_num, by simp, HY2⟩
        case measure => simp [intOf]; omega
    · have hkN : k = N := by omega
      subst hkN
      obtain ⟨g1, g2⟩ := HE.out y HY.out.1 HY.out.2
      replace g1 := Lib.hid g1
      replace g2 := Lib.hid g2
      go_wp2_with fail
      go_ret
      exact ⟨y, rfl, g1.out, g2.out, rfl⟩

set_option maxHeartbeats 800000 in
theorem min9_any (q : Option Addr) (cap : Nat) (xs : List Int) (N : Nat) (hn : xs.length = N) (hN1 : 1 ≤ N) (hNb : N ≤ 1048576) (w : World) (lo hi : Nat) (hin : Ri lo hi w q xs) :
    Calls Try.prog 55 #[.slice q N cap] w fun e w' => ∃ M, e = .returned (.int .i64 M) ∧ (∀ x ∈ xs, M ≤ x) ∧ M ∈ xs ∧ w = w' := by
  obtain ⟨b, off, rfl, -, -, -, hc⟩ := hin.int (by omega)
  obtain ⟨f, hf⟩ : ∃ f : Nat → Int, f = fun i => xs[i]?.getD 0 := ⟨_, rfl⟩
  have HC : Hid (∀ i, i < N → w.cell? ⟨b, off + i, none⟩ = some (.int .i64 (f i))) := by
    show ∀ _, _
    intro i hi
    rw [hf]; exact hc i (by omega)
  have HE : Hid (∀ y, (∀ i, i < N → y ≤ f i) → (∃ i, i < N ∧ f i = y) → (∀ x ∈ xs, y ≤ x) ∧ y ∈ xs) := by
    show ∀ _, _
    intro y h1 h2
    refine ⟨fun x hx => ?_, ?_⟩
    · obtain ⟨i, hi, rfl⟩ := List.getElem_of_mem hx
      have := h1 i (by omega)
      rw [hf] at this
      simpa [List.getElem?_eq_getElem hi] using this
    · obtain ⟨i, hi, rfl⟩ := h2
      rw [hf]
      simp only [List.getElem?_eq_getElem (show i < xs.length by omega), Option.getD_some]
      exact List.getElem_mem _
  have h0 := HC.out 0 (by omega)
  rw [Nat.add_zero] at h0
  clear hc hin hf hn
  obtain ⟨x0, hx0⟩ : ∃ x, f 0 = x := ⟨_, rfl⟩
  rw [hx0] at h0
  have hNp : ¬ (N : Int) < 1 := by omega
  have hN0 : 0 < N := by omega
  have HX0 : Hid ((∀ i, i < 1 → x0 ≤ f i) ∧ ∃ i, i < 1 ∧ f i = x0) := ⟨fun i hi => by (have : i = 0 := (by omega)); subst this; omega, 0, by omega, hx0⟩
  clear hx0
  go_enter Try.func55, Try.ntmps55
  go_wp2_with fail
  go_loop [3, 4] (fun m i => ∃ (k : Nat) (y : Int), 1 ≤ k ∧ k ≤ N ∧ i = .int .i64 k ∧ m = .int .i64 y ∧ Hid ((∀ i, i < k → y ≤ f i) ∧ ∃ i, i < k ∧ f i = y)) (fun _ i => N - (intOf i).toNat)
  case atStart => exact ⟨1, x0, Nat.le_refl _, hN1, rfl, rfl, HX0⟩
  case round =>
    obtain ⟨k, y, hk1, hk, rfl, rfl, HY⟩ := hrel
    by_cases hlt : k < N
    · have hki : (k : Int) < (N : Int) := by omega
      have hk0 : (0 : Int) ≤ (k : Int) := by omega
      have h1 := HC.out k hlt
      obtain ⟨z, hz⟩ : ∃ z, f k = z := ⟨_, rfl⟩
      rw [hz] at h1
      by_cases hlz : z < y
      · have HY2 : Hid ((∀ i, i < k + 1 → z ≤ f i) ∧ ∃ i, i < k + 1 ∧ f i = z) := by
          obtain ⟨g1, -⟩ := HY.out
          refine ⟨fun i hi => ?_, k, by omega, hz⟩
          rcases Nat.lt_or_ge i k with h | h
          · have := g1 i h; omega
          · have : i = k := by omega
            subst this; omega
        have hlz2 : ¬ y ≤ z := by omega
        have hlz3 : z ≤ y := by omega
        clear hz HY
        go_wp2_with fail
        go_round
        case rel => exact ⟨k + 1, z, by omega, by omega, by go_num, by simp, HY2⟩
        case measure => simp [intOf]; omega
      · have HY2 : Hid ((∀ i, i < k + 1 → y ≤ f i) ∧ ∃ i, i < k + 1 ∧ f i = y) := by
          obtain ⟨g1, i0, g2, g3⟩ := HY.out
          refine ⟨fun i hi => ?_, i0, by omega, g3⟩
          rcases Nat.lt_or_ge i k with h | h
          · exact g1 i h
          · have : i = k := by omega
            subst this; omega
        have hlz2 : y ≤ z := by omega
        clear hz HY
        go_wp2_with fail
        go_round
        case rel => exact ⟨k + 1, y, by omega, by omega, by go_num, by simp, HY2⟩
        case measure => simp [intOf]; omega
    · have hkN : k = N := by omega
      subst hkN
      obtain ⟨g1, g2⟩ := HE.out y HY.out.1 HY.out.2
      replace g1 := Lib.hid g1
      replace g2 := Lib.hid g2
      go_wp2_with fail
      go_ret
      exact ⟨y, rfl, g1.out, g2.out, rfl⟩
end Go.Proofs.Ytogdiahojbonaaa
