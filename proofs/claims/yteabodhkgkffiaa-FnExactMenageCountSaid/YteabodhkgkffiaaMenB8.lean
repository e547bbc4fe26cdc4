/- Chapter 8, spec side: spec.MenageCount; both sides. -/
import Derived.Test.YteabodhkgkffiaaCntI8
namespace Go.Proofs.Yteabodhkgkffiaa
open Go.RowKit

theorem mnT_step (k m : Nat) : mnT8 k (m + 1) = mnT8 k m + (if m % 2 = 1 then -((2 * k * cho8 (2 * k - m) m / (2 * k - m) * fac8 (k - m) : Nat) : Int) else ((2 * k * cho8 (2 * k - m) m / (2 * k - m) * fac8 (k - m) : Nat) : Int)) := rfl

set_option maxRecDepth 4000 in
set_option maxHeartbeats 2000000 in
theorem menS_any (k : Int) (w : World) :
    Calls Try.prog 24 #[.int .i64 k] w fun e w' => e = .returned (.tuple #[.int .i64 (menR k), .bool (menB k)]) ∧ Below w.heap.size w w' := by
  have C : ∀ w', Calls Try.prog 34 #[.int .i64 k, .int .i64 2, .int .i64 6] w' fun e w'' => e = .returned (.bool (menB k)) ∧ w' = w'' := fun w' => l1In_any k 2 6 w'
  unfold menR
  cases hc : menB k with
  | false =>
    rw [hc] at C
    rw [if_neg (by simp)]
    replace C := Lib.hid C
    clear hc
    go_enter Try.func24, Try.ntmps24
    go_wp2_with fail
    refine (C.out _).mono ?_
    rintro e w2 ⟨rfl, rfl⟩
    go_wp2_with fail
    go_ret2
    exact ⟨rfl, Below.refl _ _⟩
  | true =>
    rw [hc] at C
    rw [if_pos rfl]
    obtain ⟨n, rfl, h2, h6⟩ := menB_is hc
    rw [Int.toNat_natCast]
    have CH := Lib.hid (fun j t (h : j ≤ 12) (h2 : t ≤ j) w' => (l6Choose_any8 j t h h2 w').mono (R' := fun e w'' => e = .returned (.int .i64 ((cho8 j t : Nat) : Int)) ∧ w'' = w') (by rintro e w2 ⟨h1, h2⟩; exact ⟨h1, h2.symm⟩))
    have FA := Lib.hid (fun j (h : j ≤ 12) w' => (l8Orders_any j h w').mono (R' := fun e w'' => e = .returned (.int .i64 ((fac8 j : Nat) : Int)) ∧ w'' = w') (by rintro e w2 ⟨h1, h2⟩; exact ⟨h1, h2.symm⟩))
    have FN := fun w' => l8Orders_any n (by omega) w'
    have fnl : fac8 n ≤ 720 := Nat.le_trans (fac_mono h6) (by decide)
    have HZ : Hid (mnT8 n 0 = 0) := rfl
    have HS := Lib.hid (mnT_step n)
    have BT := Lib.hid (fun m (h : m ≤ n + 1) => mnT_bound n h6 m h)
    obtain ⟨T, hT⟩ : ∃ T, mnT8 n = T := ⟨_, rfl⟩
    rw [hT] at HZ HS BT ⊢
    obtain ⟨f, hf⟩ : ∃ f, fac8 n = f := ⟨_, rfl⟩
    rw [hf] at FN fnl ⊢
    obtain ⟨R, hR⟩ : ∃ R, 2 * (f : Int) * T (n + 1) = R := ⟨_, rfl⟩
    rw [hR]
    have HR := Lib.hid hR
    replace C := Lib.hid C
    replace FN := Lib.hid FN
    have hwf : IntKind.i64.wrap (2 * (f : Int)) = 2 * (f : Int) := IntWalk.i64_in _ (by omega)
    clear hc hT hf hR
    go_enter Try.func24, Try.ntmps24
    go_wp2_with fail
    refine (C.out _).mono ?_
    rintro e w2 ⟨rfl, rfl⟩
    clear C
    go_wp2_with fail
    go_loopw [4, 5] (fun vs vj wr => ∃ m : Nat, m ≤ n + 1 ∧ vs = .int .i64 (T m) ∧ vj = .int .i64 (m : Int) ∧ Hid (Below w.heap.size w wr)) (fun _ vj _ => n + 1 - (intOf vj).toNat)
    case atStart => exact ⟨0, Nat.zero_le _, by rw [HZ.out], by simp, Below.refl _ _⟩
    case round =>
      obtain ⟨m, hm, rfl, rfl, HB⟩ := hrel
      by_cases hmn : m ≤ n
      · have hmi : (m : Int) ≤ (n : Int) := by omega
        obtain ⟨d, hd⟩ : ∃ d, 2 * n - m = d := ⟨_, rfl⟩
        obtain ⟨g, hg⟩ : ∃ g, n - m = g := ⟨_, rfl⟩
        have hdi : 2 * (n : Int) - (m : Int) = (d : Int) := by omega
        have hgi : (n : Int) - (m : Int) = (g : Int) := by omega
        have C1 := CH.out d m (by omega) (by omega)
        have F1 := FA.out g (by omega)
        have c1 := cho_le d (by omega) m (by omega)
        have f1 : fac8 g ≤ 720 := Nat.le_trans (fac_mono (by omega : g ≤ 6)) (by decide)
        have e1 := HS.out m
        rw [hd, hg] at e1
        obtain ⟨b1, b2⟩ := BT.out m hm
        obtain ⟨b3, b4⟩ := BT.out (m + 1) (by omega)
        obtain ⟨x, hx⟩ : ∃ x, cho8 d m = x := ⟨_, rfl⟩
        obtain ⟨y, hy⟩ : ∃ y, fac8 g = y := ⟨_, rfl⟩
        rw [hx] at C1 c1 e1
        rw [hy] at F1 f1 e1
        have p1 : 2 * n * x ≤ 12 * 924 := Nat.mul_le_mul (by omega) c1
        have hp : 2 * (n : Int) * (x : Int) = ((2 * n * x : Nat) : Int) := by push_cast; rfl
        obtain ⟨p, hpp⟩ : ∃ p, 2 * n * x = p := ⟨_, rfl⟩
        rw [hpp] at p1 e1 hp
        have hdv : (p : Int).tdiv (d : Int) = ((p / d : Nat) : Int) := (Int.ofNat_tdiv p d).symm
        have q1 : p / d ≤ p := Nat.div_le_self _ _
        obtain ⟨q, hq⟩ : ∃ q, p / d = q := ⟨_, rfl⟩
        rw [hq] at q1 e1 hdv
        have r1 : q * y ≤ 12 * 924 * 720 := Nat.mul_le_mul (by omega) f1
        have hri : (q : Int) * (y : Int) = ((q * y : Nat) : Int) := by push_cast; rfl
        obtain ⟨r, hr⟩ : ∃ r, q * y = r := ⟨_, rfl⟩
        rw [hr] at r1 e1 hri
        obtain ⟨a, ha⟩ : ∃ a, T m = a := ⟨_, rfl⟩
        rw [ha] at b1 b2 e1 ⊢
        have w0 : IntKind.i64.wrap (2 * (n : Int)) = 2 * (n : Int) := IntWalk.i64_in _ (by omega)
        have w1 : IntKind.i64.wrap (p : Int) = (p : Int) := IntWalk.i64_in _ (by omega)
        have w2 : IntKind.i64.wrap (q : Int) = (q : Int) := IntWalk.i64_in _ (by omega)
        have w3 : IntKind.i64.wrap (r : Int) = (r : Int) := IntWalk.i64_in _ (by omega)
        have w4 : IntKind.i64.wrap (-(r : Int)) = -(r : Int) := IntWalk.i64_in _ (by omega)
        have w5 : IntKind.i64.wrap (d : Int) = (d : Int) := IntWalk.i64_in _ (by omega)
        have w6 : IntKind.i64.wrap (g : Int) = (g : Int) := IntWalk.i64_in _ (by omega)
        have w7 : IntKind.i64.wrap ((m : Int) + 1) = (m : Int) + 1 := IntWalk.i64_in _ (by omega)
        have hd0 : ¬ (d : Int) = 0 := by omega
        have hd00 : ¬ d = 0 := by omega
        have hrm : (m : Int).tmod 2 = ((m % 2 : Nat) : Int) := (Int.ofNat_tmod m 2).symm
        have HB2 : Hid (Below w.heap.size w wr.drew) := HB.out.drew
        replace C1 := Lib.hid C1
        replace F1 := Lib.hid F1
        by_cases hodd : m % 2 = 1
        · have ho : ((m % 2 : Nat) : Int) = 1 := by omega
          rw [if_pos hodd] at e1
          have w8 : IntKind.i64.wrap (a + -(r : Int)) = a + -(r : Int) := IntWalk.i64_in _ (by omega)
          have HE := Lib.hid e1
          rw [ho] at hrm
          clear hx hy hpp hq hr ha e1 hodd ho hd hg HB
          go_wp2_with fail
          refine wp_region_still_lit (by kernel_rfl) (by kernel_rfl) ?_
          repeat still_step
          still_call (C1.out _)
          repeat still_step
          still_call (F1.out _)
          repeat still_step
          refine wpStill_nil ?_
          go_wp2_with fail
          go_roundw
          case rel => exact ⟨m + 1, by omega, by rw [HE.out], by go_num, HB2⟩
          case measure => simp [intOf]; omega
        · have ho : ((m % 2 : Nat) : Int) = 0 := by omega
          rw [if_neg hodd] at e1
          have w8 : IntKind.i64.wrap (a + (r : Int)) = a + (r : Int) := IntWalk.i64_in _ (by omega)
          have HE := Lib.hid e1
          rw [ho] at hrm
          clear hx hy hpp hq hr ha e1 hodd ho hd hg HB
          go_wp2_with fail
          refine wp_region_still_lit (by kernel_rfl) (by kernel_rfl) ?_
          repeat still_step
          still_call (C1.out _)
          repeat still_step
          still_call (F1.out _)
          repeat still_step
          refine wpStill_nil ?_
          go_wp2_with fail
          go_roundw
          case rel => exact ⟨m + 1, by omega, by rw [HE.out], by go_num, HB2⟩
          case measure => simp [intOf]; omega
      · have hmne : m = n + 1 := by omega
        subst hmne
        have hno : ¬ ((n + 1 : Nat) : Int) ≤ (n : Int) := by omega
        obtain ⟨b1, b2⟩ := BT.out (n + 1) (Nat.le_refl _)
        have hr := HR.out
        obtain ⟨a, ha⟩ : ∃ a, T (n + 1) = a := ⟨_, rfl⟩
        rw [ha] at b1 b2 hr ⊢
        have hrb : -1440000000000000 ≤ R ∧ R ≤ 1440000000000000 := by
          rw [← hr]
          have hf0 : (0 : Int) ≤ 2 * (f : Int) := by omega
          have hf1 : 2 * (f : Int) ≤ 1440 := by omega
          constructor
          · calc (-1440000000000000 : Int) = 1440 * (-1000000000000) := by decide
              _ ≤ 2 * (f : Int) * (-1000000000000) := by omega
              _ ≤ 2 * (f : Int) * a := Int.mul_le_mul_of_nonneg_left b1 hf0
          · calc 2 * (f : Int) * a ≤ 2 * (f : Int) * 1000000000000 := Int.mul_le_mul_of_nonneg_left b2 hf0
              _ ≤ 1440000000000000 := by omega
        have hwr : IntKind.i64.wrap R = R := IntWalk.i64_in _ (by omega)
        clear ha hrb
        have HR2 := Lib.hid hr
        clear hr
        have hr : 2 * (f : Int) * a = R := HR2.out
        go_wp2_with fail
        refine (FN.out _).mono ?_
        rintro e w2 ⟨rfl, rfl⟩
        go_wp2_with fail
        go_ret2
        exact ⟨rfl, HB.out⟩

theorem menageCount_both (a0 : Int) : ∃ (x0 : Int) (y1 : Bool), (∀  (w : World), Calls Try.prog 24 #[.int .i64 a0] w fun e w' => e = .returned (.tuple #[.int .i64 x0, .bool y1]) ∧ Below w.heap.size w w') ∧ (∀  (w : World), Calls Try.prog 25 #[.int .i64 a0] w fun e w' => e = .returned (.tuple #[.int .i64 x0, .bool y1]) ∧ Below w.heap.size w w') :=
  ⟨menR a0, menB a0, menS_any a0, menI_any a0⟩
end Go.Proofs.Yteabodhkgkffiaa
