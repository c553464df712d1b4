/-
  A number's digits and exponent, and a number times a power of two: contracts of the library's functions.
-/
import Derived.Test.YtlaodfkcfclpmaaFme
import Derived.Test.YtlaodfkcfclpmaaFlv
namespace Go.Proofs.Ytlaodfkcfclpmaa
set_option linter.unusedVariables false
set_option linter.unusedSimpArgs false
open Go.RowKit

theorem wordF_lt {V : Nat} (h : Rep V) : wordV false V < 9218868437227405312 := by
  have := (wordV_lt false h).2.2
  unfold wordV wordN; simpa using this
theorem word_of_zero : wordV false 0 = 0 := by rw [wordV_zero]; rfl
theorem word_of_2_52 : wordV false 4503599627370496 = 4503599627370496 := by decide +kernel
theorem rep_2_52 : Rep 4503599627370496 := ⟨by decide +kernel, by decide +kernel⟩
theorem order_zero {V : Nat} (h : Rep V) (h0 : V ≠ 0) : (FloatKind.f64.format.order (wordV false V) 0 == some .eq) = false := by
  have := order_wordV h rep_zero
  rw [word_of_zero] at this
  rw [this, Nat.compare_eq_gt.2 (by omega)]; rfl
theorem small_order {V : Nat} (h : Rep V) (h0 : V ≠ 0) : (FloatKind.f64.format.order (wordV false V) 4503599627370496 == some .lt) = decide (V.log2 < 52) := by
  have := order_wordV h rep_2_52
  rw [word_of_2_52] at this
  rw [this]
  by_cases hl : V.log2 < 52
  · have : V < 4503599627370496 := (Nat.log2_lt h0 (k := 52)).1 hl
    rw [Nat.compare_eq_lt.2 this, decide_eq_true hl]; rfl
  · have : ¬ V < 4503599627370496 := fun h => hl ((Nat.log2_lt h0 (k := 52)).2 h)
    rw [decide_eq_false hl]
    cases hc : compare V 4503599627370496 with
    | lt => exact absurd (Nat.compare_eq_lt.1 hc) this
    | eq => rfl
    | gt => rfl
section
set_option maxHeartbeats 1600000
set_option maxRecDepth 100000
theorem normalize_big {V : Nat} (h : Rep V) (h0 : V ≠ 0) (hl : 52 ≤ V.log2) (w : World) :
    Calls Try.prog 94 #[.float .f64 (wordV false V)] w fun e w' => e = .returned (.tuple #[.float .f64 (wordV false V), .int .i64 0]) ∧ w = w' := by
  have hc := small_order h h0
  rw [decide_eq_false (by omega)] at hc
  have hlt := wordF_lt h
  generalize wordV false V = v at *
  have hm : v % 9223372036854775808 = v := Nat.mod_eq_of_lt (by omega)
  have HM := Lib.hid hm; clear hm
  go_enter Try.func94, Try.ntmps94
  go_wp2_with fail
  refine (abs_any v w (by omega)).mono ?_
  rintro e w1 ⟨rfl, rfl⟩
  rw [HM.out]
  go_wp2
  go_ret2
  exact ⟨rfl, rfl⟩
theorem normalize_small {V : Nat} (h : Rep V) (h0 : V ≠ 0) (hl : V.log2 < 52) (w : World) :
    Calls Try.prog 94 #[.float .f64 (wordV false V)] w fun e w' => e = .returned (.tuple #[.float .f64 (wordV false (V * 2 ^ 52)), .int .i64 (-52)]) ∧ w = w' := by
  have hc := small_order h h0
  rw [decide_eq_true hl] at hc
  have hlt := wordF_lt h
  have hop := fun t w => run_float_arith (P := Try.prog) w .mul t .f64 _ _ _ (mul_up h h0 (by omega))
  generalize wordV false (V * 2 ^ 52) = n at *
  generalize wordV false V = v at *
  have hm : v % 9223372036854775808 = v := Nat.mod_eq_of_lt (by omega)
  have HM := Lib.hid hm; clear hm
  go_enter Try.func94, Try.ntmps94
  go_wp2_with fail
  refine (abs_any v w (by omega)).mono ?_
  rintro e w1 ⟨rfl, rfl⟩
  rw [HM.out]
  go_wp2
  go_ret2
  exact ⟨rfl, rfl⟩
/-- What a number is normalized to. -/
theorem normalize_any {V : Nat} (h : Rep V) (h0 : V ≠ 0) (w : World) :
    ∃ (n L : Nat) (e0 : Int), n = (L - 52) * 4503599627370496 + sig V ∧ 52 ≤ L ∧ L ≤ 2097 ∧ (L : Int) + e0 = V.log2 ∧ (e0 = 0 ∨ e0 = -52) ∧
      Calls Try.prog 94 #[.float .f64 (wordV false V)] w fun e w' => e = .returned (.tuple #[.float .f64 n, .int .i64 e0]) ∧ w = w' := by
  have hlog := rep_log h
  by_cases hl : 52 ≤ V.log2
  · exact ⟨_, V.log2, 0, word_sig hl, hl, hlog, by omega, .inl rfl, normalize_big h h0 hl w⟩
  · have h2 := log2_pow 52 h0
    have hw := word_sig (V := V * 2 ^ 52) (by omega)
    rw [sig_pow 52 h0, h2] at hw
    exact ⟨_, V.log2 + 52, -52, hw, by omega, by omega, by omega, .inr rfl, normalize_small h h0 (by omega) w⟩
theorem low52 (x : Nat) (h : x < 9223372036854775808) : bits .andNot .u64 (x : Int) 9218868437227405312 = ((x % 4503599627370496 : Nat) : Int) := by
  show IntKind.u64.wrap ((BitVec.ofInt 64 (x : Int) &&& ~~~ BitVec.ofInt 64 ((9218868437227405312 : Nat) : Int)).toNat : Int) = _
  have e : (~~~ BitVec.ofInt 64 ((9218868437227405312 : Nat) : Int)).toNat = 9223372036854775808 + (2 ^ 52 - 1) := by decide
  rw [BitVec.toNat_and, bv_ofNat x (by omega), e, wrapU]
  have : x &&& (9223372036854775808 + (2 ^ 52 - 1)) = x % 2 ^ 52 := by
    rw [← Nat.and_two_pow_sub_one_eq_mod]
    apply Nat.eq_of_testBit_eq; intro i
    rw [Nat.testBit_and, Nat.testBit_and, tb63 (2 ^ 52 - 1) i (by decide)]
    by_cases hi : i = 63
    · subst hi; rw [bit63_lt h]; rfl
    · simp [hi]
  rw [this]
  omega
theorem or_high (f k : Nat) (hf : f < 4503599627370496) (hk : k < 4096) : bits .or .u64 (f : Int) ((k * 4503599627370496 : Nat) : Int) = ((k * 4503599627370496 + f : Nat) : Int) := by
  rw [bits_or_u64_nat f (k * 4503599627370496) (by omega) (by omega)]
  have : f ||| k * 4503599627370496 = f + k * 4503599627370496 := or_beside f k 52 hf
  rw [this, Nat.add_comm]
theorem and_2047 (E : Nat) (h : E < 2048) : bits .and .u64 (E : Int) 2047 = (E : Int) := by
  have := bits_and_u64_nat E 2047 (by omega) (by omega)
  rw [show ((2047 : Nat) : Int) = 2047 from rfl] at this
  rw [this, show E &&& 2047 = E % 2 ^ 11 from Nat.and_two_pow_sub_one_eq_mod E 11]
  omega
theorem and_2047i (E : Nat) (h : E < 2048) : bits .and .i64 (E : Int) 2047 = (E : Int) := by
  have := bits_mask .i64 63 (by decide) (fun n h0 h1 => by have := h1; simp [IntKind.wrap, IntKind.bits, IntKind.signed]; omega) 11 (by decide) (E : Int) (by omega) (by omega)
  rw [show ((2 : Int) ^ 11 - 1) = 2047 from rfl] at this
  rw [this]
  omega
end
end Go.Proofs.Ytlaodfkcfclpmaa
