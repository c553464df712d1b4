/-
  Frexp and Ldexp of numbers above 0: contracts.
-/
import Derived.Test.YtlaodfkcfclpmaaFmw
namespace Go.Proofs.Ytlaodfkcfclpmaa
set_option linter.unusedVariables false
set_option linter.unusedSimpArgs false
open Go.RowKit

/-- The bits of a size's digits between a half and 1. -/
def frN (V : Nat) : Nat := 4598175219545276416 + sig V
theorem inf_wordV {V : Nat} (h : Rep V) : infB (wordV false V) = false := by
  have := wordF_lt h
  unfold infB; rw [decide_eq_false_iff_not]; omega
section
set_option maxHeartbeats 1600000
set_option maxRecDepth 100000
theorem frexp_any {V : Nat} (h : Rep V) (h0 : V ≠ 0) (w : World) :
    Calls Try.prog 86 #[.float .f64 (wordV false V)] w fun e w' => e = .returned (.tuple #[.float .f64 (frN V), .int .i64 ((V.log2 : Int) - 1073)]) ∧ w = w' := by
  obtain ⟨n, L, e0, hn, hL, hL2, he, he0, hcall⟩ := normalize_any h h0 w
  have hc := order_zero h h0
  have hi := inf_wordV h
  have hna := (wordV_lt false h).2.1
  have hlt := wordF_lt h
  obtain ⟨b1, b2⟩ := sig_bounds h0
  obtain ⟨fr, hfr⟩ : ∃ fr, fr = frN V := ⟨_, rfl⟩
  rw [← hfr]
  unfold frN at hfr
  obtain ⟨x, hx⟩ : ∃ x : Int, x = (V.log2 : Int) - 1073 := ⟨_, rfl⟩
  rw [← hx]
  generalize hv : wordV false V = v at *
  clear hv h
  obtain ⟨E, hE⟩ : ∃ E : Nat, E = L - 51 := ⟨_, rfl⟩
  obtain ⟨f, hf⟩ : ∃ f : Nat, f = sig V - 4503599627370496 := ⟨_, rfl⟩
  have k1 : ((n : Int) / 4503599627370496) = (E : Int) := by omega
  have k2 := and_2047 E (by omega)
  have k3 : bits .andNot .u64 (n : Int) 9218868437227405312 = (f : Int) := by rw [low52 n (by omega)]; omega
  have k4 : bits .or .u64 (f : Int) 4602678819172646912 = (fr : Int) := by
    have := or_high f 1022 (by omega) (by decide)
    rw [show ((1022 * 4503599627370496 : Nat) : Int) = 4602678819172646912 from rfl] at this
    rw [this]; omega
  have k5 : e0 + ((E : Int) - 1023 + 1) = x := by omega
  have k6 : E ≤ 2046 := by omega
  have k7 : -52 ≤ e0 := by omega
  have k8 : e0 ≤ 0 := by omega
  have k9 : n < 9223372036854775808 := by omega
  clear hn hL hL2 he he0 b1 b2 hfr hE hf hx
  have HC := Lib.hid hcall; clear hcall
  have HI := Lib.hid hi; clear hi
  have HN := Lib.hid hna; clear hna
  have K5 := Lib.hid k5; clear k5
  go_enter Try.func86, Try.ntmps86
  go_wp2_with fail
  refine (isinf_any v w (by omega)).mono ?_
  rintro e w1 ⟨rfl, rfl⟩
  rw [HI.out]
  go_wp2_with fail
  refine (isnan_any v w).mono ?_
  rintro e w1 ⟨rfl, rfl⟩
  rw [HN.out]
  go_wp2_with fail
  refine HC.out.mono ?_
  rintro e w1 ⟨rfl, rfl⟩
  go_wp2
  go_ret2
  exact ⟨by rw [← K5.out]; rfl, rfl⟩
theorem Frexp_any {V : Nat} (h : Rep V) (h0 : V ≠ 0) (w : World) :
    Calls Try.prog 71 #[.float .f64 (wordV false V)] w fun e w' => e = .returned (.tuple #[.float .f64 (frN V), .int .i64 ((V.log2 : Int) - 1073)]) ∧ w = w' := by
  have hf := frexp_any h h0 w
  generalize wordV false V = v at *
  generalize (V.log2 : Int) - 1073 = x at *
  generalize frN V = fr at *
  have HF := Lib.hid hf; clear hf
  go_enter Try.func71, Try.ntmps71
  go_wp2_with fail
  refine HF.out.mono ?_
  rintro e w1 ⟨rfl, rfl⟩
  go_wp2
  go_ret2
  exact ⟨rfl, rfl⟩
theorem ldexp_big {V : Nat} (h : Rep V) (h0 : V ≠ 0) (k : Nat) (hk : V.log2 + k ≤ 2097) (hcond : 52 ≤ V.log2 + k) (w : World) :
    Calls Try.prog 88 #[.float .f64 (wordV false V), .int .i64 (k : Nat)] w fun e w' => e = .returned (.float .f64 (wordV false (V * 2 ^ k))) ∧ w = w' := by
  obtain ⟨n, L, e0, hn, hL, hL2, he, he0, hcall⟩ := normalize_any h h0 w
  have hc := order_zero h h0
  have hi := inf_wordV h
  have hna := (wordV_lt false h).2.1
  have hlt := wordF_lt h
  obtain ⟨b1, b2⟩ := sig_bounds h0
  have hT := rep_mul k h0 h hk
  have hT0 : V * 2 ^ k ≠ 0 := Nat.mul_ne_zero h0 (Nat.ne_of_gt (Nat.two_pow_pos _))
  have lT := log2_pow k h0
  have sT := sig_pow k h0
  obtain ⟨E, hE⟩ : ∃ E : Nat, E = L - 51 := ⟨_, rfl⟩
  obtain ⟨f, hf⟩ : ∃ f : Nat, f = sig V - 4503599627370496 := ⟨_, rfl⟩
  obtain ⟨q, hq⟩ : ∃ q : Nat, q = V.log2 + k - 51 := ⟨_, rfl⟩
  obtain ⟨p, hp⟩ : ∃ p : Int, p = (V.log2 : Int) + k - 1074 := ⟨_, rfl⟩
  obtain ⟨g, hg⟩ : ∃ g : Nat, g = wordV false (V * 2 ^ k) := ⟨_, rfl⟩
  have hop := fun t w => run_float_arith (P := Try.prog) w .mul t .f64 _ _ _ (mul_one' hT hT0)
  rw [← hg] at hop ⊢
  rw [word_sig (by omega), lT, sT] at hg
  generalize hv : wordV false V = v at *
  clear hv h hT hT0 lT sT
  have k1 : ((n : Int) / 4503599627370496) = (E : Int) := by omega
  have k2 := and_2047i E (by omega)
  have k3 : bits .andNot .u64 (n : Int) 9218868437227405312 = (f : Int) := by rw [low52 n (by omega)]; omega
  have k4 : bits .or .u64 (f : Int) ((q : Int) * 4503599627370496) = ((q * 4503599627370496 + f : Nat) : Int) := by
    have := or_high f q (by omega) (by omega)
    rw [show (((q * 4503599627370496 : Nat) : Int)) = (q : Int) * 4503599627370496 by omega] at this
    exact this
  have k4g : ((q * 4503599627370496 + f : Nat) : Int) = (g : Int) := by omega
  rw [k4g] at k4
  have k5 : (k : Int) + e0 + ((E : Int) - 1023) = p := by omega
  have k6 : p + 1023 = (q : Int) := by omega
  have k7 : -52 ≤ e0 := by omega
  have k8 : e0 ≤ 0 := by omega
  have k9 : n < 9223372036854775808 := by omega
  have k10 : E ≤ 2046 := by omega
  have k11 : q ≤ 2046 := by omega
  have k12 : k ≤ 2097 := by omega
  have k13 : -1074 ≤ p := by omega
  have k14 : p ≤ 1023 := by omega
  have k15 : -1022 ≤ p := by omega
  clear hn hL hL2 he he0 b1 b2 hE hf hp hk hcond hg hq k4g
  have HC := Lib.hid hcall; clear hcall
  have HI := Lib.hid hi; clear hi
  have HN := Lib.hid hna; clear hna
  go_enter Try.func88, Try.ntmps88
  go_wp2_with fail
  refine (isinf_any v w (by omega)).mono ?_
  rintro e w1 ⟨rfl, rfl⟩
  rw [HI.out]
  go_wp2_with fail
  refine (isnan_any v w).mono ?_
  rintro e w1 ⟨rfl, rfl⟩
  rw [HN.out]
  go_wp2_with fail
  refine HC.out.mono ?_
  rintro e w1 ⟨rfl, rfl⟩
  go_wp2
  go_ret
  exact ⟨rfl, rfl⟩
theorem ldexp_small {V : Nat} (h : Rep V) (h0 : V ≠ 0) (k : Nat) (hk : V.log2 + k ≤ 2097) (hcond : V.log2 + k < 52) (w : World) :
    Calls Try.prog 88 #[.float .f64 (wordV false V), .int .i64 (k : Nat)] w fun e w' => e = .returned (.float .f64 (wordV false (V * 2 ^ k))) ∧ w = w' := by
  obtain ⟨n, L, e0, hn, hL, hL2, he, he0, hcall⟩ := normalize_any h h0 w
  have hc := order_zero h h0
  have hi := inf_wordV h
  have hna := (wordV_lt false h).2.1
  have hlt := wordF_lt h
  obtain ⟨b1, b2⟩ := sig_bounds h0
  have hT := rep_mul k h0 h hk
  have hT0 : V * 2 ^ k ≠ 0 := Nat.mul_ne_zero h0 (Nat.ne_of_gt (Nat.two_pow_pos _))
  have lT := log2_pow k h0
  have sT := sig_pow k h0
  obtain ⟨E, hE⟩ : ∃ E : Nat, E = L - 51 := ⟨_, rfl⟩
  obtain ⟨f, hf⟩ : ∃ f : Nat, f = sig V - 4503599627370496 := ⟨_, rfl⟩
  obtain ⟨q, hq⟩ : ∃ q : Nat, q = V.log2 + k + 2 := ⟨_, rfl⟩
  obtain ⟨p, hp⟩ : ∃ p : Int, p = (V.log2 : Int) + k - 1074 := ⟨_, rfl⟩
  obtain ⟨g, hg⟩ : ∃ g : Nat, g = wordV false (V * 2 ^ k * 2 ^ 53) := ⟨_, rfl⟩
  have hop := fun t w => run_float_arith (P := Try.prog) w .mul t .f64 _ _ _ (mul_down hT hT0 (by omega))
  rw [← hg] at hop
  rw [word_sig (by rw [log2_pow 53 hT0]; omega), log2_pow 53 hT0, sig_pow 53 hT0, lT, sT] at hg
  generalize wordV false (V * 2 ^ k) = t at *
  generalize hv : wordV false V = v at *
  clear hv h hT hT0 lT sT
  have k1 : ((n : Int) / 4503599627370496) = (E : Int) := by omega
  have k2 := and_2047i E (by omega)
  have k3 : bits .andNot .u64 (n : Int) 9218868437227405312 = (f : Int) := by rw [low52 n (by omega)]; omega
  have k4 : bits .or .u64 (f : Int) ((q : Int) * 4503599627370496) = ((q * 4503599627370496 + f : Nat) : Int) := by
    have := or_high f q (by omega) (by omega)
    rw [show (((q * 4503599627370496 : Nat) : Int)) = (q : Int) * 4503599627370496 by omega] at this
    exact this
  have k4g : ((q * 4503599627370496 + f : Nat) : Int) = (g : Int) := by omega
  rw [k4g] at k4
  have k5 : (k : Int) + e0 + ((E : Int) - 1023) = p := by omega
  have k6 : p + 53 + 1023 = (q : Int) := by omega
  have k7 : -52 ≤ e0 := by omega
  have k8 : e0 ≤ 0 := by omega
  have k9 : n < 9223372036854775808 := by omega
  have k10 : E ≤ 2046 := by omega
  have k11 : q ≤ 2046 := by omega
  have k12 : k ≤ 2097 := by omega
  have k13 : -1074 ≤ p := by omega
  have k14 : p ≤ 1023 := by omega
  have k15 : p < -1022 := by omega
  clear hn hL hL2 he he0 b1 b2 hE hf hp hk hcond hg hq k4g
  have HC := Lib.hid hcall; clear hcall
  have HI := Lib.hid hi; clear hi
  have HN := Lib.hid hna; clear hna
  go_enter Try.func88, Try.ntmps88
  go_wp2_with fail
  refine (isinf_any v w (by omega)).mono ?_
  rintro e w1 ⟨rfl, rfl⟩
  rw [HI.out]
  go_wp2_with fail
  refine (isnan_any v w).mono ?_
  rintro e w1 ⟨rfl, rfl⟩
  rw [HN.out]
  go_wp2_with fail
  refine HC.out.mono ?_
  rintro e w1 ⟨rfl, rfl⟩
  go_wp2
  go_ret
  exact ⟨rfl, rfl⟩
theorem Ldexp_any {V : Nat} (h : Rep V) (h0 : V ≠ 0) (k : Nat) (hk : V.log2 + k ≤ 2097) (w : World) :
    Calls Try.prog 72 #[.float .f64 (wordV false V), .int .i64 (k : Nat)] w fun e w' => e = .returned (.float .f64 (wordV false (V * 2 ^ k))) ∧ w = w' := by
  have hf : Calls Try.prog 88 #[.float .f64 (wordV false V), .int .i64 (k : Nat)] w fun e w' => e = .returned (.float .f64 (wordV false (V * 2 ^ k))) ∧ w = w' := by
    by_cases hc : 52 ≤ V.log2 + k
    · exact ldexp_big h h0 k hk hc w
    · exact ldexp_small h h0 k hk (by omega) w
  generalize wordV false (V * 2 ^ k) = t at *
  generalize wordV false V = v at *
  have HF := Lib.hid hf; clear hf
  go_enter Try.func72, Try.ntmps72
  go_wp2_with fail
  refine HF.out.mono ?_
  rintro e w1 ⟨rfl, rfl⟩
  go_wp2
  go_ret
  exact ⟨rfl, rfl⟩
end
end Go.Proofs.Ytlaodfkcfclpmaa
