/-
  What an operation on two numbers makes: the bits of the rounded result, or, of an invalid one, bits of what is no number, drawn.
-/
import Derived.Test.YtlaodfkcfclpmaaFkd
namespace Go.Proofs.Ytlaodfkcfclpmaa
set_option linter.unusedVariables false
set_option linter.unusedSimpArgs false
open Go.RowKit

/-- The bits that are drawn for an operation that has no answer. -/
def drawnNan (w : World) (x y : Nat) : Nat := (Question.nanBits .f64 x y).cut (w.tape w.drawn (.nanBits .f64 x y))
theorem drawnNan_nan (w : World) (x y : Nat) : nanB (drawnNan w x y) = true := by
  unfold drawnNan Question.cut nanB
  generalize w.tape w.drawn (.nanBits .f64 x y) = t
  rw [decide_eq_true_eq]
  show 9218868437227405312 < (t % 2 * 9223372036854775808 + 9218868437227405312 + 1 + t / 2 % 4503599627370495) % 9223372036854775808
  have h1 : t / 2 % 4503599627370495 < 4503599627370495 := Nat.mod_lt _ (by decide)
  generalize t / 2 % 4503599627370495 = q at *
  rcases (by omega : t % 2 = 0 ∨ t % 2 = 1) with h2 | h2 <;> rw [h2] <;> omega
theorem drawnNan_lt (w : World) (x y : Nat) : drawnNan w x y < 18446744073709551616 := by
  unfold drawnNan Question.cut
  generalize w.tape w.drawn (.nanBits .f64 x y) = t
  show t % 2 * 9223372036854775808 + 9218868437227405312 + 1 + t / 2 % 4503599627370495 < 18446744073709551616
  omega
theorem run_float_nan {P : Program} (w : World) (op : BinOp) (t : TypeId) (x y : Nat) (hop : op = .add ∨ op = .sub ∨ op = .mul ∨ op = .quo) (h : floatBits op .f64 x y = none) :
    (binOp op t (.float .f64 x) (.float .f64 y)).run P w = .ok (.float .f64 (drawnNan w x y)) w.drew := by
  unfold floatBits at h
  rcases hop with rfl | rfl | rfl | rfl <;> simp only at h <;> simp [binOp, Op.floatArith, h] <;> rfl

section
set_option maxHeartbeats 800000
set_option maxRecDepth 100000
/-- The first of two, or the other one if it is no number. -/
def eitherN (a b : Nat) (first : Bool) : Nat := if nanB a then b else if nanB b || first then a else b
theorem eitherN_lt {a b : Nat} (f : Bool) (ha : a < 18446744073709551616) (hb : b < 18446744073709551616) : eitherN a b f < 18446744073709551616 := by unfold eitherN; split <;> (try split) <;> assumption
theorem either_any (a b : Nat) (f : Bool) (w : World) : Calls Try.prog 43 #[.int .u64 (a : Nat), .int .u64 (b : Nat), .bool f] w fun e w' => e = .returned (.int .u64 (eitherN a b f : Nat)) ∧ w = w' := by
  obtain ⟨na, hna⟩ : ∃ na, na = nanB a := ⟨_, rfl⟩
  obtain ⟨nb, hnb⟩ : ∃ nb, nb = nanB b := ⟨_, rfl⟩
  obtain ⟨r, hr⟩ : ∃ r, r = eitherN a b f := ⟨_, rfl⟩
  rw [← hr]
  unfold eitherN at hr
  rw [← hna, ← hnb] at hr
  have HR := Lib.hid hr; clear hr
  have HA := Lib.hid hna; clear hna
  have HB := Lib.hid hnb; clear hnb
  go_enter Try.func43, Try.ntmps43
  go_wp2_with fail
  refine (number_any a w).mono ?_
  rintro e w1 ⟨rfl, rfl⟩
  go_wp2_with fail
  refine (isnan_any a w).mono ?_
  rintro e w1 ⟨rfl, rfl⟩
  rw [← HA.out]
  cases na with
  | true => go_wp2; go_ret; exact ⟨by rw [HR.out]; rfl, rfl⟩
  | false =>
    go_wp2_with fail
    refine (number_any b w).mono ?_
    rintro e w1 ⟨rfl, rfl⟩
    go_wp2_with fail
    refine (isnan_any b w).mono ?_
    rintro e w1 ⟨rfl, rfl⟩
    rw [← HB.out]
    cases nb with
    | true => go_wp2; go_ret; exact ⟨by rw [HR.out]; rfl, rfl⟩
    | false =>
      cases f with
      | true => go_wp2; go_ret; exact ⟨by rw [HR.out]; rfl, rfl⟩
      | false => go_wp2; go_ret; exact ⟨by rw [HR.out]; rfl, rfl⟩
theorem one_any (a b : Nat) (f : Bool) (w : World) (ha : a < 18446744073709551616) (hb : b < 18446744073709551616) : Calls Try.prog 46 #[.int .u64 (a : Nat), .int .u64 (b : Nat), .bool f] w fun e w' => e = .returned (.int .u64 (tellN (eitherN a b (decide (ordN a b < 0) == f)) : Nat)) ∧ w = w' := by
  obtain ⟨na, hna⟩ : ∃ na, na = nanB a := ⟨_, rfl⟩
  obtain ⟨nb, hnb⟩ : ∃ nb, nb = nanB b := ⟨_, rfl⟩
  obtain ⟨k, hk⟩ : ∃ k, k = ordN a b := ⟨_, rfl⟩
  obtain ⟨q, hq⟩ : ∃ q, q = decide (k < 0) := ⟨_, rfl⟩
  obtain ⟨r, hr⟩ : ∃ r, r = tellN (eitherN a b (decide (ordN a b < 0) == f)) := ⟨_, rfl⟩
  rw [← hr]
  unfold eitherN tellN at hr
  rw [← hna, ← hnb, ← hk, ← hq] at hr
  have HR := Lib.hid hr; clear hr
  have HA := Lib.hid hna; clear hna
  have HB := Lib.hid hnb; clear hnb
  have HK := Lib.hid hk; clear hk
  have HQ := Lib.hid hq.symm; clear hq
  go_enter Try.func46, Try.ntmps46
  go_wp2_with fail
  refine (nan_any a w).mono ?_
  rintro e w1 ⟨rfl, rfl⟩
  rw [← HA.out]
  cases na with
  | true =>
    go_wp2_with fail
    refine (num_any b w).mono ?_
    rintro e w1 ⟨rfl, rfl⟩
    go_wp2_with fail
    refine (rbits_any b w).mono ?_
    rintro e w1 ⟨rfl, rfl⟩
    go_wp2; go_ret; exact ⟨by rw [HR.out]; rfl, rfl⟩
  | false =>
    go_wp2_with fail
    refine (nan_any b w).mono ?_
    rintro e w1 ⟨rfl, rfl⟩
    rw [← HB.out]
    cases nb with
    | true => go_wp2; go_ret; exact ⟨by rw [HR.out]; simp [← HA.out], rfl⟩
    | false =>
      go_wp2_with fail
      refine (rorder_any a b w ha hb).mono ?_
      rintro e w1 ⟨rfl, rfl⟩
      rw [← HK.out]
      have hq := HQ.out
      cases q with
      | true =>
        cases f with
        | true => go_wp2; go_ret; exact ⟨by rw [HR.out]; simp [← HA.out], rfl⟩
        | false => go_wp2; go_ret; exact ⟨by rw [HR.out]; simp [← HB.out], rfl⟩
      | false =>
        cases f with
        | true => go_wp2; go_ret; exact ⟨by rw [HR.out]; simp [← HB.out], rfl⟩
        | false => go_wp2; go_ret; exact ⟨by rw [HR.out]; simp [← HA.out], rfl⟩
theorem do_add_any (a b : Nat) (w : World) :
    Calls Try.prog 22 #[.int .i64 0, .int .u64 (a : Nat), .int .u64 (b : Nat)] w fun e w' => e = .returned (.int .u64 (tellO (floatBits .add .f64 a b) : Nat)) ∧ ∃ n, w' = w.drewN n := by
  obtain ⟨f, hf⟩ : ∃ f, f = floatBits .add .f64 a b := ⟨_, rfl⟩
  rw [← hf]
  have HF := Lib.hid hf.symm; clear hf
  go_enter Try.func22, Try.ntmps22
  go_wp2_with fail
  refine (number_any a w).mono ?_
  rintro e w1 ⟨rfl, rfl⟩
  go_wp2_with fail
  refine (number_any b w).mono ?_
  rintro e w1 ⟨rfl, rfl⟩
  cases f with
  | none =>
    have hop := fun t => run_float_nan (P := Try.prog) w .add t a b (by simp) HF.out
    have hnan := drawnNan_nan w a b
    obtain ⟨r, hr⟩ : ∃ r, r = drawnNan w a b := ⟨_, rfl⟩
    simp only [← hr] at hop hnan
    clear hr
    go_wp2_with fail
    refine (told_any r w.drew).mono ?_
    rintro e w1 ⟨rfl, rfl⟩
    rw [show tellN r = 9221120237041090561 by simp [tellN, hnan]]
    go_wp2
    go_ret
    exact ⟨rfl, 1, rfl⟩
  | some r =>
    have hop := fun t w => run_float_arith (P := Try.prog) w .add t .f64 a b r HF.out
    go_wp2_with fail
    refine (told_any r w).mono ?_
    rintro e w1 ⟨rfl, rfl⟩
    go_wp2
    go_ret
    exact ⟨rfl, 0, rfl⟩
theorem do_sub_any (a b : Nat) (w : World) :
    Calls Try.prog 22 #[.int .i64 1, .int .u64 (a : Nat), .int .u64 (b : Nat)] w fun e w' => e = .returned (.int .u64 (tellO (floatBits .sub .f64 a b) : Nat)) ∧ ∃ n, w' = w.drewN n := by
  obtain ⟨f, hf⟩ : ∃ f, f = floatBits .sub .f64 a b := ⟨_, rfl⟩
  rw [← hf]
  have HF := Lib.hid hf.symm; clear hf
  go_enter Try.func22, Try.ntmps22
  go_wp2_with fail
  refine (number_any a w).mono ?_
  rintro e w1 ⟨rfl, rfl⟩
  go_wp2_with fail
  refine (number_any b w).mono ?_
  rintro e w1 ⟨rfl, rfl⟩
  cases f with
  | none =>
    have hop := fun t => run_float_nan (P := Try.prog) w .sub t a b (by simp) HF.out
    have hnan := drawnNan_nan w a b
    obtain ⟨r, hr⟩ : ∃ r, r = drawnNan w a b := ⟨_, rfl⟩
    simp only [← hr] at hop hnan
    clear hr
    go_wp2_with fail
    refine (told_any r w.drew).mono ?_
    rintro e w1 ⟨rfl, rfl⟩
    rw [show tellN r = 9221120237041090561 by simp [tellN, hnan]]
    go_wp2
    go_ret
    exact ⟨rfl, 1, rfl⟩
  | some r =>
    have hop := fun t w => run_float_arith (P := Try.prog) w .sub t .f64 a b r HF.out
    go_wp2_with fail
    refine (told_any r w).mono ?_
    rintro e w1 ⟨rfl, rfl⟩
    go_wp2
    go_ret
    exact ⟨rfl, 0, rfl⟩
theorem do_mul_any (a b : Nat) (w : World) :
    Calls Try.prog 22 #[.int .i64 2, .int .u64 (a : Nat), .int .u64 (b : Nat)] w fun e w' => e = .returned (.int .u64 (tellO (floatBits .mul .f64 a b) : Nat)) ∧ ∃ n, w' = w.drewN n := by
  obtain ⟨f, hf⟩ : ∃ f, f = floatBits .mul .f64 a b := ⟨_, rfl⟩
  rw [← hf]
  have HF := Lib.hid hf.symm; clear hf
  go_enter Try.func22, Try.ntmps22
  go_wp2_with fail
  refine (number_any a w).mono ?_
  rintro e w1 ⟨rfl, rfl⟩
  go_wp2_with fail
  refine (number_any b w).mono ?_
  rintro e w1 ⟨rfl, rfl⟩
  cases f with
  | none =>
    have hop := fun t => run_float_nan (P := Try.prog) w .mul t a b (by simp) HF.out
    have hnan := drawnNan_nan w a b
    obtain ⟨r, hr⟩ : ∃ r, r = drawnNan w a b := ⟨_, rfl⟩
    simp only [← hr] at hop hnan
    clear hr
    go_wp2_with fail
    refine (told_any r w.drew).mono ?_
    rintro e w1 ⟨rfl, rfl⟩
    rw [show tellN r = 9221120237041090561 by simp [tellN, hnan]]
    go_wp2
    go_ret
    exact ⟨rfl, 1, rfl⟩
  | some r =>
    have hop := fun t w => run_float_arith (P := Try.prog) w .mul t .f64 a b r HF.out
    go_wp2_with fail
    refine (told_any r w).mono ?_
    rintro e w1 ⟨rfl, rfl⟩
    go_wp2
    go_ret
    exact ⟨rfl, 0, rfl⟩
theorem do_quo_any (a b : Nat) (w : World) :
    Calls Try.prog 22 #[.int .i64 3, .int .u64 (a : Nat), .int .u64 (b : Nat)] w fun e w' => e = .returned (.int .u64 (tellO (floatBits .quo .f64 a b) : Nat)) ∧ ∃ n, w' = w.drewN n := by
  obtain ⟨f, hf⟩ : ∃ f, f = floatBits .quo .f64 a b := ⟨_, rfl⟩
  rw [← hf]
  have HF := Lib.hid hf.symm; clear hf
  go_enter Try.func22, Try.ntmps22
  go_wp2_with fail
  refine (number_any a w).mono ?_
  rintro e w1 ⟨rfl, rfl⟩
  go_wp2_with fail
  refine (number_any b w).mono ?_
  rintro e w1 ⟨rfl, rfl⟩
  cases f with
  | none =>
    have hop := fun t => run_float_nan (P := Try.prog) w .quo t a b (by simp) HF.out
    have hnan := drawnNan_nan w a b
    obtain ⟨r, hr⟩ : ∃ r, r = drawnNan w a b := ⟨_, rfl⟩
    simp only [← hr] at hop hnan
    clear hr
    go_wp2_with fail
    refine (told_any r w.drew).mono ?_
    rintro e w1 ⟨rfl, rfl⟩
    rw [show tellN r = 9221120237041090561 by simp [tellN, hnan]]
    go_wp2
    go_ret
    exact ⟨rfl, 1, rfl⟩
  | some r =>
    have hop := fun t w => run_float_arith (P := Try.prog) w .quo t .f64 a b r HF.out
    go_wp2_with fail
    refine (told_any r w).mono ?_
    rintro e w1 ⟨rfl, rfl⟩
    go_wp2
    go_ret
    exact ⟨rfl, 0, rfl⟩
theorem do_none_any (k : Int) (a b : Nat) (w : World) (hk : k < 0 ∨ 6 < k) :
    Calls Try.prog 22 #[.int .i64 k, .int .u64 (a : Nat), .int .u64 (b : Nat)] w fun e w' => e = .returned (.int .u64 9221120237041090561) ∧ w = w' := by
  have d0 : (k == 0) = false := by rw [beq_eq_false_iff_ne]; omega
  have d1 : (k == 1) = false := by rw [beq_eq_false_iff_ne]; omega
  have d2 : (k == 2) = false := by rw [beq_eq_false_iff_ne]; omega
  have d3 : (k == 3) = false := by rw [beq_eq_false_iff_ne]; omega
  have d4 : (k == 4) = false := by rw [beq_eq_false_iff_ne]; omega
  have d5 : (k == 5) = false := by rw [beq_eq_false_iff_ne]; omega
  have d6 : (k == 6) = false := by rw [beq_eq_false_iff_ne]; omega
  clear hk
  go_enter Try.func22, Try.ntmps22
  go_wp2_with fail
  refine (number_any a w).mono ?_
  rintro e w1 ⟨rfl, rfl⟩
  go_wp2_with fail
  refine (number_any b w).mono ?_
  rintro e w1 ⟨rfl, rfl⟩
  go_wp2
  go_ret
  exact ⟨rfl, rfl⟩
theorem rdo_add_any (a b : Nat) (w : World) :
    Calls Try.prog 23 #[.int .i64 0, .int .u64 (a : Nat), .int .u64 (b : Nat)] w fun e w' => e = .returned (.int .u64 (tellO (floatBits .add .f64 a b) : Nat)) ∧ ∃ n, w' = w.drewN n := by
  obtain ⟨f, hf⟩ : ∃ f, f = floatBits .add .f64 a b := ⟨_, rfl⟩
  rw [← hf]
  have HF := Lib.hid hf.symm; clear hf
  go_enter Try.func23, Try.ntmps23
  go_wp2_with fail
  refine (num_any a w).mono ?_
  rintro e w1 ⟨rfl, rfl⟩
  go_wp2_with fail
  refine (num_any b w).mono ?_
  rintro e w1 ⟨rfl, rfl⟩
  cases f with
  | none =>
    have hop := fun t => run_float_nan (P := Try.prog) w .add t a b (by simp) HF.out
    have hnan := drawnNan_nan w a b
    obtain ⟨r, hr⟩ : ∃ r, r = drawnNan w a b := ⟨_, rfl⟩
    simp only [← hr] at hop hnan
    clear hr
    go_wp2_with fail
    refine (rbits_any r w.drew).mono ?_
    rintro e w1 ⟨rfl, rfl⟩
    rw [show tellN r = 9221120237041090561 by simp [tellN, hnan]]
    go_wp2
    go_ret
    exact ⟨rfl, 1, rfl⟩
  | some r =>
    have hop := fun t w => run_float_arith (P := Try.prog) w .add t .f64 a b r HF.out
    go_wp2_with fail
    refine (rbits_any r w).mono ?_
    rintro e w1 ⟨rfl, rfl⟩
    go_wp2
    go_ret
    exact ⟨rfl, 0, rfl⟩
theorem rdo_sub_any (a b : Nat) (w : World) :
    Calls Try.prog 23 #[.int .i64 1, .int .u64 (a : Nat), .int .u64 (b : Nat)] w fun e w' => e = .returned (.int .u64 (tellO (floatBits .sub .f64 a b) : Nat)) ∧ ∃ n, w' = w.drewN n := by
  obtain ⟨f, hf⟩ : ∃ f, f = floatBits .sub .f64 a b := ⟨_, rfl⟩
  rw [← hf]
  have HF := Lib.hid hf.symm; clear hf
  go_enter Try.func23, Try.ntmps23
  go_wp2_with fail
  refine (num_any a w).mono ?_
  rintro e w1 ⟨rfl, rfl⟩
  go_wp2_with fail
  refine (num_any b w).mono ?_
  rintro e w1 ⟨rfl, rfl⟩
  cases f with
  | none =>
    have hop := fun t => run_float_nan (P := Try.prog) w .sub t a b (by simp) HF.out
    have hnan := drawnNan_nan w a b
    obtain ⟨r, hr⟩ : ∃ r, r = drawnNan w a b := ⟨_, rfl⟩
    simp only [← hr] at hop hnan
    clear hr
    go_wp2_with fail
    refine (rbits_any r w.drew).mono ?_
    rintro e w1 ⟨rfl, rfl⟩
    rw [show tellN r = 9221120237041090561 by simp [tellN, hnan]]
    go_wp2
    go_ret
    exact ⟨rfl, 1, rfl⟩
  | some r =>
    have hop := fun t w => run_float_arith (P := Try.prog) w .sub t .f64 a b r HF.out
    go_wp2_with fail
    refine (rbits_any r w).mono ?_
    rintro e w1 ⟨rfl, rfl⟩
    go_wp2
    go_ret
    exact ⟨rfl, 0, rfl⟩
theorem rdo_mul_any (a b : Nat) (w : World) :
    Calls Try.prog 23 #[.int .i64 2, .int .u64 (a : Nat), .int .u64 (b : Nat)] w fun e w' => e = .returned (.int .u64 (tellO (floatBits .mul .f64 a b) : Nat)) ∧ ∃ n, w' = w.drewN n := by
  obtain ⟨f, hf⟩ : ∃ f, f = floatBits .mul .f64 a b := ⟨_, rfl⟩
  rw [← hf]
  have HF := Lib.hid hf.symm; clear hf
  go_enter Try.func23, Try.ntmps23
  go_wp2_with fail
  refine (num_any a w).mono ?_
  rintro e w1 ⟨rfl, rfl⟩
  go_wp2_with fail
  refine (num_any b w).mono ?_
  rintro e w1 ⟨rfl, rfl⟩
  cases f with
  | none =>
    have hop := fun t => run_float_nan (P := Try.prog) w .mul t a b (by simp) HF.out
    have hnan := drawnNan_nan w a b
    obtain ⟨r, hr⟩ : ∃ r, r = drawnNan w a b := ⟨_, rfl⟩
    simp only [← hr] at hop hnan
    clear hr
    go_wp2_with fail
    refine (rbits_any r w.drew).mono ?_
    rintro e w1 ⟨rfl, rfl⟩
    rw [show tellN r = 9221120237041090561 by simp [tellN, hnan]]
    go_wp2
    go_ret
    exact ⟨rfl, 1, rfl⟩
  | some r =>
    have hop := fun t w => run_float_arith (P := Try.prog) w .mul t .f64 a b r HF.out
    go_wp2_with fail
    refine (rbits_any r w).mono ?_
    rintro e w1 ⟨rfl, rfl⟩
    go_wp2
    go_ret
    exact ⟨rfl, 0, rfl⟩
theorem rdo_quo_any (a b : Nat) (w : World) :
    Calls Try.prog 23 #[.int .i64 3, .int .u64 (a : Nat), .int .u64 (b : Nat)] w fun e w' => e = .returned (.int .u64 (tellO (floatBits .quo .f64 a b) : Nat)) ∧ ∃ n, w' = w.drewN n := by
  obtain ⟨f, hf⟩ : ∃ f, f = floatBits .quo .f64 a b := ⟨_, rfl⟩
  rw [← hf]
  have HF := Lib.hid hf.symm; clear hf
  go_enter Try.func23, Try.ntmps23
  go_wp2_with fail
  refine (num_any a w).mono ?_
  rintro e w1 ⟨rfl, rfl⟩
  go_wp2_with fail
  refine (num_any b w).mono ?_
  rintro e w1 ⟨rfl, rfl⟩
  cases f with
  | none =>
    have hop := fun t => run_float_nan (P := Try.prog) w .quo t a b (by simp) HF.out
    have hnan := drawnNan_nan w a b
    obtain ⟨r, hr⟩ : ∃ r, r = drawnNan w a b := ⟨_, rfl⟩
    simp only [← hr] at hop hnan
    clear hr
    go_wp2_with fail
    refine (rbits_any r w.drew).mono ?_
    rintro e w1 ⟨rfl, rfl⟩
    rw [show tellN r = 9221120237041090561 by simp [tellN, hnan]]
    go_wp2
    go_ret
    exact ⟨rfl, 1, rfl⟩
  | some r =>
    have hop := fun t w => run_float_arith (P := Try.prog) w .quo t .f64 a b r HF.out
    go_wp2_with fail
    refine (rbits_any r w).mono ?_
    rintro e w1 ⟨rfl, rfl⟩
    go_wp2
    go_ret
    exact ⟨rfl, 0, rfl⟩
theorem rdo_none_any (k : Int) (a b : Nat) (w : World) (hk : k < 0 ∨ 6 < k) :
    Calls Try.prog 23 #[.int .i64 k, .int .u64 (a : Nat), .int .u64 (b : Nat)] w fun e w' => e = .returned (.int .u64 9221120237041090561) ∧ w = w' := by
  have d0 : (k == 0) = false := by rw [beq_eq_false_iff_ne]; omega
  have d1 : (k == 1) = false := by rw [beq_eq_false_iff_ne]; omega
  have d2 : (k == 2) = false := by rw [beq_eq_false_iff_ne]; omega
  have d3 : (k == 3) = false := by rw [beq_eq_false_iff_ne]; omega
  have d4 : (k == 4) = false := by rw [beq_eq_false_iff_ne]; omega
  have d5 : (k == 5) = false := by rw [beq_eq_false_iff_ne]; omega
  have d6 : (k == 6) = false := by rw [beq_eq_false_iff_ne]; omega
  clear hk
  go_enter Try.func23, Try.ntmps23
  go_wp2_with fail
  refine (num_any a w).mono ?_
  rintro e w1 ⟨rfl, rfl⟩
  go_wp2_with fail
  refine (num_any b w).mono ?_
  rintro e w1 ⟨rfl, rfl⟩
  go_wp2
  go_ret
  exact ⟨rfl, rfl⟩
theorem do_min_any (a b : Nat) (w : World) (ha : a < 18446744073709551616) (hb : b < 18446744073709551616) :
    Calls Try.prog 22 #[.int .i64 5, .int .u64 (a : Nat), .int .u64 (b : Nat)] w fun e w' => e = .returned (.int .u64 (tellN (eitherN a b (decide (ordN a b < 0))) : Nat)) ∧ w = w' := by
  obtain ⟨k, hk⟩ : ∃ k, k = ordN a b := ⟨_, rfl⟩
  rw [← hk]
  obtain ⟨r, hr⟩ : ∃ r, r = eitherN a b (decide (k < 0)) := ⟨_, rfl⟩
  rw [← hr]
  have HK := Lib.hid hk; clear hk
  have HR := Lib.hid hr; clear hr
  go_enter Try.func22, Try.ntmps22
  go_wp2_with fail
  refine (number_any a w).mono ?_
  rintro e w1 ⟨rfl, rfl⟩
  go_wp2_with fail
  refine (number_any b w).mono ?_
  rintro e w1 ⟨rfl, rfl⟩
  go_wp2_with fail
  refine (order_any a b w ha hb).mono ?_
  rintro e w1 ⟨rfl, rfl⟩
  rw [← HK.out]
  go_wp2_with fail
  refine (either_any a b _ w).mono ?_
  rintro e w1 ⟨rfl, rfl⟩
  rw [← HR.out]
  go_wp2_with fail
  refine (number_any r w).mono ?_
  rintro e w1 ⟨rfl, rfl⟩
  go_wp2_with fail
  refine (told_any r w).mono ?_
  rintro e w1 ⟨rfl, rfl⟩
  go_wp2
  go_ret
  exact ⟨rfl, rfl⟩
theorem rdo_min_any (a b : Nat) (w : World) (ha : a < 18446744073709551616) (hb : b < 18446744073709551616) :
    Calls Try.prog 23 #[.int .i64 5, .int .u64 (a : Nat), .int .u64 (b : Nat)] w fun e w' => e = .returned (.int .u64 (tellN (eitherN a b (decide (ordN a b < 0) == true)) : Nat)) ∧ w = w' := by
  obtain ⟨r, hr⟩ : ∃ r, r = eitherN a b (decide (ordN a b < 0) == true) := ⟨_, rfl⟩
  rw [← hr]
  have HR := Lib.hid hr; clear hr
  go_enter Try.func23, Try.ntmps23
  go_wp2_with fail
  refine (num_any a w).mono ?_
  rintro e w1 ⟨rfl, rfl⟩
  go_wp2_with fail
  refine (num_any b w).mono ?_
  rintro e w1 ⟨rfl, rfl⟩
  go_wp2_with fail
  refine (one_any a b _ w ha hb).mono ?_
  rintro e w1 ⟨rfl, rfl⟩
  rw [← HR.out]
  go_wp2
  go_ret
  exact ⟨rfl, rfl⟩
theorem do_max_any (a b : Nat) (w : World) (ha : a < 18446744073709551616) (hb : b < 18446744073709551616) :
    Calls Try.prog 22 #[.int .i64 6, .int .u64 (a : Nat), .int .u64 (b : Nat)] w fun e w' => e = .returned (.int .u64 (tellN (eitherN a b (decide (0 < ordN a b))) : Nat)) ∧ w = w' := by
  obtain ⟨k, hk⟩ : ∃ k, k = ordN a b := ⟨_, rfl⟩
  rw [← hk]
  obtain ⟨r, hr⟩ : ∃ r, r = eitherN a b (decide (0 < k)) := ⟨_, rfl⟩
  rw [← hr]
  have HK := Lib.hid hk; clear hk
  have HR := Lib.hid hr; clear hr
  go_enter Try.func22, Try.ntmps22
  go_wp2_with fail
  refine (number_any a w).mono ?_
  rintro e w1 ⟨rfl, rfl⟩
  go_wp2_with fail
  refine (number_any b w).mono ?_
  rintro e w1 ⟨rfl, rfl⟩
  go_wp2_with fail
  refine (order_any a b w ha hb).mono ?_
  rintro e w1 ⟨rfl, rfl⟩
  rw [← HK.out]
  go_wp2_with fail
  refine (either_any a b _ w).mono ?_
  rintro e w1 ⟨rfl, rfl⟩
  rw [← HR.out]
  go_wp2_with fail
  refine (number_any r w).mono ?_
  rintro e w1 ⟨rfl, rfl⟩
  go_wp2_with fail
  refine (told_any r w).mono ?_
  rintro e w1 ⟨rfl, rfl⟩
  go_wp2
  go_ret
  exact ⟨rfl, rfl⟩
theorem rdo_max_any (a b : Nat) (w : World) (ha : a < 18446744073709551616) (hb : b < 18446744073709551616) :
    Calls Try.prog 23 #[.int .i64 6, .int .u64 (a : Nat), .int .u64 (b : Nat)] w fun e w' => e = .returned (.int .u64 (tellN (eitherN a b (decide (ordN a b < 0) == false)) : Nat)) ∧ w = w' := by
  obtain ⟨r, hr⟩ : ∃ r, r = eitherN a b (decide (ordN a b < 0) == false) := ⟨_, rfl⟩
  rw [← hr]
  have HR := Lib.hid hr; clear hr
  go_enter Try.func23, Try.ntmps23
  go_wp2_with fail
  refine (num_any a w).mono ?_
  rintro e w1 ⟨rfl, rfl⟩
  go_wp2_with fail
  refine (num_any b w).mono ?_
  rintro e w1 ⟨rfl, rfl⟩
  go_wp2_with fail
  refine (one_any a b _ w ha hb).mono ?_
  rintro e w1 ⟨rfl, rfl⟩
  rw [← HR.out]
  go_wp2
  go_ret
  exact ⟨rfl, rfl⟩
theorem max_either {a b : Nat} (ha : a < 18446744073709551616) (hb : b < 18446744073709551616) : eitherN a b (decide (ordN a b < 0) == false) = eitherN a b (decide (0 < ordN a b)) := by
  by_cases h1 : keyN a < keyN b
  · rw [show ordN a b = -1 from if_pos h1]; rfl
  · by_cases h2 : keyN b < keyN a
    · rw [show ordN a b = 1 by unfold ordN; rw [if_neg h1, if_pos h2]]; rfl
    · obtain rfl : a = b := keyN_inj ha hb (by omega)
      unfold eitherN
      split <;> (try split) <;> (try split) <;> rfl
theorem min_either (a b : Nat) : eitherN a b (decide (ordN a b < 0) == true) = eitherN a b (decide (ordN a b < 0)) := by simp
end
end Go.Proofs.Ytlaodfkcfclpmaa
