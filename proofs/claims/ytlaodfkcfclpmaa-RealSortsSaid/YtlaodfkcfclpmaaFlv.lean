/-
  Means, and the chapter's examples: so they are.
-/
import Derived.Test.YtlaodfkcfclpmaaFsu
namespace Go.Proofs.Ytlaodfkcfclpmaa
set_option linter.unusedVariables false
set_option linter.unusedSimpArgs false
open Go.RowKit

theorem ofInt_num (n : Int) : nanB (floatOfInt .f64 n) = false ∧ floatOfInt .f64 n < 18446744073709551616 := nearest_num (decide (n < 0)) n.natAbs 0
theorem ofN_eq (n : Int) : ofN n = floatOfInt .f64 n := by unfold ofN tellN; simp [(ofInt_num n).1]
def meanN (xs : List Nat) : Nat := tellO (floatBits .quo .f64 (sumP xs) (ofN xs.length))
theorem meanN_nil : meanN [] = 9221120237041090561 := by kernel_rfl
theorem lv_0 : ofN (-5) = 13840687554816376832 := by kernel_rfl
theorem lv_1 : tellO (floatBits .quo .f64 4607182418800017408 0) = 9218868437227405312 := by kernel_rfl
theorem lv_2 : tellN (eitherN 9218868437227405314 4607182418800017408 (decide (ordN 9218868437227405314 4607182418800017408 < 0))) = 4607182418800017408 := by kernel_rfl
theorem lv_3 : ordN 9223372036854775808 0 = -1 := by kernel_rfl
theorem lv_4 : kindN 9218868437227405314 = 1 := by kernel_rfl
theorem lv_5 : negN 9223372036854775808 = true := by kernel_rfl
theorem lv_6 : holdsN 0 (FloatKind.f64.format.order 9223372036854775808 0) = true := by kernel_rfl
section
set_option maxHeartbeats 1600000
set_option maxRecDepth 100000
theorem mean_any (A : Option Addr) (c : Nat) (xs : List Nat) (w : World) (hx : Rd w A (xs.map Uv)) (hb : ∀ x ∈ xs, x < 18446744073709551616) (hl : xs.length ≤ 9223372036854775807) :
    Calls Try.prog 32 #[.slice A xs.length c] w fun e w' => e = .returned (.int .u64 (meanN xs : Nat)) ∧ ∃ n, w' = w.drewN n := by
  obtain ⟨m, hm⟩ : ∃ m, m = meanN xs := ⟨_, rfl⟩
  rw [← hm]
  have HM := Lib.hid hm.symm; clear hm
  go_enter Try.func32, Try.ntmps32
  go_wp2_with fail
  refine (sum_any A c xs w hx hb hl).mono ?_
  rintro e w1 ⟨rfl, n, rfl⟩
  have HM2 := Lib.hid (show tellO (floatBits .quo .f64 (sumP xs) (ofN xs.length)) = m from HM.out)
  generalize sumP xs = s at *
  go_wp2_with fail
  refine (of_any (xs.length : Int) (w.drewN n)).mono ?_
  rintro e w1 ⟨rfl, rfl⟩
  generalize ofN xs.length = l at *
  go_wp2_with fail
  refine (do_quo_any s l _).mono ?_
  rintro e w1 ⟨rfl, n2, rfl⟩
  rw [HM2.out]
  go_wp2
  go_ret
  exact ⟨rfl, _, rfl⟩
theorem rmean_any (A : Option Addr) (c : Nat) (xs : List Nat) (w : World) (hx : Rd w A (xs.map Uv)) (hb : ∀ x ∈ xs, x < 18446744073709551616) (hl : xs.length ≤ 9223372036854775807) :
    Calls Try.prog 33 #[.slice A xs.length c] w fun e w' => e = .returned (.int .u64 (meanN xs : Nat)) ∧ ∃ n, w' = w.drewN n := by
  by_cases h0 : xs = []
  · subst h0
    rw [meanN_nil]
    go_enter Try.func33, Try.ntmps33
    go_wp2
    go_ret
    exact ⟨rfl, 0, rfl⟩
  · have hne : ((xs.length : Int) == 0) = false := by
      rw [beq_eq_false_iff_ne]
      intro e
      exact h0 (List.eq_nil_of_length_eq_zero (by omega))
    clear h0
    obtain ⟨m, hm⟩ : ∃ m, m = meanN xs := ⟨_, rfl⟩
    rw [← hm]
    have HM := Lib.hid hm.symm; clear hm
    have HM2 := Lib.hid (show tellO (floatBits .quo .f64 (sumR xs) (floatOfInt .f64 xs.length)) = m by rw [← sum_alike, ← ofN_eq]; exact HM.out)
    go_enter Try.func33, Try.ntmps33
    go_wp2_with fail
    refine (rsum_any A c xs w hx hb hl).mono ?_
    rintro e w1 ⟨rfl, n, rfl⟩
    generalize sumR xs = s at *
    go_wp2_with fail
    refine (num_any s _).mono ?_
    rintro e w1 ⟨rfl, rfl⟩
    obtain ⟨l, hl⟩ : ∃ l, floatOfInt .f64 xs.length = l := ⟨_, rfl⟩
    rw [hl] at HM2
    obtain ⟨f, hf⟩ : ∃ f, f = floatBits .quo .f64 s l := ⟨_, rfl⟩
    rw [← hf] at HM2
    have HF := Lib.hid hf.symm; clear hf
    cases f with
    | none =>
      have hop := fun t => run_float_nan (P := Try.prog) (w.drewN n) .quo t s l (by simp) HF.out
      have hnan := drawnNan_nan (w.drewN n) s l
      obtain ⟨r, hr⟩ : ∃ r, r = drawnNan (w.drewN n) s l := ⟨_, rfl⟩
      simp only [← hr] at hop hnan
      clear hr
      go_wp2_with fail
      refine (rbits_any r _).mono ?_
      rintro e w1 ⟨rfl, rfl⟩
      rw [show tellN r = m by rw [← HM2.out]; simp [tellN, hnan, tellO]]
      go_wp2
      go_ret
      exact ⟨rfl, n + 1, rfl⟩
    | some r =>
      have hop := fun t w => run_float_arith (P := Try.prog) w .quo t .f64 s l r HF.out
      go_wp2_with fail
      refine (rbits_any r _).mono ?_
      rintro e w1 ⟨rfl, rfl⟩
      rw [show tellN r = m from HM2.out]
      go_wp2
      go_ret
      exact ⟨rfl, n, rfl⟩
theorem whole_m5 (w : World) : Calls Try.prog 24 #[.int .u64 13840687554816376832] w fun e w' => e = .returned (.tuple #[.int .i64 (-5), .bool true]) ∧ w = w' := by
  have h1 : (FloatKind.f64.format.order 13840687554816376832 13840687554816376832 != some .eq) = false := by kernel_rfl
  have h2 : (FloatKind.f64.format.order 13840687554816376832 14114281232179134464 == some .lt) = false := by kernel_rfl
  have h3 : (FloatKind.f64.format.order 13840687554816376832 4890909195324358656 == some .gt || FloatKind.f64.format.order 13840687554816376832 4890909195324358656 == some .eq) = false := by kernel_rfl
  have h4 : intN .zero 13840687554816376832 = 13840687554816376832 := by kernel_rfl
  have h5 := fun w => run_convert_float_int (P := Try.prog) w 44 2 .f64 .i64 13840687554816376832 (-5) (by kernel_rfl) Try.underlying2 (by kernel_rfl)
  have H4 := Lib.hid h4; clear h4
  go_enter Try.func24, Try.ntmps24
  go_wp2_with fail
  refine (number_any 13840687554816376832 w).mono ?_
  rintro e w1 ⟨rfl, rfl⟩
  go_wp2_with fail
  refine (trunc_num 13840687554816376832 w (by kernel_rfl)).mono ?_
  rintro e w1 ⟨rfl, rfl⟩
  rw [H4.out]
  go_wp2
  go_ret2
  exact ⟨rfl, rfl⟩
theorem live_any (w : World) : Calls Try.prog 13 #[] w fun e w' => e = .returned (.bool true) ∧ ∃ n, w' = w.drewN n := by
  go_enter Try.func13, Try.ntmps13
  go_wp2_with fail
  refine (of_any (-5) w).mono ?_
  rintro e w1 ⟨rfl, rfl⟩
  rw [lv_0]
  go_wp2_with fail
  refine (whole_m5 w).mono ?_
  rintro e w1 ⟨rfl, rfl⟩
  go_wp2_with fail
  refine (do_quo_any 4607182418800017408 0 w).mono ?_
  rintro e w1 ⟨rfl, n, rfl⟩
  rw [lv_1]
  go_wp2_with fail
  refine (do_min_any 9218868437227405314 4607182418800017408 _ (by decide) (by decide)).mono ?_
  rintro e w1 ⟨rfl, rfl⟩
  rw [lv_2]
  go_wp2_with fail
  refine (order_any 9223372036854775808 0 _ (by decide) (by decide)).mono ?_
  rintro e w1 ⟨rfl, rfl⟩
  rw [lv_3]
  go_wp2_with fail
  refine (kind_any 9218868437227405314 _ (by decide)).mono ?_
  rintro e w1 ⟨rfl, rfl⟩
  rw [lv_4]
  go_wp2_with fail
  refine (neg_any 9223372036854775808 _ (by decide)).mono ?_
  rintro e w1 ⟨rfl, rfl⟩
  rw [lv_5]
  go_wp2_with fail
  refine (holds_any 0 9223372036854775808 0 _).mono ?_
  rintro e w1 ⟨rfl, rfl⟩
  rw [lv_6]
  go_wp2_with fail
  refine (mean_any none 0 [] _ (Rd.nil _ _) (by simp) (by decide)).mono ?_
  rintro e w1 ⟨rfl, n2, rfl⟩
  rw [meanN_nil]
  go_wp2
  go_ret
  exact ⟨rfl, _, rfl⟩
end
end Go.Proofs.Ytlaodfkcfclpmaa
