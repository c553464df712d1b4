/-
  Kinds, signs, the order of values, and how two numbers stand: both sides.
-/
import Derived.Test.YtlaodfkcfclpmaaFlt
namespace Go.Proofs.Ytlaodfkcfclpmaa
set_option linter.unusedVariables false
set_option linter.unusedSimpArgs false
open Go.RowKit

/-- Bits that rise as the order does. -/
def keyN (v : Nat) : Nat := if v < 9223372036854775808 then 9223372036854775808 + v else 18446744073709551615 - v
theorem keyN_lt {v : Nat} (h : v < 18446744073709551616) : keyN v < 18446744073709551616 := by unfold keyN; split <;> omega
theorem keyN_inj {a b : Nat} (ha : a < 18446744073709551616) (hb : b < 18446744073709551616) (h : keyN a = keyN b) : a = b := by unfold keyN at h; split at h <;> split at h <;> omega
def ordN (a b : Nat) : Int := if keyN a < keyN b then -1 else if keyN b < keyN a then 1 else 0
def kindN (v : Nat) : Int :=
  if v = 9218868437227405314 then 1 else if nanB v then 0 else if infB v then 2 else if v % 9223372036854775808 = 0 then 3 else if v % 9223372036854775808 < 4503599627370496 then 4 else 5
/-- Does one number stand to another as cmp says? -/
def holdsN (cmp : Int) (o : Option Ordering) : Bool :=
  if cmp = 0 then o == some .eq
  else if cmp = 1 then o != some .eq
  else if cmp = 2 then o == some .gt
  else if cmp = 3 then o == some .lt
  else if cmp = 4 then o == some .gt || o == some .eq
  else if cmp = 5 then o == some .lt || o == some .eq
  else false
def negN (v : Nat) : Bool := decide (9223372036854775808 ≤ v)
section
set_option maxHeartbeats 800000
set_option maxRecDepth 100000
theorem neg_fact {v : Nat} (hv : v < 18446744073709551616) : ((v : Int) / 9223372036854775808 * 9223372036854775808 != 0) = negN v := by
  unfold negN; rw [bne, Bool.beq_eq_decide_eq, ← decide_not]; apply decide_eq_decide.2; omega
theorem rneg_fact {v : Nat} (hv : v < 18446744073709551616) : ((v : Int) / 9223372036854775808 == 1) = negN v := by
  unfold negN; rw [Bool.beq_eq_decide_eq]; apply decide_eq_decide.2; omega
theorem neg_any (v : Nat) (w : World) (hv : v < 18446744073709551616) : Calls Try.prog 16 #[.int .u64 (v : Nat)] w fun e w' => e = .returned (.bool (negN v)) ∧ w = w' := by
  have hb := bits_and_top v hv
  go_enter Try.func16, Try.ntmps16
  go_wp2
  go_ret
  exact ⟨congrArg (fun b => Ending.returned (.bool b)) (neg_fact hv), rfl⟩
theorem rneg_any (v : Nat) (w : World) (hv : v < 18446744073709551616) : Calls Try.prog 17 #[.int .u64 (v : Nat)] w fun e w' => e = .returned (.bool (negN v)) ∧ w = w' := by
  go_enter Try.func17, Try.ntmps17
  go_wp2
  go_ret
  exact ⟨congrArg (fun b => Ending.returned (.bool b)) (rneg_fact hv), rfl⟩
theorem place_any (v : Nat) (w : World) (hv : v < 18446744073709551616) : Calls Try.prog 37 #[.int .u64 (v : Nat)] w fun e w' => e = .returned (.int .u64 (keyN v : Nat)) ∧ w = w' := by
  have hb := bits_or_top v hv
  have hx : bits .xor .u64 IntKind.u64.max (v : Int) = ((18446744073709551615 - v : Nat) : Int) := bits_not v hv
  go_enter Try.func37, Try.ntmps37
  go_wp2_with fail
  refine (neg_any v w hv).mono ?_
  rintro e w1 ⟨rfl, rfl⟩
  cases hn : negN v with
  | true =>
    have kk : ((18446744073709551615 - v : Nat) : Int) = keyN v := by simp [negN] at hn; unfold keyN; rw [if_neg (by omega)]
    rw [kk] at hx
    clear kk
    go_wp2
    go_ret
    exact ⟨rfl, rfl⟩
  | false =>
    have h : ((9223372036854775808 + v % 9223372036854775808 : Nat) : Int) = keyN v := by simp [negN] at hn; unfold keyN; rw [if_pos (by omega), Nat.mod_eq_of_lt hn]
    rw [h] at hb
    clear h
    go_wp2
    go_ret
    exact ⟨rfl, rfl⟩
theorem key_any (v : Nat) (w : World) (hv : v < 18446744073709551616) : Calls Try.prog 38 #[.int .u64 (v : Nat)] w fun e w' => e = .returned (.int .u64 (keyN v : Nat)) ∧ w = w' := by
  go_enter Try.func38, Try.ntmps38
  go_wp2_with fail
  refine (rneg_any v w hv).mono ?_
  rintro e w1 ⟨rfl, rfl⟩
  cases hn : negN v with
  | true =>
    have h : (9223372036854775807 - (v : Int) % 9223372036854775808) = keyN v := by simp [negN] at hn; unfold keyN; rw [if_neg (by omega)]; omega
    go_wp2
    go_ret
    exact ⟨rfl, rfl⟩
  | false =>
    have h : IntKind.u64.wrap (9223372036854775808 + (v : Int)) = keyN v := by simp [negN] at hn; unfold keyN; rw [if_pos (by omega), wrapU]; omega
    go_wp2
    go_ret
    exact ⟨rfl, rfl⟩
theorem order_any (a b : Nat) (w : World) (ha : a < 18446744073709551616) (hb : b < 18446744073709551616) : Calls Try.prog 18 #[.int .u64 (a : Nat), .int .u64 (b : Nat)] w fun e w' => e = .returned (.int .i64 (ordN a b)) ∧ w = w' := by
  by_cases h1 : keyN a < keyN b
  · rw [show ordN a b = -1 from if_pos h1]
    have d1 : decide ((keyN a : Int) < (keyN b : Int)) = true := by simp; omega
    go_enter Try.func18, Try.ntmps18
    go_wp2_with fail
    refine (place_any a w ha).mono ?_
    rintro e w1 ⟨rfl, rfl⟩
    go_wp2_with fail
    refine (place_any b w hb).mono ?_
    rintro e w1 ⟨rfl, rfl⟩
    go_wp2
    go_ret
    exact ⟨rfl, rfl⟩
  · have d1 : decide ((keyN a : Int) < (keyN b : Int)) = false := by simp; omega
    by_cases h2 : keyN b < keyN a
    · rw [show ordN a b = 1 by unfold ordN; rw [if_neg h1, if_pos h2]]
      have d2 : decide ((keyN b : Int) < (keyN a : Int)) = true := by simp; omega
      go_enter Try.func18, Try.ntmps18
      go_wp2_with fail
      refine (place_any a w ha).mono ?_
      rintro e w1 ⟨rfl, rfl⟩
      go_wp2_with fail
      refine (place_any b w hb).mono ?_
      rintro e w1 ⟨rfl, rfl⟩
      go_wp2
      go_ret
      exact ⟨rfl, rfl⟩
    · rw [show ordN a b = 0 by unfold ordN; rw [if_neg h1, if_neg h2]]
      have d2 : decide ((keyN b : Int) < (keyN a : Int)) = false := by simp; omega
      go_enter Try.func18, Try.ntmps18
      go_wp2_with fail
      refine (place_any a w ha).mono ?_
      rintro e w1 ⟨rfl, rfl⟩
      go_wp2_with fail
      refine (place_any b w hb).mono ?_
      rintro e w1 ⟨rfl, rfl⟩
      go_wp2
      go_ret
      exact ⟨rfl, rfl⟩
theorem rorder_any (a b : Nat) (w : World) (ha : a < 18446744073709551616) (hb : b < 18446744073709551616) : Calls Try.prog 19 #[.int .u64 (a : Nat), .int .u64 (b : Nat)] w fun e w' => e = .returned (.int .i64 (ordN a b)) ∧ w = w' := by
  by_cases h1 : keyN a < keyN b
  · rw [show ordN a b = -1 from if_pos h1]
    have d1 : decide ((keyN a : Int) < (keyN b : Int)) = true := by simp; omega
    go_enter Try.func19, Try.ntmps19
    go_wp2_with fail
    refine (key_any a w ha).mono ?_
    rintro e w1 ⟨rfl, rfl⟩
    go_wp2_with fail
    refine (key_any b w hb).mono ?_
    rintro e w1 ⟨rfl, rfl⟩
    go_wp2
    go_ret
    exact ⟨rfl, rfl⟩
  · have d1 : decide ((keyN a : Int) < (keyN b : Int)) = false := by simp; omega
    by_cases h2 : keyN b < keyN a
    · rw [show ordN a b = 1 by unfold ordN; rw [if_neg h1, if_pos h2]]
      have d2 : decide ((keyN b : Int) < (keyN a : Int)) = true := by simp; omega
      go_enter Try.func19, Try.ntmps19
      go_wp2_with fail
      refine (key_any a w ha).mono ?_
      rintro e w1 ⟨rfl, rfl⟩
      go_wp2_with fail
      refine (key_any b w hb).mono ?_
      rintro e w1 ⟨rfl, rfl⟩
      go_wp2_with fail
      refine (key_any a w ha).mono ?_
      rintro e w1 ⟨rfl, rfl⟩
      go_wp2_with fail
      refine (key_any b w hb).mono ?_
      rintro e w1 ⟨rfl, rfl⟩
      go_wp2
      go_ret
      exact ⟨rfl, rfl⟩
    · rw [show ordN a b = 0 by unfold ordN; rw [if_neg h1, if_neg h2]]
      have d2 : decide ((keyN b : Int) < (keyN a : Int)) = false := by simp; omega
      go_enter Try.func19, Try.ntmps19
      go_wp2_with fail
      refine (key_any a w ha).mono ?_
      rintro e w1 ⟨rfl, rfl⟩
      go_wp2_with fail
      refine (key_any b w hb).mono ?_
      rintro e w1 ⟨rfl, rfl⟩
      go_wp2_with fail
      refine (key_any a w ha).mono ?_
      rintro e w1 ⟨rfl, rfl⟩
      go_wp2_with fail
      refine (key_any b w hb).mono ?_
      rintro e w1 ⟨rfl, rfl⟩
      go_wp2
      go_ret
      exact ⟨rfl, rfl⟩
theorem kind_0 {v : Nat} (h : v = 9218868437227405314) : kindN v = 1 := if_pos h
theorem kind_1 {v : Nat} (h : v ≠ 9218868437227405314) (h1 : nanB v = true) : kindN v = 0 := by unfold kindN; rw [if_neg h, if_pos h1]
theorem kind_2 {v : Nat} (h : v ≠ 9218868437227405314) (h1 : nanB v = false) (h2 : infB v = true) : kindN v = 2 := by unfold kindN; rw [if_neg h, if_neg (by rw [h1]; decide), if_pos h2]
theorem kind_3 {v : Nat} (h : v ≠ 9218868437227405314) (h1 : nanB v = false) (h2 : infB v = false) (h3 : v % 9223372036854775808 = 0) : kindN v = 3 := by unfold kindN; rw [if_neg h, if_neg (by rw [h1]; decide), if_neg (by rw [h2]; decide), if_pos h3]
theorem kind_4 {v : Nat} (h : v ≠ 9218868437227405314) (h1 : nanB v = false) (h2 : infB v = false) (h3 : ¬ v % 9223372036854775808 = 0) (h4 : v % 9223372036854775808 < 4503599627370496) : kindN v = 4 := by unfold kindN; rw [if_neg h, if_neg (by rw [h1]; decide), if_neg (by rw [h2]; decide), if_neg h3, if_pos h4]
theorem kind_5 {v : Nat} (h : v ≠ 9218868437227405314) (h1 : nanB v = false) (h2 : infB v = false) (h3 : ¬ v % 9223372036854775808 = 0) (h4 : ¬ v % 9223372036854775808 < 4503599627370496) : kindN v = 5 := by unfold kindN; rw [if_neg h, if_neg (by rw [h1]; decide), if_neg (by rw [h2]; decide), if_neg h3, if_neg h4]
theorem kind_any (v : Nat) (w : World) (hv : v < 18446744073709551616) : Calls Try.prog 14 #[.int .u64 (v : Nat)] w fun e w' => e = .returned (.int .i64 (kindN v)) ∧ w = w' := by
  by_cases q0 : v = 9218868437227405314
  · rw [kind_0 q0]
    have hb := bits_andNot_top v hv
    obtain ⟨r, hr⟩ : ∃ r, r = v % 9223372036854775808 := ⟨_, rfl⟩
    rw [← hr] at hb
    have d0 : ((v : Int) == 9218868437227405314) = true := by rw [beq_iff_eq]; omega
    clear hr q0
    go_enter Try.func14, Try.ntmps14
    go_wp2
    go_ret
    exact ⟨rfl, rfl⟩
  · skip
    by_cases q1 : nanB v = true
    · rw [kind_1 q0 q1]
      have hb := bits_andNot_top v hv
      have n1 : nanB v = decide (9218868437227405312 < v % 9223372036854775808) := rfl
      have n2 : infB v = decide (v % 9223372036854775808 = 9218868437227405312) := rfl
      rw [n1] at q1
      simp only [decide_eq_true_eq, Bool.not_eq_true] at q1
      obtain ⟨r, hr⟩ : ∃ r, r = v % 9223372036854775808 := ⟨_, rfl⟩
      rw [← hr] at hb q1
      have d0 : ((v : Int) == 9218868437227405314) = false := by rw [beq_eq_false_iff_ne]; omega
      have d1 : decide (9218868437227405312 < (r : Int)) = true := by rw [decide_eq_true_eq]; omega
      clear hr  n1 n2 q0 q1
      go_enter Try.func14, Try.ntmps14
      go_wp2
      go_ret
      exact ⟨rfl, rfl⟩
    · skip
      by_cases q2 : infB v = true
      · rw [kind_2 q0 (by simpa using q1) q2]
        have hb := bits_andNot_top v hv
        have n1 : nanB v = decide (9218868437227405312 < v % 9223372036854775808) := rfl
        have n2 : infB v = decide (v % 9223372036854775808 = 9218868437227405312) := rfl
        rw [n1] at q1
        rw [n2] at q2
        simp only [decide_eq_true_eq, Bool.not_eq_true] at q1 q2
        obtain ⟨r, hr⟩ : ∃ r, r = v % 9223372036854775808 := ⟨_, rfl⟩
        rw [← hr] at hb q1 q2
        have d0 : ((v : Int) == 9218868437227405314) = false := by rw [beq_eq_false_iff_ne]; omega
        have d1 : decide (9218868437227405312 < (r : Int)) = false := by rw [decide_eq_false_iff_not]; omega
        have d2 : ((r : Int) == 9218868437227405312) = true := by rw [beq_iff_eq]; omega
        clear hr  n1 n2 q0 q1 q2
        go_enter Try.func14, Try.ntmps14
        go_wp2
        go_ret
        exact ⟨rfl, rfl⟩
      · skip
        by_cases q3 : v % 9223372036854775808 = 0
        · rw [kind_3 q0 (by simpa using q1) (by simpa using q2) q3]
          have hb := bits_andNot_top v hv
          have n1 : nanB v = decide (9218868437227405312 < v % 9223372036854775808) := rfl
          have n2 : infB v = decide (v % 9223372036854775808 = 9218868437227405312) := rfl
          rw [n1] at q1
          rw [n2] at q2
          simp only [decide_eq_true_eq, Bool.not_eq_true] at q1 q2
          obtain ⟨r, hr⟩ : ∃ r, r = v % 9223372036854775808 := ⟨_, rfl⟩
          rw [← hr] at hb q1 q2 q3
          have d0 : ((v : Int) == 9218868437227405314) = false := by rw [beq_eq_false_iff_ne]; omega
          have d1 : decide (9218868437227405312 < (r : Int)) = false := by rw [decide_eq_false_iff_not]; omega
          have d2 : ((r : Int) == 9218868437227405312) = false := by rw [beq_eq_false_iff_ne]; omega
          have d3 : ((r : Int) == 0) = true := by rw [beq_iff_eq]; omega
          clear hr  n1 n2 q0 q1 q2 q3
          go_enter Try.func14, Try.ntmps14
          go_wp2
          go_ret
          exact ⟨rfl, rfl⟩
        · skip
          by_cases q4 : v % 9223372036854775808 < 4503599627370496
          · rw [kind_4 q0 (by simpa using q1) (by simpa using q2) q3 q4]
            have hb := bits_andNot_top v hv
            have n1 : nanB v = decide (9218868437227405312 < v % 9223372036854775808) := rfl
            have n2 : infB v = decide (v % 9223372036854775808 = 9218868437227405312) := rfl
            rw [n1] at q1
            rw [n2] at q2
            simp only [decide_eq_true_eq, Bool.not_eq_true] at q1 q2
            obtain ⟨r, hr⟩ : ∃ r, r = v % 9223372036854775808 := ⟨_, rfl⟩
            rw [← hr] at hb q1 q2 q3 q4
            have d0 : ((v : Int) == 9218868437227405314) = false := by rw [beq_eq_false_iff_ne]; omega
            have d1 : decide (9218868437227405312 < (r : Int)) = false := by rw [decide_eq_false_iff_not]; omega
            have d2 : ((r : Int) == 9218868437227405312) = false := by rw [beq_eq_false_iff_ne]; omega
            have d3 : ((r : Int) == 0) = false := by rw [beq_eq_false_iff_ne]; omega
            have d4 : decide ((r : Int) < 4503599627370496) = true := by rw [decide_eq_true_eq]; omega
            clear hr  n1 n2 q0 q1 q2 q3 q4
            go_enter Try.func14, Try.ntmps14
            go_wp2
            go_ret
            exact ⟨rfl, rfl⟩
          · skip
            rw [kind_5 q0 (by simpa using q1) (by simpa using q2) q3 q4]
            have hb := bits_andNot_top v hv
            have n1 : nanB v = decide (9218868437227405312 < v % 9223372036854775808) := rfl
            have n2 : infB v = decide (v % 9223372036854775808 = 9218868437227405312) := rfl
            rw [n1] at q1
            rw [n2] at q2
            simp only [decide_eq_true_eq, Bool.not_eq_true] at q1 q2
            obtain ⟨r, hr⟩ : ∃ r, r = v % 9223372036854775808 := ⟨_, rfl⟩
            rw [← hr] at hb q1 q2 q3 q4
            have d0 : ((v : Int) == 9218868437227405314) = false := by rw [beq_eq_false_iff_ne]; omega
            have d1 : decide (9218868437227405312 < (r : Int)) = false := by rw [decide_eq_false_iff_not]; omega
            have d2 : ((r : Int) == 9218868437227405312) = false := by rw [beq_eq_false_iff_ne]; omega
            have d3 : ((r : Int) == 0) = false := by rw [beq_eq_false_iff_ne]; omega
            have d4 : decide ((r : Int) < 4503599627370496) = false := by rw [decide_eq_false_iff_not]; omega
            clear hr  n1 n2 q0 q1 q2 q3 q4
            go_enter Try.func14, Try.ntmps14
            go_wp2
            go_ret
            exact ⟨rfl, rfl⟩
theorem rkind_any (v : Nat) (w : World) (hv : v < 18446744073709551616) : Calls Try.prog 15 #[.int .u64 (v : Nat)] w fun e w' => e = .returned (.int .i64 (kindN v)) ∧ w = w' := by
  by_cases q0 : v = 9218868437227405314
  · rw [kind_0 q0]
    have hz : (IntKind.u64.wrap ((v : Int) * 2) == 0) = decide (v % 9223372036854775808 = 0) := by rw [wrapU, Bool.beq_eq_decide_eq]; apply decide_eq_decide.2; omega
    have ht : decide (IntKind.u64.wrap ((v : Int) * 2) < 9007199254740992) = decide (v % 9223372036854775808 < 4503599627370496) := by rw [wrapU]; apply decide_eq_decide.2; omega
    have d0 : ((v : Int) == 9218868437227405314) = true := by rw [beq_iff_eq]; omega
    clear q0 ht hz
    go_enter Try.func15, Try.ntmps15
    go_wp2
    go_ret
    exact ⟨rfl, rfl⟩
  · skip
    by_cases q1 : nanB v = true
    · rw [kind_1 q0 q1]
      have hz : (IntKind.u64.wrap ((v : Int) * 2) == 0) = decide (v % 9223372036854775808 = 0) := by rw [wrapU, Bool.beq_eq_decide_eq]; apply decide_eq_decide.2; omega
      have ht : decide (IntKind.u64.wrap ((v : Int) * 2) < 9007199254740992) = decide (v % 9223372036854775808 < 4503599627370496) := by rw [wrapU]; apply decide_eq_decide.2; omega
      have d0 : ((v : Int) == 9218868437227405314) = false := by rw [beq_eq_false_iff_ne]; omega
      clear q0 ht hz
      go_enter Try.func15, Try.ntmps15
      go_wp2_with fail
      refine (nan_any v w).mono ?_
      rintro e w1 ⟨rfl, rfl⟩
      rw [show nanB v = true by simpa using q1]
      go_wp2
      go_ret
      exact ⟨rfl, rfl⟩
    · skip
      by_cases q2 : infB v = true
      · rw [kind_2 q0 (by simpa using q1) q2]
        have hz : (IntKind.u64.wrap ((v : Int) * 2) == 0) = decide (v % 9223372036854775808 = 0) := by rw [wrapU, Bool.beq_eq_decide_eq]; apply decide_eq_decide.2; omega
        have ht : decide (IntKind.u64.wrap ((v : Int) * 2) < 9007199254740992) = decide (v % 9223372036854775808 < 4503599627370496) := by rw [wrapU]; apply decide_eq_decide.2; omega
        have d0 : ((v : Int) == 9218868437227405314) = false := by rw [beq_eq_false_iff_ne]; omega
        clear q0 ht hz
        go_enter Try.func15, Try.ntmps15
        go_wp2_with fail
        refine (nan_any v w).mono ?_
        rintro e w1 ⟨rfl, rfl⟩
        rw [show nanB v = false by simpa using q1]
        go_wp2_with fail
        refine (inf_any v w).mono ?_
        rintro e w1 ⟨rfl, rfl⟩
        rw [show infB v = true by simpa using q2]
        go_wp2
        go_ret
        exact ⟨rfl, rfl⟩
      · skip
        by_cases q3 : v % 9223372036854775808 = 0
        · rw [kind_3 q0 (by simpa using q1) (by simpa using q2) q3]
          have hz : (IntKind.u64.wrap ((v : Int) * 2) == 0) = decide (v % 9223372036854775808 = 0) := by rw [wrapU, Bool.beq_eq_decide_eq]; apply decide_eq_decide.2; omega
          have ht : decide (IntKind.u64.wrap ((v : Int) * 2) < 9007199254740992) = decide (v % 9223372036854775808 < 4503599627370496) := by rw [wrapU]; apply decide_eq_decide.2; omega
          have d0 : ((v : Int) == 9218868437227405314) = false := by rw [beq_eq_false_iff_ne]; omega
          rw [decide_eq_true q3] at hz
          clear q0 q3 ht
          go_enter Try.func15, Try.ntmps15
          go_wp2_with fail
          refine (nan_any v w).mono ?_
          rintro e w1 ⟨rfl, rfl⟩
          rw [show nanB v = false by simpa using q1]
          go_wp2_with fail
          refine (inf_any v w).mono ?_
          rintro e w1 ⟨rfl, rfl⟩
          rw [show infB v = false by simpa using q2]
          go_wp2
          go_ret
          exact ⟨rfl, rfl⟩
        · skip
          by_cases q4 : v % 9223372036854775808 < 4503599627370496
          · rw [kind_4 q0 (by simpa using q1) (by simpa using q2) q3 q4]
            have hz : (IntKind.u64.wrap ((v : Int) * 2) == 0) = decide (v % 9223372036854775808 = 0) := by rw [wrapU, Bool.beq_eq_decide_eq]; apply decide_eq_decide.2; omega
            have ht : decide (IntKind.u64.wrap ((v : Int) * 2) < 9007199254740992) = decide (v % 9223372036854775808 < 4503599627370496) := by rw [wrapU]; apply decide_eq_decide.2; omega
            have d0 : ((v : Int) == 9218868437227405314) = false := by rw [beq_eq_false_iff_ne]; omega
            rw [decide_eq_false q3] at hz
            rw [decide_eq_true q4] at ht
            clear q0 q3 q4
            go_enter Try.func15, Try.ntmps15
            go_wp2_with fail
            refine (nan_any v w).mono ?_
            rintro e w1 ⟨rfl, rfl⟩
            rw [show nanB v = false by simpa using q1]
            go_wp2_with fail
            refine (inf_any v w).mono ?_
            rintro e w1 ⟨rfl, rfl⟩
            rw [show infB v = false by simpa using q2]
            go_wp2
            go_ret
            exact ⟨rfl, rfl⟩
          · skip
            rw [kind_5 q0 (by simpa using q1) (by simpa using q2) q3 q4]
            have hz : (IntKind.u64.wrap ((v : Int) * 2) == 0) = decide (v % 9223372036854775808 = 0) := by rw [wrapU, Bool.beq_eq_decide_eq]; apply decide_eq_decide.2; omega
            have ht : decide (IntKind.u64.wrap ((v : Int) * 2) < 9007199254740992) = decide (v % 9223372036854775808 < 4503599627370496) := by rw [wrapU]; apply decide_eq_decide.2; omega
            have d0 : ((v : Int) == 9218868437227405314) = false := by rw [beq_eq_false_iff_ne]; omega
            rw [decide_eq_false q3] at hz
            rw [decide_eq_false q4] at ht
            clear q0 q3 q4
            go_enter Try.func15, Try.ntmps15
            go_wp2_with fail
            refine (nan_any v w).mono ?_
            rintro e w1 ⟨rfl, rfl⟩
            rw [show nanB v = false by simpa using q1]
            go_wp2_with fail
            refine (inf_any v w).mono ?_
            rintro e w1 ⟨rfl, rfl⟩
            rw [show infB v = false by simpa using q2]
            go_wp2
            go_ret
            exact ⟨rfl, rfl⟩
theorem holds_any (cmp : Int) (a b : Nat) (w : World) : Calls Try.prog 20 #[.int .i64 cmp, .int .u64 (a : Nat), .int .u64 (b : Nat)] w fun e w' => e = .returned (.bool (holdsN cmp (FloatKind.f64.format.order a b))) ∧ w = w' := by
  by_cases q0 : cmp = 0
  · subst q0
    go_enter Try.func20, Try.ntmps20
    go_wp2_with fail
    refine (number_any a w).mono ?_
    rintro e w1 ⟨rfl, rfl⟩
    go_wp2_with fail
    refine (number_any b w).mono ?_
    rintro e w1 ⟨rfl, rfl⟩
    go_wp2
    go_ret
    exact ⟨rfl, rfl⟩
  · have d0 : (cmp == 0) = false := by rw [beq_eq_false_iff_ne]; exact q0
    by_cases q1 : cmp = 1
    · subst q1
      go_enter Try.func20, Try.ntmps20
      go_wp2_with fail
      refine (number_any a w).mono ?_
      rintro e w1 ⟨rfl, rfl⟩
      go_wp2_with fail
      refine (number_any b w).mono ?_
      rintro e w1 ⟨rfl, rfl⟩
      go_wp2
      go_ret
      exact ⟨rfl, rfl⟩
    · have d1 : (cmp == 1) = false := by rw [beq_eq_false_iff_ne]; exact q1
      by_cases q2 : cmp = 2
      · subst q2
        go_enter Try.func20, Try.ntmps20
        go_wp2_with fail
        refine (number_any a w).mono ?_
        rintro e w1 ⟨rfl, rfl⟩
        go_wp2_with fail
        refine (number_any b w).mono ?_
        rintro e w1 ⟨rfl, rfl⟩
        go_wp2
        go_ret
        exact ⟨rfl, rfl⟩
      · have d2 : (cmp == 2) = false := by rw [beq_eq_false_iff_ne]; exact q2
        by_cases q3 : cmp = 3
        · subst q3
          go_enter Try.func20, Try.ntmps20
          go_wp2_with fail
          refine (number_any a w).mono ?_
          rintro e w1 ⟨rfl, rfl⟩
          go_wp2_with fail
          refine (number_any b w).mono ?_
          rintro e w1 ⟨rfl, rfl⟩
          go_wp2
          go_ret
          exact ⟨rfl, rfl⟩
        · have d3 : (cmp == 3) = false := by rw [beq_eq_false_iff_ne]; exact q3
          by_cases q4 : cmp = 4
          · subst q4
            go_enter Try.func20, Try.ntmps20
            go_wp2_with fail
            refine (number_any a w).mono ?_
            rintro e w1 ⟨rfl, rfl⟩
            go_wp2_with fail
            refine (number_any b w).mono ?_
            rintro e w1 ⟨rfl, rfl⟩
            go_wp2
            go_ret
            exact ⟨rfl, rfl⟩
          · have d4 : (cmp == 4) = false := by rw [beq_eq_false_iff_ne]; exact q4
            by_cases q5 : cmp = 5
            · subst q5
              go_enter Try.func20, Try.ntmps20
              go_wp2_with fail
              refine (number_any a w).mono ?_
              rintro e w1 ⟨rfl, rfl⟩
              go_wp2_with fail
              refine (number_any b w).mono ?_
              rintro e w1 ⟨rfl, rfl⟩
              go_wp2
              go_ret
              exact ⟨rfl, rfl⟩
            · have d5 : (cmp == 5) = false := by rw [beq_eq_false_iff_ne]; exact q5
              rw [show holdsN cmp (FloatKind.f64.format.order a b) = false by unfold holdsN; simp only [if_neg q0, if_neg q1, if_neg q2, if_neg q3, if_neg q4, if_neg q5]]
              clear q0 q1 q2 q3 q4 q5
              go_enter Try.func20, Try.ntmps20
              go_wp2_with fail
              refine (number_any a w).mono ?_
              rintro e w1 ⟨rfl, rfl⟩
              go_wp2_with fail
              refine (number_any b w).mono ?_
              rintro e w1 ⟨rfl, rfl⟩
              go_wp2
              go_ret
              exact ⟨rfl, rfl⟩
theorem rholds_any (cmp : Int) (a b : Nat) (w : World) : Calls Try.prog 21 #[.int .i64 cmp, .int .u64 (a : Nat), .int .u64 (b : Nat)] w fun e w' => e = .returned (.bool (holdsN cmp (FloatKind.f64.format.order a b))) ∧ w = w' := by
  by_cases q0 : cmp = 0
  · subst q0
    go_enter Try.func21, Try.ntmps21
    go_wp2_with fail
    refine (num_any a w).mono ?_
    rintro e w1 ⟨rfl, rfl⟩
    go_wp2_with fail
    refine (num_any b w).mono ?_
    rintro e w1 ⟨rfl, rfl⟩
    go_wp2
    go_ret
    exact ⟨rfl, rfl⟩
  · have d0 : (cmp == 0) = false := by rw [beq_eq_false_iff_ne]; exact q0
    by_cases q1 : cmp = 1
    · subst q1
      go_enter Try.func21, Try.ntmps21
      go_wp2_with fail
      refine (num_any a w).mono ?_
      rintro e w1 ⟨rfl, rfl⟩
      go_wp2_with fail
      refine (num_any b w).mono ?_
      rintro e w1 ⟨rfl, rfl⟩
      go_wp2
      go_ret
      exact ⟨rfl, rfl⟩
    · have d1 : (cmp == 1) = false := by rw [beq_eq_false_iff_ne]; exact q1
      by_cases q2 : cmp = 2
      · subst q2
        go_enter Try.func21, Try.ntmps21
        go_wp2_with fail
        refine (num_any a w).mono ?_
        rintro e w1 ⟨rfl, rfl⟩
        go_wp2_with fail
        refine (num_any b w).mono ?_
        rintro e w1 ⟨rfl, rfl⟩
        go_wp2
        go_ret
        exact ⟨rfl, rfl⟩
      · have d2 : (cmp == 2) = false := by rw [beq_eq_false_iff_ne]; exact q2
        by_cases q3 : cmp = 3
        · subst q3
          go_enter Try.func21, Try.ntmps21
          go_wp2_with fail
          refine (num_any a w).mono ?_
          rintro e w1 ⟨rfl, rfl⟩
          go_wp2_with fail
          refine (num_any b w).mono ?_
          rintro e w1 ⟨rfl, rfl⟩
          go_wp2
          go_ret
          exact ⟨rfl, rfl⟩
        · have d3 : (cmp == 3) = false := by rw [beq_eq_false_iff_ne]; exact q3
          by_cases q4 : cmp = 4
          · subst q4
            go_enter Try.func21, Try.ntmps21
            go_wp2_with fail
            refine (num_any a w).mono ?_
            rintro e w1 ⟨rfl, rfl⟩
            go_wp2_with fail
            refine (num_any b w).mono ?_
            rintro e w1 ⟨rfl, rfl⟩
            go_wp2
            go_ret
            exact ⟨rfl, rfl⟩
          · have d4 : (cmp == 4) = false := by rw [beq_eq_false_iff_ne]; exact q4
            by_cases q5 : cmp = 5
            · subst q5
              go_enter Try.func21, Try.ntmps21
              go_wp2_with fail
              refine (num_any a w).mono ?_
              rintro e w1 ⟨rfl, rfl⟩
              go_wp2_with fail
              refine (num_any b w).mono ?_
              rintro e w1 ⟨rfl, rfl⟩
              go_wp2
              go_ret
              exact ⟨rfl, rfl⟩
            · have d5 : (cmp == 5) = false := by rw [beq_eq_false_iff_ne]; exact q5
              rw [show holdsN cmp (FloatKind.f64.format.order a b) = false by unfold holdsN; simp only [if_neg q0, if_neg q1, if_neg q2, if_neg q3, if_neg q4, if_neg q5]]
              clear q0 q1 q2 q3 q4 q5
              go_enter Try.func21, Try.ntmps21
              go_wp2_with fail
              refine (num_any a w).mono ?_
              rintro e w1 ⟨rfl, rfl⟩
              go_wp2_with fail
              refine (num_any b w).mono ?_
              rintro e w1 ⟨rfl, rfl⟩
              go_wp2
              go_ret
              exact ⟨rfl, rfl⟩
end
end Go.Proofs.Ytlaodfkcfclpmaa
