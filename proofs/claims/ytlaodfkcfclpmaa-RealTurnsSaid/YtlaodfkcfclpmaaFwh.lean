/-
  Which whole number a value is, and what is done with one value: contracts of both sides.
-/
import Derived.Test.YtlaodfkcfclpmaaFey
import Derived.Test.YtlaodfkcfclpmaaFlv
namespace Go.Proofs.Ytlaodfkcfclpmaa
set_option linter.unusedVariables false
set_option linter.unusedSimpArgs false
open Go.RowKit

def wholeR (v : Nat) : Int × Bool :=
  if nanB v || lowB v || highB v then (0, false) else
  match FloatKind.f64.format.read v with
  | .number s m e => if wholeD m e then (cutZ s m e, true) else (0, false)
  | _ => (0, false)
section
set_option maxHeartbeats 1600000
set_option maxRecDepth 100000
theorem whole_nan (v : Nat) (w : World) (hn : nanB v = true) :
    Calls Try.prog 24 #[.int .u64 (v : Nat)] w fun e w' => e = .returned (.tuple #[.int .i64 (0), .bool false]) ∧ ∃ n, w' = w.drewN n := by
  have HN := Lib.hid hn; clear hn
  go_enter Try.func24, Try.ntmps24
  go_wp2_with fail
  refine (number_any v w).mono ?_
  rintro e w1 ⟨rfl, rfl⟩
  go_wp2_with fail
  refine (trunc_nan v w HN.out).mono ?_
  rintro e w1 ⟨r, n, rfl, rfl, hr⟩
  have hc : (FloatKind.f64.format.order v r != some .eq) = true := by rw [order_left r HN.out]; rfl
  go_wp2
  go_ret2
  exact ⟨rfl, n, rfl⟩
theorem whole_c (v : Nat) (w : World) (hn : nanB v = false) (hc : (FloatKind.f64.format.order v (intN .zero v) != some .eq) = true) :
    Calls Try.prog 24 #[.int .u64 (v : Nat)] w fun e w' => e = .returned (.tuple #[.int .i64 (0), .bool false]) ∧ ∃ n, w' = w.drewN n := by
  have HN := Lib.hid hn; clear hn
  generalize hr : intN .zero v = r at *
  have HR := Lib.hid hr; clear hr
  go_enter Try.func24, Try.ntmps24
  go_wp2_with fail
  refine (number_any v w).mono ?_
  rintro e w1 ⟨rfl, rfl⟩
  go_wp2_with fail
  refine (trunc_num v w HN.out).mono ?_
  rintro e w1 ⟨rfl, rfl⟩
  rw [HR.out]
  go_wp2
  go_ret2
  exact ⟨rfl, 0, rfl⟩
theorem whole_lo (v : Nat) (w : World) (hn : nanB v = false) (hc : (FloatKind.f64.format.order v (intN .zero v) != some .eq) = false) (hlo : (FloatKind.f64.format.order v 14114281232179134464 == some .lt) = true) :
    Calls Try.prog 24 #[.int .u64 (v : Nat)] w fun e w' => e = .returned (.tuple #[.int .i64 (0), .bool false]) ∧ ∃ n, w' = w.drewN n := by
  have HN := Lib.hid hn; clear hn
  generalize hr : intN .zero v = r at *
  have HR := Lib.hid hr; clear hr
  go_enter Try.func24, Try.ntmps24
  go_wp2_with fail
  refine (number_any v w).mono ?_
  rintro e w1 ⟨rfl, rfl⟩
  go_wp2_with fail
  refine (trunc_num v w HN.out).mono ?_
  rintro e w1 ⟨rfl, rfl⟩
  rw [HR.out]
  go_wp2
  go_ret2
  exact ⟨rfl, 0, rfl⟩
theorem whole_hi (v : Nat) (w : World) (hn : nanB v = false) (hc : (FloatKind.f64.format.order v (intN .zero v) != some .eq) = false) (hlo : (FloatKind.f64.format.order v 14114281232179134464 == some .lt) = false) (hhi : (FloatKind.f64.format.order v 4890909195324358656 == some .gt || FloatKind.f64.format.order v 4890909195324358656 == some .eq) = true) :
    Calls Try.prog 24 #[.int .u64 (v : Nat)] w fun e w' => e = .returned (.tuple #[.int .i64 (0), .bool false]) ∧ ∃ n, w' = w.drewN n := by
  have HN := Lib.hid hn; clear hn
  generalize hr : intN .zero v = r at *
  have HR := Lib.hid hr; clear hr
  go_enter Try.func24, Try.ntmps24
  go_wp2_with fail
  refine (number_any v w).mono ?_
  rintro e w1 ⟨rfl, rfl⟩
  go_wp2_with fail
  refine (trunc_num v w HN.out).mono ?_
  rintro e w1 ⟨rfl, rfl⟩
  rw [HR.out]
  go_wp2
  go_ret2
  exact ⟨rfl, 0, rfl⟩
theorem whole_yes (v : Nat) (w : World) (hn : nanB v = false) (hc : (FloatKind.f64.format.order v (intN .zero v) != some .eq) = false) (hlo : (FloatKind.f64.format.order v 14114281232179134464 == some .lt) = false) (hhi : (FloatKind.f64.format.order v 4890909195324358656 == some .gt || FloatKind.f64.format.order v 4890909195324358656 == some .eq) = false) (k : Int) (hk : floatToIntVal .f64 v .i64 = some k) :
    Calls Try.prog 24 #[.int .u64 (v : Nat)] w fun e w' => e = .returned (.tuple #[.int .i64 (k), .bool true]) ∧ ∃ n, w' = w.drewN n := by
  have h5 := fun w => run_convert_float_int (P := Try.prog) w 44 2 .f64 .i64 v k (by kernel_rfl) Try.underlying2 hk
  clear hk
  have HN := Lib.hid hn; clear hn
  generalize hr : intN .zero v = r at *
  have HR := Lib.hid hr; clear hr
  go_enter Try.func24, Try.ntmps24
  go_wp2_with fail
  refine (number_any v w).mono ?_
  rintro e w1 ⟨rfl, rfl⟩
  go_wp2_with fail
  refine (trunc_num v w HN.out).mono ?_
  rintro e w1 ⟨rfl, rfl⟩
  rw [HR.out]
  go_wp2
  go_ret2
  exact ⟨rfl, 0, rfl⟩
theorem whole_any (v : Nat) (w : World) (hv : v < 18446744073709551616) :
    Calls Try.prog 24 #[.int .u64 (v : Nat)] w fun e w' => e = .returned (.tuple #[.int .i64 (wholeR v).1, .bool (wholeR v).2]) ∧ ∃ n, w' = w.drewN n := by
  cases hn : nanB v with
  | true => rw [show wholeR v = (0, false) by unfold wholeR; rw [hn]; rfl]; exact whole_nan v w hn
  | false =>
    cases hl : lowB v with
    | true =>
      rw [show wholeR v = (0, false) by unfold wholeR; rw [hn, hl]; rfl]
      cases hc : (FloatKind.f64.format.order v (intN .zero v) != some .eq) with
      | true => exact whole_c v w hn hc
      | false => exact whole_lo v w hn hc hl
    | false =>
      cases hh : highB v with
      | true =>
        rw [show wholeR v = (0, false) by unfold wholeR; rw [hn, hl, hh]; rfl]
        cases hc : (FloatKind.f64.format.order v (intN .zero v) != some .eq) with
        | true => exact whole_c v w hn hc
        | false => exact whole_hi v w hn hc hl hh
      | false =>
        obtain ⟨s, m, e, hr⟩ := fin_read hn hl hh
        have ho := order_int .zero hv hn hr
        cases hd : wholeD m e with
        | true =>
          rw [show wholeR v = (cutZ s m e, true) by unfold wholeR; rw [hn, hl, hh, hr]; simp [hd]]
          rw [hd] at ho
          exact whole_yes v w hn (by rw [bne, ho]; rfl) hl hh _ (toInt_num hv hr hl hh)
        | false =>
          rw [show wholeR v = (0, false) by unfold wholeR; rw [hn, hl, hh, hr]; simp [hd]]
          rw [hd] at ho
          exact whole_c v w hn (by rw [bne, ho]; rfl)
theorem rwhole_nan (v : Nat) (w : World) (hn : nanB v = true) :
    Calls Try.prog 25 #[.int .u64 (v : Nat)] w fun e w' => e = .returned (.tuple #[.int .i64 (0), .bool false]) ∧ ∃ n, w' = w.drewN n := by
  have HN := Lib.hid hn; clear hn
  go_enter Try.func25, Try.ntmps25
  go_wp2_with fail
  refine (num_any v w).mono ?_
  rintro e w1 ⟨rfl, rfl⟩
  go_wp2_with fail
  refine (nan_any v w).mono ?_
  rintro e w1 ⟨rfl, rfl⟩
  rw [HN.out]
  go_wp2
  go_ret2
  exact ⟨rfl, 0, rfl⟩
theorem rwhole_lo (v : Nat) (w : World) (hn : nanB v = false) (hlo : (FloatKind.f64.format.order v 14114281232179134464 == some .lt) = true) :
    Calls Try.prog 25 #[.int .u64 (v : Nat)] w fun e w' => e = .returned (.tuple #[.int .i64 (0), .bool false]) ∧ ∃ n, w' = w.drewN n := by
  have HN := Lib.hid hn; clear hn
  go_enter Try.func25, Try.ntmps25
  go_wp2_with fail
  refine (num_any v w).mono ?_
  rintro e w1 ⟨rfl, rfl⟩
  go_wp2_with fail
  refine (nan_any v w).mono ?_
  rintro e w1 ⟨rfl, rfl⟩
  rw [HN.out]
  go_wp2
  go_ret2
  exact ⟨rfl, 0, rfl⟩
theorem rwhole_hi (v : Nat) (w : World) (hn : nanB v = false) (hlo : (FloatKind.f64.format.order v 14114281232179134464 == some .lt) = false) (hhi : (FloatKind.f64.format.order v 4890909195324358656 == some .gt || FloatKind.f64.format.order v 4890909195324358656 == some .eq) = true) :
    Calls Try.prog 25 #[.int .u64 (v : Nat)] w fun e w' => e = .returned (.tuple #[.int .i64 (0), .bool false]) ∧ ∃ n, w' = w.drewN n := by
  have HN := Lib.hid hn; clear hn
  go_enter Try.func25, Try.ntmps25
  go_wp2_with fail
  refine (num_any v w).mono ?_
  rintro e w1 ⟨rfl, rfl⟩
  go_wp2_with fail
  refine (nan_any v w).mono ?_
  rintro e w1 ⟨rfl, rfl⟩
  rw [HN.out]
  go_wp2
  go_ret2
  exact ⟨rfl, 0, rfl⟩
theorem rwhole_c (v : Nat) (w : World) (hn : nanB v = false) (hlo : (FloatKind.f64.format.order v 14114281232179134464 == some .lt) = false) (hhi : (FloatKind.f64.format.order v 4890909195324358656 == some .gt || FloatKind.f64.format.order v 4890909195324358656 == some .eq) = false) (hc : (FloatKind.f64.format.order (intN .down v) v != some .eq) = true) :
    Calls Try.prog 25 #[.int .u64 (v : Nat)] w fun e w' => e = .returned (.tuple #[.int .i64 (0), .bool false]) ∧ ∃ n, w' = w.drewN n := by
  have HN := Lib.hid hn; clear hn
  generalize hr : intN .down v = r at *
  have HR := Lib.hid hr; clear hr
  go_enter Try.func25, Try.ntmps25
  go_wp2_with fail
  refine (num_any v w).mono ?_
  rintro e w1 ⟨rfl, rfl⟩
  go_wp2_with fail
  refine (nan_any v w).mono ?_
  rintro e w1 ⟨rfl, rfl⟩
  rw [HN.out]
  go_wp2_with fail
  refine (floor_num v w HN.out).mono ?_
  rintro e w1 ⟨rfl, rfl⟩
  rw [HR.out]
  go_wp2
  go_ret2
  exact ⟨rfl, 0, rfl⟩
theorem rwhole_yes (v : Nat) (w : World) (hn : nanB v = false) (hlo : (FloatKind.f64.format.order v 14114281232179134464 == some .lt) = false) (hhi : (FloatKind.f64.format.order v 4890909195324358656 == some .gt || FloatKind.f64.format.order v 4890909195324358656 == some .eq) = false) (hc : (FloatKind.f64.format.order (intN .down v) v != some .eq) = false) (k : Int) (hk : floatToIntVal .f64 v .i64 = some k) :
    Calls Try.prog 25 #[.int .u64 (v : Nat)] w fun e w' => e = .returned (.tuple #[.int .i64 (k), .bool true]) ∧ ∃ n, w' = w.drewN n := by
  have HN := Lib.hid hn; clear hn
  have h5 := fun w => run_convert_float_int (P := Try.prog) w 44 2 .f64 .i64 v k (by kernel_rfl) Try.underlying2 hk
  clear hk
  generalize hr : intN .down v = r at *
  have HR := Lib.hid hr; clear hr
  go_enter Try.func25, Try.ntmps25
  go_wp2_with fail
  refine (num_any v w).mono ?_
  rintro e w1 ⟨rfl, rfl⟩
  go_wp2_with fail
  refine (nan_any v w).mono ?_
  rintro e w1 ⟨rfl, rfl⟩
  rw [HN.out]
  go_wp2_with fail
  refine (floor_num v w HN.out).mono ?_
  rintro e w1 ⟨rfl, rfl⟩
  rw [HR.out]
  go_wp2
  go_ret2
  exact ⟨rfl, 0, rfl⟩
theorem rwhole_any (v : Nat) (w : World) (hv : v < 18446744073709551616) :
    Calls Try.prog 25 #[.int .u64 (v : Nat)] w fun e w' => e = .returned (.tuple #[.int .i64 (wholeR v).1, .bool (wholeR v).2]) ∧ ∃ n, w' = w.drewN n := by
  cases hn : nanB v with
  | true => rw [show wholeR v = (0, false) by unfold wholeR; rw [hn]; rfl]; exact rwhole_nan v w hn
  | false =>
    cases hl : lowB v with
    | true => rw [show wholeR v = (0, false) by unfold wholeR; rw [hn, hl]; rfl]; exact rwhole_lo v w hn hl
    | false =>
      cases hh : highB v with
      | true => rw [show wholeR v = (0, false) by unfold wholeR; rw [hn, hl, hh]; rfl]; exact rwhole_hi v w hn hl hh
      | false =>
        obtain ⟨s, m, e, hr⟩ := fin_read hn hl hh
        have ho := order_int' .down hv hn hr
        cases hd : wholeD m e with
        | true =>
          rw [show wholeR v = (cutZ s m e, true) by unfold wholeR; rw [hn, hl, hh, hr]; simp [hd]]
          rw [hd] at ho
          exact rwhole_yes v w hn hl hh (by rw [bne, ho]; rfl) _ (toInt_num hv hr hl hh)
        | false =>
          rw [show wholeR v = (0, false) by unfold wholeR; rw [hn, hl, hh, hr]; simp [hd]]
          rw [hd] at ho
          exact rwhole_c v w hn hl hh (by rw [bne, ho]; rfl)
/-- What is done with one value. -/
def oneN (op : Int) (v : Nat) : Nat :=
  if op = 0 then tellN (v % 9223372036854775808) else if op = 1 then tellN (flip v) else if op = 2 then toldInt .down v else if op = 3 then toldInt .up v
  else if op = 4 then tellO (sqrtO v) else 9221120237041090561
theorem nan_flip {v : Nat} (hv : v < 18446744073709551616) : nanB (flip v) = nanB v := by unfold nanB flip; apply decide_eq_decide.2; split <;> omega
theorem flip_neg {v : Nat} (hv : v < 18446744073709551616) : Op.negFloat .f64 v = flip v := negFloat_flip v hv
theorem sqrt_none {v : Nat} (h : nanB v = true) : sqrtO v = none := by
  obtain ⟨s, t, hr⟩ := nan_read h
  show Option.map _ (Ieee.Datum.root _ (FloatKind.f64.format.read v)) = none
  rw [hr]; rfl
theorem oneN_0 (v : Nat) : oneN 0 v = tellN (v % 9223372036854775808) := if_pos rfl
theorem oneN_1 (v : Nat) : oneN 1 v = tellN (flip v) := by unfold oneN; rw [if_neg (by decide), if_pos rfl]
theorem oneN_2 (v : Nat) : oneN 2 v = toldInt .down v := by unfold oneN; rw [if_neg (by decide), if_neg (by decide), if_pos rfl]
theorem oneN_3 (v : Nat) : oneN 3 v = toldInt .up v := by unfold oneN; rw [if_neg (by decide), if_neg (by decide), if_neg (by decide), if_pos rfl]
theorem oneN_4 (v : Nat) : oneN 4 v = tellO (sqrtO v) := by unfold oneN; rw [if_neg (by decide), if_neg (by decide), if_neg (by decide), if_neg (by decide), if_pos rfl]
theorem tellN_num {v : Nat} (h : nanB v = false) : tellN v = v := by unfold tellN; exact if_neg (by rw [h]; decide)
theorem oneN_nan {op : Int} {v : Nat} (hv : v < 18446744073709551616) (h : nanB v = true) : oneN op v = 9221120237041090561 := by
  unfold oneN
  split
  · unfold tellN; rw [nan_size, h]; rfl
  · split
    · unfold tellN; rw [nan_flip hv, h]; rfl
    · split
      · unfold toldInt; rw [h]; rfl
      · split
        · unfold toldInt; rw [h]; rfl
        · split
          · rw [sqrt_none h]; rfl
          · rfl
theorem one_0 (v : Nat) (w : World) (hv : v < 18446744073709551616) :
    Calls Try.prog 26 #[.int .i64 0, .int .u64 (v : Nat)] w fun e w' => e = .returned (.int .u64 (tellN (v % 9223372036854775808) : Nat)) ∧ ∃ n, w' = w.drewN n := by
  go_enter Try.func26, Try.ntmps26
  go_wp2_with fail
  refine (number_any v w).mono ?_
  rintro e w1 ⟨rfl, rfl⟩
  go_wp2_with fail
  refine (abs_any v w hv).mono ?_
  rintro e w1 ⟨rfl, rfl⟩
  go_wp2_with fail
  refine (told_any _ _).mono ?_
  rintro e w1 ⟨rfl, rfl⟩
  go_wp2
  go_ret
  exact ⟨rfl, 0, rfl⟩
theorem one_1 (v : Nat) (w : World) (hv : v < 18446744073709551616) :
    Calls Try.prog 26 #[.int .i64 1, .int .u64 (v : Nat)] w fun e w' => e = .returned (.int .u64 (tellN (flip v) : Nat)) ∧ ∃ n, w' = w.drewN n := by
  have hf : ∀ w, (Op.unary .neg (.float .f64 v)).run Try.prog w = .ok (.float .f64 (flip v)) w := fun w => by rw [← negFloat_flip v hv]; rfl
  go_enter Try.func26, Try.ntmps26
  go_wp2_with fail
  refine (number_any v w).mono ?_
  rintro e w1 ⟨rfl, rfl⟩
  go_wp2_with fail
  refine (told_any _ _).mono ?_
  rintro e w1 ⟨rfl, rfl⟩
  go_wp2
  go_ret
  exact ⟨rfl, 0, rfl⟩
theorem one_2 (v : Nat) (w : World) (hv : v < 18446744073709551616) :
    Calls Try.prog 26 #[.int .i64 2, .int .u64 (v : Nat)] w fun e w' => e = .returned (.int .u64 (toldInt .down v : Nat)) ∧ ∃ n, w' = w.drewN n := by
  cases hn : nanB v with
  | true =>
    rw [show toldInt .down v = 9221120237041090561 by unfold toldInt; rw [hn]; rfl]
    have HN := Lib.hid hn; clear hn
    go_enter Try.func26, Try.ntmps26
    go_wp2_with fail
    refine (number_any v w).mono ?_
    rintro e w1 ⟨rfl, rfl⟩
    go_wp2_with fail
    refine (floor_nan v w HN.out).mono ?_
    rintro e w1 ⟨r, n, rfl, rfl, hr⟩
    go_wp2_with fail
    refine (told_any r _).mono ?_
    rintro e w1 ⟨rfl, rfl⟩
    rw [show tellN r = 9221120237041090561 by unfold tellN; rw [hr]; rfl]
    go_wp2
    go_ret
    exact ⟨rfl, n, rfl⟩
  | false =>
    rw [show toldInt .down v = tellN (intN .down v) by unfold toldInt; rw [hn]; rfl]
    have HN := Lib.hid hn; clear hn
    go_enter Try.func26, Try.ntmps26
    go_wp2_with fail
    refine (number_any v w).mono ?_
    rintro e w1 ⟨rfl, rfl⟩
    go_wp2_with fail
    refine (floor_num v w HN.out).mono ?_
    rintro e w1 ⟨rfl, rfl⟩
    go_wp2_with fail
    refine (told_any _ _).mono ?_
    rintro e w1 ⟨rfl, rfl⟩
    go_wp2
    go_ret
    exact ⟨rfl, 0, rfl⟩
theorem rone_2 (v : Nat) (w : World) (hv : v < 18446744073709551616) (hn : nanB v = false) :
    Calls Try.prog 27 #[.int .i64 2, .int .u64 (v : Nat)] w fun e w' => e = .returned (.int .u64 (toldInt .down v : Nat)) ∧ ∃ n, w' = w.drewN n := by
  rw [show toldInt .down v = tellN (intN .down v) by unfold toldInt; rw [hn]; rfl]
  have HN := Lib.hid hn; clear hn
  go_enter Try.func27, Try.ntmps27
  go_wp2_with fail
  refine (nan_any v w).mono ?_
  rintro e w1 ⟨rfl, rfl⟩
  rw [HN.out]
  go_wp2_with fail
  refine (num_any v w).mono ?_
  rintro e w1 ⟨rfl, rfl⟩
  go_wp2_with fail
  refine (floor_num v w HN.out).mono ?_
  rintro e w1 ⟨rfl, rfl⟩
  go_wp2_with fail
  refine (rbits_any _ _).mono ?_
  rintro e w1 ⟨rfl, rfl⟩
  go_wp2
  go_ret
  exact ⟨rfl, 0, rfl⟩
theorem one_3 (v : Nat) (w : World) (hv : v < 18446744073709551616) :
    Calls Try.prog 26 #[.int .i64 3, .int .u64 (v : Nat)] w fun e w' => e = .returned (.int .u64 (toldInt .up v : Nat)) ∧ ∃ n, w' = w.drewN n := by
  cases hn : nanB v with
  | true =>
    rw [show toldInt .up v = 9221120237041090561 by unfold toldInt; rw [hn]; rfl]
    have HN := Lib.hid hn; clear hn
    go_enter Try.func26, Try.ntmps26
    go_wp2_with fail
    refine (number_any v w).mono ?_
    rintro e w1 ⟨rfl, rfl⟩
    go_wp2_with fail
    refine (ceil_nan v w HN.out).mono ?_
    rintro e w1 ⟨r, n, rfl, rfl, hr⟩
    go_wp2_with fail
    refine (told_any r _).mono ?_
    rintro e w1 ⟨rfl, rfl⟩
    rw [show tellN r = 9221120237041090561 by unfold tellN; rw [hr]; rfl]
    go_wp2
    go_ret
    exact ⟨rfl, n, rfl⟩
  | false =>
    rw [show toldInt .up v = tellN (intN .up v) by unfold toldInt; rw [hn]; rfl]
    have HN := Lib.hid hn; clear hn
    go_enter Try.func26, Try.ntmps26
    go_wp2_with fail
    refine (number_any v w).mono ?_
    rintro e w1 ⟨rfl, rfl⟩
    go_wp2_with fail
    refine (ceil_num v w HN.out).mono ?_
    rintro e w1 ⟨rfl, rfl⟩
    go_wp2_with fail
    refine (told_any _ _).mono ?_
    rintro e w1 ⟨rfl, rfl⟩
    go_wp2
    go_ret
    exact ⟨rfl, 0, rfl⟩
theorem rone_3 (v : Nat) (w : World) (hv : v < 18446744073709551616) (hn : nanB v = false) :
    Calls Try.prog 27 #[.int .i64 3, .int .u64 (v : Nat)] w fun e w' => e = .returned (.int .u64 (toldInt .up v : Nat)) ∧ ∃ n, w' = w.drewN n := by
  rw [show toldInt .up v = tellN (intN .up v) by unfold toldInt; rw [hn]; rfl]
  have HN := Lib.hid hn; clear hn
  go_enter Try.func27, Try.ntmps27
  go_wp2_with fail
  refine (nan_any v w).mono ?_
  rintro e w1 ⟨rfl, rfl⟩
  rw [HN.out]
  go_wp2_with fail
  refine (num_any v w).mono ?_
  rintro e w1 ⟨rfl, rfl⟩
  go_wp2_with fail
  refine (ceil_num v w HN.out).mono ?_
  rintro e w1 ⟨rfl, rfl⟩
  go_wp2_with fail
  refine (rbits_any _ _).mono ?_
  rintro e w1 ⟨rfl, rfl⟩
  go_wp2
  go_ret
  exact ⟨rfl, 0, rfl⟩
theorem one_4 (v : Nat) (w : World) (hv : v < 18446744073709551616) :
    Calls Try.prog 26 #[.int .i64 4, .int .u64 (v : Nat)] w fun e w' => e = .returned (.int .u64 (tellO (sqrtO v) : Nat)) ∧ ∃ n, w' = w.drewN n := by
  go_enter Try.func26, Try.ntmps26
  go_wp2_with fail
  refine (number_any v w).mono ?_
  rintro e w1 ⟨rfl, rfl⟩
  go_wp2_with fail
  refine (sqrt_any v w).mono ?_
  rintro e w1 ⟨r, n, rfl, rfl, hr⟩
  go_wp2_with fail
  refine (told_any r _).mono ?_
  rintro e w1 ⟨rfl, rfl⟩
  rw [hr]
  go_wp2
  go_ret
  exact ⟨rfl, _, rfl⟩
theorem one_none (v : Nat) (w : World) (hv : v < 18446744073709551616) (op : Int) (hop : op < 0 ∨ 4 < op) :
    Calls Try.prog 26 #[.int .i64 op, .int .u64 (v : Nat)] w fun e w' => e = .returned (.int .u64 (9221120237041090561 : Nat)) ∧ ∃ n, w' = w.drewN n := by
  have d0 : (op == 0) = false := by rw [beq_eq_false_iff_ne]; omega
  have d1 : (op == 1) = false := by rw [beq_eq_false_iff_ne]; omega
  have d2 : (op == 2) = false := by rw [beq_eq_false_iff_ne]; omega
  have d3 : (op == 3) = false := by rw [beq_eq_false_iff_ne]; omega
  have d4 : (op == 4) = false := by rw [beq_eq_false_iff_ne]; omega
  clear hop
  go_enter Try.func26, Try.ntmps26
  go_wp2_with fail
  refine (number_any v w).mono ?_
  rintro e w1 ⟨rfl, rfl⟩
  go_wp2
  go_ret
  exact ⟨rfl, 0, rfl⟩
theorem rone_nan (v : Nat) (w : World) (hv : v < 18446744073709551616) (op : Int) (hn : nanB v = true) :
    Calls Try.prog 27 #[.int .i64 op, .int .u64 (v : Nat)] w fun e w' => e = .returned (.int .u64 (9221120237041090561 : Nat)) ∧ ∃ n, w' = w.drewN n := by
  have HN := Lib.hid hn; clear hn
  go_enter Try.func27, Try.ntmps27
  go_wp2_with fail
  refine (nan_any v w).mono ?_
  rintro e w1 ⟨rfl, rfl⟩
  rw [HN.out]
  go_wp2
  go_ret
  exact ⟨rfl, 0, rfl⟩
theorem rone_0 (v : Nat) (w : World) (hv : v < 18446744073709551616) (hn : nanB v = false) :
    Calls Try.prog 27 #[.int .i64 0, .int .u64 (v : Nat)] w fun e w' => e = .returned (.int .u64 (tellN (v % 9223372036854775808) : Nat)) ∧ ∃ n, w' = w.drewN n := by
  rw [show tellN (v % 9223372036854775808) = v % 9223372036854775808 from tellN_num (by rw [nan_size, hn])]
  have HN := Lib.hid hn; clear hn
  go_enter Try.func27, Try.ntmps27
  go_wp2_with fail
  refine (nan_any v w).mono ?_
  rintro e w1 ⟨rfl, rfl⟩
  rw [HN.out]
  go_wp2
  go_ret
  exact ⟨rfl, 0, rfl⟩
theorem rone_1 (v : Nat) (w : World) (hv : v < 18446744073709551616) (hn : nanB v = false) :
    Calls Try.prog 27 #[.int .i64 1, .int .u64 (v : Nat)] w fun e w' => e = .returned (.int .u64 (tellN (flip v) : Nat)) ∧ ∃ n, w' = w.drewN n := by
  rw [show tellN (flip v) = flip v from tellN_num (by rw [nan_flip hv, hn])]
  have hf := bits_xor_top v hv
  have HN := Lib.hid hn; clear hn
  go_enter Try.func27, Try.ntmps27
  go_wp2_with fail
  refine (nan_any v w).mono ?_
  rintro e w1 ⟨rfl, rfl⟩
  rw [HN.out]
  go_wp2
  go_ret
  exact ⟨rfl, 0, rfl⟩
theorem rone_4 (v : Nat) (w : World) (hv : v < 18446744073709551616) (hn : nanB v = false) :
    Calls Try.prog 27 #[.int .i64 4, .int .u64 (v : Nat)] w fun e w' => e = .returned (.int .u64 (tellO (sqrtO v) : Nat)) ∧ ∃ n, w' = w.drewN n := by
  have HN := Lib.hid hn; clear hn
  go_enter Try.func27, Try.ntmps27
  go_wp2_with fail
  refine (nan_any v w).mono ?_
  rintro e w1 ⟨rfl, rfl⟩
  rw [HN.out]
  go_wp2_with fail
  refine (num_any v w).mono ?_
  rintro e w1 ⟨rfl, rfl⟩
  go_wp2_with fail
  refine (sqrt_any v w).mono ?_
  rintro e w1 ⟨r, n, rfl, rfl, hr⟩
  go_wp2_with fail
  refine (rbits_any r _).mono ?_
  rintro e w1 ⟨rfl, rfl⟩
  rw [hr]
  go_wp2
  go_ret
  exact ⟨rfl, _, rfl⟩
theorem rone_none (v : Nat) (w : World) (hv : v < 18446744073709551616) (op : Int) (hop : op < 0 ∨ 4 < op) (hn : nanB v = false) :
    Calls Try.prog 27 #[.int .i64 op, .int .u64 (v : Nat)] w fun e w' => e = .returned (.int .u64 (9221120237041090561 : Nat)) ∧ ∃ n, w' = w.drewN n := by
  have d0 : (op == 0) = false := by rw [beq_eq_false_iff_ne]; omega
  have d1 : (op == 1) = false := by rw [beq_eq_false_iff_ne]; omega
  have d2 : (op == 2) = false := by rw [beq_eq_false_iff_ne]; omega
  have d3 : (op == 3) = false := by rw [beq_eq_false_iff_ne]; omega
  have d4 : (op == 4) = false := by rw [beq_eq_false_iff_ne]; omega
  clear hop
  have HN := Lib.hid hn; clear hn
  go_enter Try.func27, Try.ntmps27
  go_wp2_with fail
  refine (nan_any v w).mono ?_
  rintro e w1 ⟨rfl, rfl⟩
  rw [HN.out]
  go_wp2
  go_ret
  exact ⟨rfl, 0, rfl⟩
theorem one_any' (op : Int) (v : Nat) (w : World) (hv : v < 18446744073709551616) :
    Calls Try.prog 26 #[.int .i64 op, .int .u64 (v : Nat)] w fun e w' => e = .returned (.int .u64 (oneN op v : Nat)) ∧ ∃ n, w' = w.drewN n := by
  by_cases h : op < 0 ∨ 4 < op
  · rw [show oneN op v = 9221120237041090561 by unfold oneN; rw [if_neg (by omega), if_neg (by omega), if_neg (by omega), if_neg (by omega), if_neg (by omega)]]
    exact one_none v w hv op h
  · rcases (by omega : op = 0 ∨ op = 1 ∨ op = 2 ∨ op = 3 ∨ op = 4) with rfl | rfl | rfl | rfl | rfl
    · rw [oneN_0]; exact one_0 v w hv
    · rw [oneN_1]; exact one_1 v w hv
    · rw [oneN_2]; exact one_2 v w hv
    · rw [oneN_3]; exact one_3 v w hv
    · rw [oneN_4]; exact one_4 v w hv
theorem rone_any' (op : Int) (v : Nat) (w : World) (hv : v < 18446744073709551616) (hn : nanB v = false) :
    Calls Try.prog 27 #[.int .i64 op, .int .u64 (v : Nat)] w fun e w' => e = .returned (.int .u64 (oneN op v : Nat)) ∧ ∃ n, w' = w.drewN n := by
  by_cases h : op < 0 ∨ 4 < op
  · rw [show oneN op v = 9221120237041090561 by unfold oneN; rw [if_neg (by omega), if_neg (by omega), if_neg (by omega), if_neg (by omega), if_neg (by omega)]]
    exact rone_none v w hv op h hn
  · rcases (by omega : op = 0 ∨ op = 1 ∨ op = 2 ∨ op = 3 ∨ op = 4) with rfl | rfl | rfl | rfl | rfl
    · rw [oneN_0]; exact rone_0 v w hv hn
    · rw [oneN_1]; exact rone_1 v w hv hn
    · rw [oneN_2]; exact rone_2 v w hv hn
    · rw [oneN_3]; exact rone_3 v w hv hn
    · rw [oneN_4]; exact rone_4 v w hv hn
theorem rone_any'' (op : Int) (v : Nat) (w : World) (hv : v < 18446744073709551616) :
    Calls Try.prog 27 #[.int .i64 op, .int .u64 (v : Nat)] w fun e w' => e = .returned (.int .u64 (oneN op v : Nat)) ∧ ∃ n, w' = w.drewN n := by
  cases hn : nanB v with
  | true => rw [oneN_nan hv hn]; exact rone_nan v w hv op hn
  | false => exact rone_any' op v w hv hn
end
end Go.Proofs.Ytlaodfkcfclpmaa
