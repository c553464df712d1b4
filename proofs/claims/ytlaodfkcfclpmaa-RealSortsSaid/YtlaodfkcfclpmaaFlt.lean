/-
  Values and their numbers: what is no number, how a number is told as a value; small contracts of both sides.
-/
import Derived.Test.YtlaodfkcfclpmaaGen
import Derived.Test.YtlaodfkcfclpmaaFlb
import Derived.Laws.FloatArith
import Derived.Laws.Externs
namespace Go.Proofs.Ytlaodfkcfclpmaa
set_option linter.unusedVariables false
set_option linter.unusedSimpArgs false
open Go.RowKit

/-- Are these the bits of what is no number? -/
def nanB (v : Nat) : Bool := decide (9218868437227405312 < v % 9223372036854775808)
def infB (v : Nat) : Bool := decide (v % 9223372036854775808 = 9218868437227405312)
def tellN (r : Nat) : Nat := if nanB r then 9221120237041090561 else r
/-- What an operation tells as a value. -/
def tellO : Option Nat → Nat
  | none => 9221120237041090561
  | some r => tellN r

theorem read_eq (v : Nat) : FloatKind.f64.format.read v =
    (if v % 9223372036854775808 < 4503599627370496 then .number (v / 9223372036854775808 % 2 == 1) (v % 9223372036854775808) (-1074)
    else if v % 9223372036854775808 < 9218868437227405312 then .number (v / 9223372036854775808 % 2 == 1) (4503599627370496 + v % 9223372036854775808 % 4503599627370496) (-1074 + ((v % 9223372036854775808 / 4503599627370496 - 1 : Nat) : Int))
    else if v % 9223372036854775808 = 9218868437227405312 then .infinity (v / 9223372036854775808 % 2 == 1)
    else .nan (v / 9223372036854775808 % 2 == 1) (v % 9223372036854775808 - 9218868437227405312)) := rfl

theorem order_self (v : Nat) : FloatKind.f64.format.order v v = if nanB v then none else some .eq := by
  have e : FloatKind.f64.format.order v v = (FloatKind.f64.format.read v).order (FloatKind.f64.format.read v) := rfl
  rw [e, read_eq]
  unfold nanB
  split
  · rw [if_neg (by simp; omega)]; simp [Ieee.Datum.order]
  · split
    · rw [if_neg (by simp; omega)]; simp [Ieee.Datum.order]
    · split
      · rw [if_neg (by simp; omega)]; simp [Ieee.Datum.order]
      · rw [if_pos (by simp; omega)]; simp [Ieee.Datum.order]
theorem nan_ne (v : Nat) : (FloatKind.f64.format.order v v != some .eq) = nanB v := by
  rw [order_self]; cases nanB v <;> rfl

section
set_option maxHeartbeats 800000
set_option maxRecDepth 100000
@[go_sem] theorem run_f2b (b : Nat) (w : World) : (callFunc 53 #[.float .f64 b]).run Try.prog w = .ok (.value (.int .u64 (b : Int))) w := by
  rw [run_callFunc_extern (e := Extern.MathFloatBits.float64bits) Try.func53 (by kernel_rfl) (by kernel_rfl) (by kernel_rfl) (by kernel_rfl)]; rfl
@[go_sem] theorem run_b2f (b : Int) (w : World) : (callFunc 57 #[.int .u64 b]).run Try.prog w = .ok (.value (.float .f64 b.toNat)) w := by
  rw [run_callFunc_extern (e := Extern.MathFloatBits.float64frombits) Try.func57 (by kernel_rfl) (by kernel_rfl) (by kernel_rfl) (by kernel_rfl)]; rfl
theorem isnan_any (v : Nat) (w : World) : Calls Try.prog 58 #[.float .f64 v] w fun e w' => e = .returned (.bool (nanB v)) ∧ w = w' := by
  have hn := nan_ne v
  go_enter Try.func58, Try.ntmps58
  go_wp2
  go_ret
  exact ⟨rfl, rfl⟩
theorem number_any (v : Nat) (w : World) : Calls Try.prog 39 #[.int .u64 (v : Nat)] w fun e w' => e = .returned (.float .f64 v) ∧ w = w' := by
  go_enter Try.func39, Try.ntmps39
  go_wp2
  go_ret
  exact ⟨rfl, rfl⟩
theorem num_any (v : Nat) (w : World) : Calls Try.prog 40 #[.int .u64 (v : Nat)] w fun e w' => e = .returned (.float .f64 v) ∧ w = w' := by
  go_enter Try.func40, Try.ntmps40
  go_wp2
  go_ret
  exact ⟨rfl, rfl⟩
theorem told_any (v : Nat) (w : World) : Calls Try.prog 41 #[.float .f64 v] w fun e w' => e = .returned (.int .u64 (tellN v : Nat)) ∧ w = w' := by
  go_enter Try.func41, Try.ntmps41
  go_wp2_with fail
  refine (isnan_any v w).mono ?_
  rintro e w1 ⟨rfl, rfl⟩
  cases hn : nanB v with
  | true =>
    have h : tellN v = 9221120237041090561 := by simp [tellN, hn]
    go_wp2
    go_ret
    exact ⟨by rw [h]; rfl, rfl⟩
  | false =>
    have h : tellN v = v := by simp [tellN, hn]
    go_wp2
    go_ret
    exact ⟨by rw [h]; rfl, rfl⟩
theorem nan_fact (v : Nat) : decide (18437736874454810624 < IntKind.u64.wrap ((v : Int) * 2)) = nanB v := by
  unfold nanB; rw [wrapU]; apply decide_eq_decide.2; omega
theorem inf_fact (v : Nat) : (IntKind.u64.wrap ((v : Int) * 2) == 18437736874454810624) = infB v := by
  unfold infB; rw [wrapU, Bool.beq_eq_decide_eq]; apply decide_eq_decide.2; omega
theorem nan_any (v : Nat) (w : World) : Calls Try.prog 35 #[.int .u64 (v : Nat)] w fun e w' => e = .returned (.bool (nanB v)) ∧ w = w' := by
  have hn := nan_fact v
  go_enter Try.func35, Try.ntmps35
  go_wp2
  go_ret
  exact ⟨rfl, rfl⟩
theorem inf_any (v : Nat) (w : World) : Calls Try.prog 36 #[.int .u64 (v : Nat)] w fun e w' => e = .returned (.bool (infB v)) ∧ w = w' := by
  have hn := inf_fact v
  go_enter Try.func36, Try.ntmps36
  go_wp2
  go_ret
  exact ⟨rfl, rfl⟩
theorem rbits_any (v : Nat) (w : World) : Calls Try.prog 44 #[.float .f64 v] w fun e w' => e = .returned (.int .u64 (tellN v : Nat)) ∧ w = w' := by
  go_enter Try.func44, Try.ntmps44
  go_wp2_with fail
  refine (nan_any v w).mono ?_
  rintro e w1 ⟨rfl, rfl⟩
  cases hn : nanB v with
  | true =>
    have h : tellN v = 9221120237041090561 := by simp [tellN, hn]
    go_wp2
    go_ret
    exact ⟨by rw [h]; rfl, rfl⟩
  | false =>
    have h : tellN v = v := by simp [tellN, hn]
    go_wp2
    go_ret
    exact ⟨by rw [h]; rfl, rfl⟩
theorem abs_any (v : Nat) (w : World) (hv : v < 18446744073709551616) : Calls Try.prog 49 #[.float .f64 v] w fun e w' => e = .returned (.float .f64 (v % 9223372036854775808)) ∧ w = w' := by
  have hb := bits_andNot_top v hv
  go_enter Try.func49, Try.ntmps49
  go_wp2
  go_ret
  exact ⟨rfl, rfl⟩
end
end Go.Proofs.Ytlaodfkcfclpmaa
