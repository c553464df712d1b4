/-
  Whole numbers of numbers, roots, infinities, and the values of whole numbers: contracts.
-/
import Derived.Test.YtlaodfkcfclpmaaFop
namespace Go.Proofs.Ytlaodfkcfclpmaa
set_option linter.unusedVariables false
set_option linter.unusedSimpArgs false
open Go.RowKit

/-- The bits of a number made whole in this way. -/
def intN (way : Ieee.Toward) (v : Nat) : Nat := FloatKind.f64.encode ((FloatKind.f64.decode v).integral way)
/-- What is told of a number made whole. -/
def toldInt (way : Ieee.Toward) (v : Nat) : Nat := if nanB v then 9221120237041090561 else tellN (intN way v)

theorem decode_nan {v : Nat} (h : nanB v = true) : ∃ s t, FloatKind.f64.decode v = .nan s t ∧ t < 4503599627370496 ∧ 0 < t := by
  have e : FloatKind.f64.decode v = FloatKind.f64.format.read v := rfl
  unfold nanB at h
  rw [decide_eq_true_eq] at h
  rw [e, read_eq, if_neg (by omega), if_neg (by omega), if_neg (by omega)]
  exact ⟨_, _, rfl, by omega, by omega⟩
theorem decode_num {v : Nat} (h : nanB v = false) : ∀ s t, FloatKind.f64.decode v ≠ .nan s t := by
  have e : FloatKind.f64.decode v = FloatKind.f64.format.read v := rfl
  unfold nanB at h
  rw [decide_eq_false_iff_not] at h
  intro s t
  rw [e, read_eq]
  split
  · intro h; cases h
  · split
    · intro h; cases h
    · split
      · intro h; cases h
      · omega
theorem quiet_lt {t : Nat} (h : t < 4503599627370496) : FloatKind.f64.format.quiet t < 4503599627370496 ∧ 0 < FloatKind.f64.format.quiet t := by
  have e : FloatKind.f64.format.quiet t = t ||| 2 ^ 51 := rfl
  rw [e]
  refine ⟨Nat.or_lt_two_pow (n := 52) h (by decide), Nat.pos_of_ne_zero fun h0 => ?_⟩
  have := Nat.or_eq_zero_iff.1 h0
  omega
theorem nan_encode (s : Bool) {t : Nat} (h : t < 4503599627370496 ∧ 0 < t) : nanB (FloatKind.f64.encode (.nan s t)) = true := by
  have e : FloatKind.f64.encode (.nan s t) = if s then 9223372036854775808 + (9218868437227405312 + t % 4503599627370496) else 9218868437227405312 + t % 4503599627370496 := rfl
  unfold nanB
  rw [e, decide_eq_true_eq]
  split <;> omega
section
set_option maxHeartbeats 800000
set_option maxRecDepth 100000
theorem lit1 {α : Type} (f : Nat → α) (g : Array Value → α) (v : Nat) : Extern.MathFloor.toIntegral.match_2 (fun _ => α) #[Value.float .f64 v] f g = f v := rfl
theorem integral_num {P : Program} (nm : String) (way : Ieee.Toward) (v : Nat) (w : World) (h : nanB v = false) : (Extern.MathFloor.toIntegral nm way #[.float .f64 v]).run P w = .ok (.float .f64 (intN way v)) w := by
  have hd := decode_num h
  unfold Extern.MathFloor.toIntegral intN
  rw [lit1]
  generalize FloatKind.f64.decode v = d at *
  cases d with
  | nan s t => exact absurd rfl (hd s t)
  | number s m e => rfl
  | infinity s => rfl
theorem integral_nan {P : Program} (nm : String) (way : Ieee.Toward) (v : Nat) (w : World) (h : nanB v = true) : ∃ r n, nanB r = true ∧ (Extern.MathFloor.toIntegral nm way #[.float .f64 v]).run P w = .ok (.float .f64 r) (w.drewN n) := by
  obtain ⟨s, t, hd, ht, ht0⟩ := decode_nan h
  unfold Extern.MathFloor.toIntegral
  rw [lit1, hd]
  dsimp only
  by_cases hq : FloatKind.f64.format.quiet t = t
  · rw [if_pos hq]; exact ⟨v, 0, h, rfl⟩
  · rw [if_neg hq]
    obtain ⟨k, hk⟩ : ∃ k, (choose (.extern "math.Floor,Ceil,Trunc,RoundToEven.signallingNaN kept" 2)).run P w = .ok k (w.drewN 1) := by
      rw [run_choose_drew]; exact ⟨_, rfl⟩
    rw [Sem.run_bind, hk]
    by_cases h1 : (k == 1) = true
    · exact ⟨v, 1, h, by simp only [Result.andThen_ok, h1, if_true]; rfl⟩
    · exact ⟨_, 1, nan_encode s (quiet_lt ht), by simp only [Result.andThen_ok, h1]; rfl⟩
theorem trunc_num (v : Nat) (w : World) (h : nanB v = false) : Calls Try.prog 47 #[.float .f64 v] w fun e w' => e = .returned (.float .f64 (intN .zero v)) ∧ w = w' := by
  have h2 := integral_num (P := Try.prog) "math.archTrunc" .zero v w h
  have hr : (callFunc 61 #[.float .f64 v]).run Try.prog w = .ok (.value (.float .f64 (intN .zero v))) w := by
    rw [run_callFunc_extern (e := Extern.MathFloor.toIntegral "math.archTrunc" .zero) Try.func61 (by kernel_rfl) (by kernel_rfl) (by kernel_rfl) (by kernel_rfl), h2]; rfl
  clear h2 h
  generalize intN .zero v = r at *
  go_enter Try.func47, Try.ntmps47
  go_wp2
  go_ret
  exact ⟨rfl, rfl⟩
theorem trunc_nan (v : Nat) (w : World) (h : nanB v = true) : Calls Try.prog 47 #[.float .f64 v] w fun e w' => ∃ r n, e = .returned (.float .f64 r) ∧ w' = w.drewN n ∧ nanB r = true := by
  obtain ⟨r, n, h1, h2⟩ := integral_nan (P := Try.prog) "math.archTrunc" .zero v w h
  have hr : (callFunc 61 #[.float .f64 v]).run Try.prog w = .ok (.value (.float .f64 r)) (w.drewN n) := by
    rw [run_callFunc_extern (e := Extern.MathFloor.toIntegral "math.archTrunc" .zero) Try.func61 (by kernel_rfl) (by kernel_rfl) (by kernel_rfl) (by kernel_rfl), h2]; rfl
  clear h2 h
  have H1 := Lib.hid h1; clear h1
  go_enter Try.func47, Try.ntmps47
  go_wp2
  go_ret
  exact ⟨r, n, rfl, rfl, H1.out⟩
theorem floor_num (v : Nat) (w : World) (h : nanB v = false) : Calls Try.prog 48 #[.float .f64 v] w fun e w' => e = .returned (.float .f64 (intN .down v)) ∧ w = w' := by
  have h2 := integral_num (P := Try.prog) "math.archFloor" .down v w h
  have hr : (callFunc 63 #[.float .f64 v]).run Try.prog w = .ok (.value (.float .f64 (intN .down v))) w := by
    rw [run_callFunc_extern (e := Extern.MathFloor.toIntegral "math.archFloor" .down) Try.func63 (by kernel_rfl) (by kernel_rfl) (by kernel_rfl) (by kernel_rfl), h2]; rfl
  clear h2 h
  generalize intN .down v = r at *
  go_enter Try.func48, Try.ntmps48
  go_wp2
  go_ret
  exact ⟨rfl, rfl⟩
theorem floor_nan (v : Nat) (w : World) (h : nanB v = true) : Calls Try.prog 48 #[.float .f64 v] w fun e w' => ∃ r n, e = .returned (.float .f64 r) ∧ w' = w.drewN n ∧ nanB r = true := by
  obtain ⟨r, n, h1, h2⟩ := integral_nan (P := Try.prog) "math.archFloor" .down v w h
  have hr : (callFunc 63 #[.float .f64 v]).run Try.prog w = .ok (.value (.float .f64 r)) (w.drewN n) := by
    rw [run_callFunc_extern (e := Extern.MathFloor.toIntegral "math.archFloor" .down) Try.func63 (by kernel_rfl) (by kernel_rfl) (by kernel_rfl) (by kernel_rfl), h2]; rfl
  clear h2 h
  have H1 := Lib.hid h1; clear h1
  go_enter Try.func48, Try.ntmps48
  go_wp2
  go_ret
  exact ⟨r, n, rfl, rfl, H1.out⟩
theorem ceil_num (v : Nat) (w : World) (h : nanB v = false) : Calls Try.prog 50 #[.float .f64 v] w fun e w' => e = .returned (.float .f64 (intN .up v)) ∧ w = w' := by
  have h2 := integral_num (P := Try.prog) "math.archCeil" .up v w h
  have hr : (callFunc 65 #[.float .f64 v]).run Try.prog w = .ok (.value (.float .f64 (intN .up v))) w := by
    rw [run_callFunc_extern (e := Extern.MathFloor.toIntegral "math.archCeil" .up) Try.func65 (by kernel_rfl) (by kernel_rfl) (by kernel_rfl) (by kernel_rfl), h2]; rfl
  clear h2 h
  generalize intN .up v = r at *
  go_enter Try.func50, Try.ntmps50
  go_wp2
  go_ret
  exact ⟨rfl, rfl⟩
theorem ceil_nan (v : Nat) (w : World) (h : nanB v = true) : Calls Try.prog 50 #[.float .f64 v] w fun e w' => ∃ r n, e = .returned (.float .f64 r) ∧ w' = w.drewN n ∧ nanB r = true := by
  obtain ⟨r, n, h1, h2⟩ := integral_nan (P := Try.prog) "math.archCeil" .up v w h
  have hr : (callFunc 65 #[.float .f64 v]).run Try.prog w = .ok (.value (.float .f64 r)) (w.drewN n) := by
    rw [run_callFunc_extern (e := Extern.MathFloor.toIntegral "math.archCeil" .up) Try.func65 (by kernel_rfl) (by kernel_rfl) (by kernel_rfl) (by kernel_rfl), h2]; rfl
  clear h2 h
  have H1 := Lib.hid h1; clear h1
  go_enter Try.func50, Try.ntmps50
  go_wp2
  go_ret
  exact ⟨r, n, rfl, rfl, H1.out⟩
/-- The root's bits, if there is one. -/
def sqrtO (v : Nat) : Option Nat := FloatKind.f64.format.sqrt v
theorem lit2 {α : Type} (f : Nat → α) (g : Array Value → α) (v : Nat) : Extern.MathSqrt.sqrt.match_2 (fun _ => α) #[Value.float .f64 v] f g = f v := rfl
theorem run_asqrt (v : Nat) (w : World) : ∃ r n, (callFunc 67 #[.float .f64 v]).run Try.prog w = .ok (.value (.float .f64 r)) (w.drewN n) ∧ tellN r = tellO (sqrtO v) := by
  rw [run_callFunc_extern (e := Extern.MathSqrt.sqrt) Try.func67 (by kernel_rfl) (by kernel_rfl) (by kernel_rfl) (by kernel_rfl)]
  unfold Extern.MathSqrt.sqrt sqrtO
  rw [lit2]
  cases FloatKind.f64.format.sqrt v with
  | some r => exact ⟨r, 0, rfl, rfl⟩
  | none =>
    have hn := drawnNan_nan w v v
    exact ⟨drawnNan w v v, 1, by dsimp only; rw [Sem.run_bind, run_choose_drew]; rfl, by simp [tellN, hn, tellO]⟩
theorem sqrt_any (v : Nat) (w : World) : Calls Try.prog 51 #[.float .f64 v] w fun e w' => ∃ r n, e = .returned (.float .f64 r) ∧ w' = w.drewN n ∧ tellN r = tellO (sqrtO v) := by
  obtain ⟨r, n, h2, h1⟩ := run_asqrt v w
  have H1 := Lib.hid h1; clear h1
  go_enter Try.func51, Try.ntmps51
  go_wp2
  go_ret
  exact ⟨r, n, rfl, rfl, H1.out⟩
/-- The value nearest to a whole number. -/
def ofN (n : Int) : Nat := tellN (floatOfInt .f64 n)
theorem of_any (n : Int) (w : World) : Calls Try.prog 28 #[.int .i64 n] w fun e w' => e = .returned (.int .u64 (ofN n : Nat)) ∧ w = w' := by
  go_enter Try.func28, Try.ntmps28
  go_wp2_with fail
  refine (told_any _ w).mono ?_
  rintro e w1 ⟨rfl, rfl⟩
  go_wp2
  go_ret
  exact ⟨rfl, rfl⟩
theorem rof_any (n : Int) (w : World) : Calls Try.prog 29 #[.int .i64 n] w fun e w' => e = .returned (.int .u64 (ofN n : Nat)) ∧ w = w' := by
  go_enter Try.func29, Try.ntmps29
  go_wp2_with fail
  refine (rbits_any _ w).mono ?_
  rintro e w1 ⟨rfl, rfl⟩
  go_wp2
  go_ret
  exact ⟨rfl, rfl⟩
end
end Go.Proofs.Ytlaodfkcfclpmaa
