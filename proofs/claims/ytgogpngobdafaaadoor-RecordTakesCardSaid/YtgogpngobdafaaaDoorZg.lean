/-
  Numbers with a sign as numbers without, and back.
-/
import Derived.Test.YtgogpngobdafaaaDoorRows
import Derived.Test.YtgogpngobdafaaaDoorGen
import Derived.Laws.DeepNot64
namespace Go.Proofs.YtgogpngobdafaaaDoor
set_option linter.unusedVariables false
set_option linter.unusedSimpArgs false
open Go.RowKit

/-- What Zig makes of a number. -/
def zigN (s : Int) : Nat := if s < 0 then (-2 * s - 1).toNat else (2 * s).toNat
/-- What Zag makes of a number. -/
def zagN (n : Nat) : Int := if n % 2 = 1 then -((n / 2 : Nat) : Int) - 1 else ((n / 2 : Nat) : Int)
theorem xor_max (n : Nat) (h : n < 18446744073709551616) : bits .xor .u64 IntKind.u64.max (n : Int) = 18446744073709551615 - (n : Int) := by
  have e : IntKind.u64.max = ((18446744073709551615 : Nat) : Int) := by decide
  rw [e, u64_xor_nat _ _ (by omega) h]
  have : 18446744073709551615 ^^^ n = 18446744073709551615 - n := by
    have h2 := congrArg BitVec.toNat (BitVec.allOnes_xor (x := BitVec.ofNat 64 n))
    rw [BitVec.toNat_xor, BitVec.toNat_not, BitVec.toNat_allOnes, BitVec.toNat_ofNat, Nat.mod_eq_of_lt (by omega)] at h2
    exact h2
  rw [this]
  omega
theorem zigN_lt (s : Int) (h : -9223372036854775808 ≤ s) (h1 : s < 9223372036854775808) : zigN s < 18446744073709551616 := by unfold zigN; split <;> omega
theorem zagN_range (n : Nat) (h : n < 18446744073709551616) : -9223372036854775808 ≤ zagN n ∧ zagN n < 9223372036854775808 := by unfold zagN; split <;> omega
theorem zag_zig (s : Int) : zagN (zigN s) = s := by unfold zagN zigN; split <;> split <;> omega
theorem zig_zag (n : Nat) : zigN (zagN n) = n := by unfold zagN zigN; split <;> split <;> omega
theorem ret_u64 {a b : Int} (h : a = b) : Ending.returned (.int .u64 a) = .returned (.int .u64 b) := by rw [h]
theorem ret_i64 {a b : Int} (h : a = b) : Ending.returned (.int .i64 a) = .returned (.int .i64 b) := by rw [h]

section
set_option maxHeartbeats 400000
theorem zig_any (s : Int) (w : World) (h : -9223372036854775808 ≤ s) (h1 : s < 9223372036854775808) :
    Calls Tryd.prog 100 #[.int .i64 s] w fun e w' => e = .returned (.int .u64 (zigN s : Nat)) ∧ w = w' := by
  by_cases h0 : s < 0
  · go_enter Tryd.func100, Tryd.ntmps100
    go_wp2
    all_goals go_ret
    all_goals refine ⟨ret_u64 ?_, rfl⟩
    all_goals
      have e : IntKind.u64.wrap (IntKind.u64.wrap s * 2) = (((2 * s + 18446744073709551616).toNat : Nat) : Int) := by
        rw [IntKind.wrap_u64, IntKind.wrap_u64]; omega
      rw [e, xor_max _ (by omega)]
      unfold zigN; rw [if_pos h0]; omega
  · have h0' : 0 ≤ s := by omega
    go_enter Tryd.func100, Tryd.ntmps100
    go_wp2
    go_ret
    exact ⟨ret_u64 (by unfold zigN; rw [if_neg (by omega)]; omega), rfl⟩
theorem zag_any (n : Nat) (w : World) (h : n < 18446744073709551616) :
    Calls Tryd.prog 124 #[.int .u64 n] w fun e w' => e = .returned (.int .i64 (zagN n)) ∧ w = w' := by
  by_cases h0 : n % 2 = 1
  · have h0' : ((n : Int) % 2 == 1) = true := by simp; omega
    have H0 := Lib.hid h0; clear h0
    go_enter Tryd.func124, Tryd.ntmps124
    go_wp2
    all_goals go_ret
    all_goals refine ⟨ret_i64 ?_, rfl⟩
    all_goals
      have e : ((n : Int) / 2) = ((n / 2 : Nat) : Int) := by omega
      rw [e, i64_not _ (by omega)]
      unfold zagN; rw [if_pos H0.out]; omega
  · have h0' : ((n : Int) % 2 == 1) = false := by simp; omega
    have H0 := Lib.hid h0; clear h0
    go_enter Tryd.func124, Tryd.ntmps124
    go_wp2
    all_goals go_ret
    all_goals refine ⟨ret_i64 ?_, rfl⟩
    all_goals
      unfold zagN; rw [if_neg H0.out]; omega
theorem rzig_any (s : Int) (w : World) (h : -9223372036854775808 ≤ s) (h1 : s < 9223372036854775808) :
    Calls Tryd.prog 76 #[.int .i64 s] w fun e w' => e = .returned (.int .u64 (zigN s : Nat)) ∧ w = w' := by
  by_cases h0 : s < 0
  · go_enter Tryd.func76, Tryd.ntmps76
    go_wp2
    all_goals go_ret
    all_goals refine ⟨ret_u64 ?_, rfl⟩
    all_goals
      unfold zigN; rw [if_pos h0]; omega
  · have h0' : 0 ≤ s := by omega
    go_enter Tryd.func76, Tryd.ntmps76
    go_wp2
    all_goals go_ret
    all_goals refine ⟨ret_u64 ?_, rfl⟩
    all_goals
      unfold zigN; rw [if_neg (by omega)]; omega
theorem rzag_any (n : Nat) (w : World) (h : n < 18446744073709551616) :
    Calls Tryd.prog 112 #[.int .u64 n] w fun e w' => e = .returned (.int .i64 (zagN n)) ∧ w = w' := by
  by_cases h0 : n % 2 = 1
  · have h0' : ((n : Int) % 2 == 1) = true := by simp; omega
    have H0 := Lib.hid h0; clear h0
    go_enter Tryd.func112, Tryd.ntmps112
    go_wp2
    all_goals go_ret
    all_goals refine ⟨ret_i64 ?_, rfl⟩
    all_goals
      unfold zagN; rw [if_pos H0.out]; omega
  · have h0' : ((n : Int) % 2 == 1) = false := by simp; omega
    have H0 := Lib.hid h0; clear h0
    go_enter Tryd.func112, Tryd.ntmps112
    go_wp2
    all_goals go_ret
    all_goals refine ⟨ret_i64 ?_, rfl⟩
    all_goals
      unfold zagN; rw [if_neg H0.out]; omega
end
end Go.Proofs.YtgogpngobdafaaaDoor
