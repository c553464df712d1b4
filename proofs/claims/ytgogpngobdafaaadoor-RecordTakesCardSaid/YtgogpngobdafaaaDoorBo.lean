/-
  Rows of Booleans in memory; one bit of a number.
-/
import Derived.Test.YtgogpngobdafaaaDoorGen
namespace Go.Proofs.YtgogpngobdafaaaDoor
set_option linter.unusedVariables false
set_option linter.unusedSimpArgs false
open Go.RowKit

theorem infoBool : (Tryd.prog.info? 4).map (fun i => (i.zero, i.size, i.bytes)) = some (some (.bool false), 1, 1) := by kernel_rfl
theorem bit1 {n : Nat} (i : Nat) (h : n < 18446744073709551616) : bits .and .u64 ((n : Int) / 2 ^ i) 1 = (n : Int) / 2 ^ i % 2 := by
  have e1 : ((n : Int) / 2 ^ i) = ((n / 2 ^ i : Nat) : Int) := by rw [Int.natCast_ediv, Int.natCast_pow]; rfl
  have e : (1 : Int) = ((1 : Nat) : Int) := rfl
  rw [e1, e, u64_and_nat _ _ (Nat.lt_of_le_of_lt (Nat.div_le_self _ _) h) (by omega), show (1 : Nat) = 2 ^ 1 - 1 from rfl, Nat.and_two_pow_sub_one_eq_mod]
  rfl
theorem bit1c (n i : Nat) : ((n : Int) / 2 ^ i % 2 == 1) = n.testBit i := by
  have e1 : ((n : Int) / 2 ^ i % 2) = ((n / 2 ^ i % 2 : Nat) : Int) := by
    have e : ((n : Int) / 2 ^ i) = ((n / 2 ^ i : Nat) : Int) := by rw [Int.natCast_ediv, Int.natCast_pow]; rfl
    rw [e]; rfl
  rw [e1, Nat.testBit_eq_decide_div_mod_eq]
  by_cases h : n / 2 ^ i % 2 = 1
  · rw [h]; rfl
  · rw [decide_eq_false h, beq_eq_false_iff_ne]; omega
theorem Rd.boolAt {w : World} {A : Option Addr} {xs : List Bool} (h : Rd w A (xs.map Value.bool)) {k : Nat} (hk : k < xs.length) :
    ∃ b off, A = some ⟨b, off, none⟩ ∧ w.cell? ⟨b, off + k, none⟩ = some (.bool xs[k]) := h k (.bool xs[k]) (by simp [hk])
end Go.Proofs.YtgogpngobdafaaaDoor
