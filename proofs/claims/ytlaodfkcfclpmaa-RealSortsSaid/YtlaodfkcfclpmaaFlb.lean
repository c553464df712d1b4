/-
  The bits of a value: its highest one, and the others. Plain lemmas on numbers of 64 bits.
-/
import Derived.WalkKit
import Derived.Handy
import Derived.Laws.FloatArith
import Derived.Laws.Bits64
namespace Go.Proofs.Ytlaodfkcfclpmaa
set_option linter.unusedVariables false
set_option linter.unusedSimpArgs false

theorem wrapU (n : Int) : IntKind.u64.wrap n = n % 18446744073709551616 := by simp [IntKind.wrap, IntKind.bits, IntKind.signed]
theorem nat_top {v : Nat} (h : v < 18446744073709551616) (h' : ¬ v < 9223372036854775808) : ∃ r, r < 9223372036854775808 ∧ v = 9223372036854775808 + r := ⟨v - 9223372036854775808, by omega, by omega⟩
theorem tb63 (r i : Nat) (hr : r < 9223372036854775808) : (9223372036854775808 + r).testBit i = (decide (i = 63) || r.testBit i) := by
  have h2 : (9223372036854775808 : Nat) = 2 ^ 63 := rfl
  by_cases h : i = 63
  · subst h
    rw [h2, Nat.testBit_two_pow_add_eq, Nat.testBit_lt_two_pow (by omega)]; rfl
  · by_cases hl : i < 63
    · rw [h2, Nat.testBit_two_pow_add_gt hl]; simp [h]
    · rw [Nat.testBit_lt_two_pow (x := 9223372036854775808 + r), Nat.testBit_lt_two_pow (x := r)]
      · simp [h]
      · exact Nat.lt_of_lt_of_le hr (Nat.pow_le_pow_right (n := 2) (by decide) (by omega : 63 ≤ i))
      · exact Nat.lt_of_lt_of_le (by omega : 9223372036854775808 + r < 2 ^ 64) (Nat.pow_le_pow_right (n := 2) (by decide) (by omega : 64 ≤ i))
theorem tb63' (i : Nat) : (9223372036854775808 : Nat).testBit i = decide (i = 63) := by
  have := tb63 0 i (by decide)
  simpa using this
theorem bit63_lt {r : Nat} (hr : r < 9223372036854775808) : r.testBit 63 = false := Nat.testBit_lt_two_pow hr
theorem xor_top (r : Nat) (hr : r < 9223372036854775808) : r ^^^ 9223372036854775808 = 9223372036854775808 + r := by
  apply Nat.eq_of_testBit_eq; intro i
  rw [Nat.testBit_xor, tb63 r i hr, tb63']
  by_cases h : i = 63
  · subst h; simp [bit63_lt hr]
  · simp [h]
theorem xor_top' (r : Nat) (hr : r < 9223372036854775808) : (9223372036854775808 + r) ^^^ 9223372036854775808 = r := by
  rw [← xor_top r hr, Nat.xor_assoc, Nat.xor_self, Nat.xor_zero]
theorem or_top (r : Nat) (hr : r < 9223372036854775808) : r ||| 9223372036854775808 = 9223372036854775808 + r := by
  apply Nat.eq_of_testBit_eq; intro i
  rw [Nat.testBit_or, tb63 r i hr, tb63', Bool.or_comm]
theorem or_top' (r : Nat) (hr : r < 9223372036854775808) : (9223372036854775808 + r) ||| 9223372036854775808 = 9223372036854775808 + r := by
  rw [← or_top r hr, Nat.or_assoc, Nat.or_self]
theorem and_top (r : Nat) (hr : r < 9223372036854775808) : r &&& 9223372036854775808 = 0 := by
  apply Nat.eq_of_testBit_eq; intro i
  rw [Nat.testBit_and, tb63', Nat.zero_testBit]
  by_cases h : i = 63
  · subst h; simp [bit63_lt hr]
  · simp [h]
theorem and_top' (r : Nat) (hr : r < 9223372036854775808) : (9223372036854775808 + r) &&& 9223372036854775808 = 9223372036854775808 := by
  apply Nat.eq_of_testBit_eq; intro i
  rw [Nat.testBit_and, tb63 r i hr, tb63']
  by_cases h : i = 63 <;> simp [h]

theorem bv_ofNat (v : Nat) (h : v < 18446744073709551616) : (BitVec.ofInt 64 (v : Int)).toNat = v := by
  rw [BitVec.ofInt_natCast, BitVec.toNat_ofNat]; exact Nat.mod_eq_of_lt (by omega)
theorem bits_and_top (v : Nat) (h : v < 18446744073709551616) : bits .and .u64 (v : Int) 9223372036854775808 = ((v / 9223372036854775808 * 9223372036854775808 : Nat) : Int) := by
  show IntKind.u64.wrap ((BitVec.ofInt 64 (v : Int) &&& BitVec.ofInt 64 ((9223372036854775808 : Nat) : Int)).toNat : Int) = _
  rw [BitVec.toNat_and, bv_ofNat v h, bv_ofNat _ (by decide), wrapU]
  by_cases h' : v < 9223372036854775808
  · rw [and_top v h']; omega
  · obtain ⟨r, hr, rfl⟩ := nat_top h h'
    rw [and_top' r hr]; omega
theorem bits_or_top (v : Nat) (h : v < 18446744073709551616) : bits .or .u64 (v : Int) 9223372036854775808 = ((9223372036854775808 + v % 9223372036854775808 : Nat) : Int) := by
  show IntKind.u64.wrap ((BitVec.ofInt 64 (v : Int) ||| BitVec.ofInt 64 ((9223372036854775808 : Nat) : Int)).toNat : Int) = _
  rw [BitVec.toNat_or, bv_ofNat v h, bv_ofNat _ (by decide), wrapU]
  by_cases h' : v < 9223372036854775808
  · rw [or_top v h']; omega
  · obtain ⟨r, hr, rfl⟩ := nat_top h h'
    rw [or_top' r hr]; omega
/-- The bits of a number with the other sign. -/
def flip (v : Nat) : Nat := if v < 9223372036854775808 then 9223372036854775808 + v else v - 9223372036854775808
theorem flip_lt {v : Nat} (h : v < 18446744073709551616) : flip v < 18446744073709551616 := by unfold flip; split <;> omega
theorem xor_flip (v : Nat) (h : v < 18446744073709551616) : v ^^^ 9223372036854775808 = flip v := by
  unfold flip
  by_cases h' : v < 9223372036854775808
  · rw [xor_top v h', if_pos h']
  · obtain ⟨r, hr, rfl⟩ := nat_top h h'
    rw [xor_top' r hr, if_neg (by omega)]; omega
theorem bits_xor_top (v : Nat) (h : v < 18446744073709551616) : bits .xor .u64 (v : Int) 9223372036854775808 = (flip v : Int) := by
  rw [← xor_flip v h]
  exact bits_xor_u64_nat v 9223372036854775808 h (by decide)
theorem negFloat_flip (v : Nat) (h : v < 18446744073709551616) : Op.negFloat .f64 v = flip v := xor_flip v h
theorem bits_andNot_top (v : Nat) (h : v < 18446744073709551616) : bits .andNot .u64 (v : Int) 9223372036854775808 = ((v % 9223372036854775808 : Nat) : Int) := by
  show IntKind.u64.wrap ((BitVec.ofInt 64 (v : Int) &&& ~~~ BitVec.ofInt 64 ((9223372036854775808 : Nat) : Int)).toNat : Int) = _
  have e : (~~~ BitVec.ofInt 64 ((9223372036854775808 : Nat) : Int)).toNat = 2 ^ 63 - 1 := by decide
  rw [BitVec.toNat_and, bv_ofNat v h, e, wrapU, Nat.and_two_pow_sub_one_eq_mod]
  omega
theorem bits_not (v : Nat) (h : v < 18446744073709551616) : bits .xor .u64 18446744073709551615 (v : Int) = ((18446744073709551615 - v : Nat) : Int) := by
  show IntKind.u64.wrap ((BitVec.ofInt 64 ((18446744073709551615 : Nat) : Int) ^^^ BitVec.ofInt 64 (v : Int)).toNat : Int) = _
  have e : BitVec.ofInt 64 ((18446744073709551615 : Nat) : Int) = BitVec.allOnes 64 := by decide
  rw [e, BitVec.allOnes_xor, BitVec.toNat_not, bv_ofNat v h, wrapU]
  omega
end Go.Proofs.Ytlaodfkcfclpmaa
