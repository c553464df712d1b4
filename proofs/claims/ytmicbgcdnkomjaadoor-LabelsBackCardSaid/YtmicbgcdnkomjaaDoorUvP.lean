/-
  What the scan of a number in few bytes comes to: the laws that speak of no program (as in RuvB, for seats without the plain answers' Uvarint).
-/
import Derived.Test.YtmicbgcdnkomjaaDoorUvLawsa
namespace Go.Proofs.YtmicbgcdnkomjaaDoor
set_option linter.unusedVariables false
set_option linter.unusedSimpArgs false
open Go.RowKit
theorem uvS_err {k n : Nat} {l : List UInt8} (h : (uvS k n l).2.2 ≠ 0) : (uvS k n l).1 = 0 ∧ (uvS k n l).2.1 = 0 := by
  induction l generalizing k n with
  | nil => simp [uvS]
  | cons b r ih =>
    unfold uvS at h ⊢
    split <;> (try split) <;> (try split) <;> simp_all
theorem uvS_lt {k n : Nat} {l : List UInt8} (hk : k ≤ 9) (hn : n < 2 ^ (7 * k)) : (uvS k n l).1 < 18446744073709551616 := by
  induction l generalizing k n with
  | nil => simp [uvS]
  | cons b r ih =>
    by_cases h9 : k = 9 ∧ 1 < b.toNat
    · rw [uvS_over h9.1 h9.2]; omega
    · by_cases hb : b.toNat < 128
      · by_cases hf : 0 < k ∧ b.toNat = 0
        · rw [uvS_form (by omega) hf.1 hf.2]; omega
        · rw [uvS_done (by omega) hb hf]; exact uv_sum hk hn (by omega)
      · rw [uvS_more (by omega) (by omega)]
        exact ih (by omega) (uv_lt hn)
theorem uvS_le (l : List UInt8) : ∀ k n, (uvS k n l).2.1 ≤ k + l.length := by
  induction l with
  | nil => intro k n; simp [uvS]
  | cons b r ih =>
    intro k n
    unfold uvS
    split
    · simp
    · split
      · split
        · simp
        · simp
      · have := ih (k + 1) (n + b.toNat % 128 * 2 ^ (7 * k))
        simp only [List.length_cons]; omega

theorem uvS_le' (b : List UInt8) : (uvS 0 0 b).2.1 ≤ b.length := by have := uvS_le b 0 0; omega
theorem uvS_lt' (b : List UInt8) : (uvS 0 0 b).1 < 18446744073709551616 := uvS_lt (by omega) (by decide)
end Go.Proofs.YtmicbgcdnkomjaaDoor
