/-
  Numbers that have their bits exactly: whole numbers of numbers. Plain lemmas on the format.
-/
import Derived.Test.YtlaodfkcfclpmaaFin
import Derived.Test.YtlaodfkcfclpmaaFsp
namespace Go.Proofs.Ytlaodfkcfclpmaa
set_option linter.unusedVariables false
set_option linter.unusedSimpArgs false

theorem cut_eq (way : Ieee.Toward) (neg : Bool) (n drop : Nat) : ∃ b : Bool, way.cut neg n drop = n / 2 ^ drop + b.toNat ∧ (2 ^ drop ∣ n → b = false) := by
  have hl : n < 2 ^ (n.log2 + 1) := Nat.lt_log2_self
  unfold Ieee.Toward.cut
  dsimp only
  rw [Nat.shiftLeft_eq, Nat.one_mul]
  have low : n / 2 ^ min drop (n.log2 + 2) = n / 2 ^ drop := by
    by_cases h : drop ≤ n.log2 + 2
    · rw [Nat.min_eq_left h]
    · rw [Nat.min_eq_right (by omega), Nat.div_eq_of_lt, Nat.div_eq_of_lt]
      · exact Nat.lt_of_lt_of_le hl (Nat.pow_le_pow_right (by decide) (by omega))
      · exact Nat.lt_of_lt_of_le hl (Nat.pow_le_pow_right (by decide) (by omega))
  rw [low]
  refine ⟨_, rfl, fun hd => ?_⟩
  have hrest : n % 2 ^ min drop (n.log2 + 2) = 0 := by
    by_cases h : drop ≤ n.log2 + 2
    · rw [Nat.min_eq_left h]; exact Nat.mod_eq_zero_of_dvd hd
    · have h0 : n = 0 := Nat.eq_zero_of_dvd_of_lt hd (Nat.lt_of_lt_of_le hl (Nat.pow_le_pow_right (by decide) (by omega)))
      rw [h0, Nat.zero_mod]
  rw [hrest]
  have hp : 0 < 2 ^ min drop (n.log2 + 2) := Nat.two_pow_pos _
  generalize 2 ^ min drop (n.log2 + 2) = g at *
  have hg : (g == 0) = false := by rw [beq_eq_false_iff_ne]; omega
  cases way <;> simp [hg]
theorem cut_exact (way : Ieee.Toward) (neg : Bool) (n drop : Nat) (h : 2 ^ drop ∣ n) : way.cut neg n drop = n / 2 ^ drop := by
  obtain ⟨b, hb, hd⟩ := cut_eq way neg n drop
  rw [hb, hd h]; rfl
/-- The bits of a sign and a rung. -/
def wordN (s : Bool) (k : Nat) : Nat := if s then 9223372036854775808 + k else k
theorem read_word (s : Bool) (L kept : Nat) (h1 : kept < 9007199254740992) (h2 : 4503599627370496 ≤ kept ∨ L = 0) (h3 : L ≤ 2045) :
    FloatKind.f64.format.read (wordN s (L * 4503599627370496 + kept)) = .number s kept ((L : Int) - 1074) := by
  have hR : L * 4503599627370496 + kept < 9218868437227405312 := by omega
  have hm : wordN s (L * 4503599627370496 + kept) % 9223372036854775808 = L * 4503599627370496 + kept := by unfold wordN; split <;> omega
  have hs : (wordN s (L * 4503599627370496 + kept) / 9223372036854775808 % 2 == 1) = s := by
    unfold wordN
    cases s
    · rw [beq_eq_false_iff_ne]; simp; omega
    · rw [beq_iff_eq]; simp; omega
  rw [read_eq, hm, hs]
  by_cases h : L * 4503599627370496 + kept < 4503599627370496
  · obtain rfl : L = 0 := by omega
    rw [if_pos h, Nat.zero_mul, Nat.zero_add]; rfl
  · rw [if_neg h, if_pos hR]
    congr 1
    · rcases h2 with h2 | rfl <;> omega
    · rcases h2 with h2 | rfl <;> omega
/-- Bits are told by the number that they stand for. -/
theorem word_read {v : Nat} {s : Bool} {m : Nat} {e : Int} (hv : v < 18446744073709551616) (h : FloatKind.f64.format.read v = .number s m e) :
    v = wordN s ((e + 1074).toNat * 4503599627370496 + m) ∧ m < 9007199254740992 ∧ -1074 ≤ e ∧ e ≤ 971 ∧ (4503599627370496 ≤ m ∨ e = -1074) := by
  rw [read_eq] at h
  have hs : ∀ t, (v / 9223372036854775808 % 2 == 1) = t → v = wordN t (v % 9223372036854775808) := by
    intro t ht
    unfold wordN
    cases t
    · rw [beq_eq_false_iff_ne] at ht; simp; omega
    · rw [beq_iff_eq] at ht; simp; omega
  split at h
  · injection h with h1 h2 h3
    subst h2; subst h3
    refine ⟨?_, by omega, by omega, by omega, by omega⟩
    rw [show ((-1074 : Int) + 1074).toNat = 0 from rfl, Nat.zero_mul, Nat.zero_add]
    exact hs s h1
  · split at h
    · rename_i k1 k2
      injection h with h1 h2 h3
      refine ⟨?_, by omega, by omega, by omega, by omega⟩
      have := hs s h1
      rw [this]
      congr 1
      omega
    · split at h <;> cases h
theorem nearest_word (s : Bool) (mag : Nat) (place : Int) (hm : mag ≠ 0) (L kept : Nat) (hL : max (place + mag.log2 - 52) (-1074) = (L : Int) - 1074)
    (hk : Ieee.Toward.even.cut s (mag <<< (place - ((L : Int) - 1074)).toNat) (((L : Int) - 1074) - place).toNat = kept) (h1 : kept < 9007199254740992) (h3 : L ≤ 2045) :
    FloatKind.f64.format.nearest s mag place = wordN s (L * 4503599627370496 + kept) := by
  have e : FloatKind.f64.format.nearest s mag place = wordN s (min ((max (place + mag.log2 - 52) (-1074) - (-1074)).toNat * 4503599627370496 + Ieee.Toward.even.cut s (mag <<< (place - max (place + mag.log2 - 52) (-1074)).toNat) (max (place + mag.log2 - 52) (-1074) - place).toNat) 9218868437227405312) := by
    unfold Ieee.Format.nearest
    rw [if_neg hm]; rfl
  rw [e, hL, hk]
  congr 1
  omega
theorem nearest_zero (s : Bool) (place : Int) : FloatKind.f64.format.nearest s 0 place = wordN s 0 := by
  unfold Ieee.Format.nearest; rw [if_pos rfl]; rfl
/-- A whole number of at most 53 digits has its bits exactly. -/
theorem nearest_whole (s : Bool) (K : Nat) (h0 : K ≠ 0) (h : K < 9007199254740992) : ∃ z, z ≤ 52 ∧ K * 2 ^ z < 9007199254740992 ∧ 4503599627370496 ≤ K * 2 ^ z ∧ FloatKind.f64.format.nearest s K 0 = wordN s ((1074 - z) * 4503599627370496 + K * 2 ^ z) ∧
    FloatKind.f64.format.read (FloatKind.f64.format.nearest s K 0) = .number s (K * 2 ^ z) (-(z : Int)) := by
  have hl1 : 2 ^ K.log2 ≤ K := Nat.log2_self_le h0
  have hl2 : K < 2 ^ (K.log2 + 1) := Nat.lt_log2_self
  have hl : K.log2 ≤ 52 := by
    have := (Nat.log2_lt h0 (k := 53)).2 (by omega)
    omega
  have e53 : (9007199254740992 : Nat) = 2 ^ (K.log2 + 1) * 2 ^ (52 - K.log2) := by rw [← Nat.pow_add, show K.log2 + 1 + (52 - K.log2) = 53 by omega]
  have e52 : (4503599627370496 : Nat) = 2 ^ K.log2 * 2 ^ (52 - K.log2) := by rw [← Nat.pow_add, show K.log2 + (52 - K.log2) = 52 by omega]
  have b1 : K * 2 ^ (52 - K.log2) < 9007199254740992 := by rw [e53]; exact Nat.mul_lt_mul_of_pos_right hl2 (Nat.two_pow_pos _)
  have b2 : 4503599627370496 ≤ K * 2 ^ (52 - K.log2) := by rw [e52]; exact Nat.mul_le_mul_right _ hl1
  have hw := nearest_word s K 0 h0 (1074 - (52 - K.log2)) (K * 2 ^ (52 - K.log2)) (by omega) (by
    rw [show ((0 : Int) - ((1074 - (52 - K.log2) : Nat) - 1074 : Int)).toNat = 52 - K.log2 by omega, show ((((1074 - (52 - K.log2) : Nat) : Int) - 1074) - 0).toNat = 0 by omega, Nat.shiftLeft_eq]
    rw [cut_exact _ _ _ _ (by simp)]; simp) b1 (by omega)
  refine ⟨52 - K.log2, by omega, b1, b2, hw, ?_⟩
  rw [hw, read_word s _ _ b1 (.inl b2) (by omega)]
  congr 1
  omega
end Go.Proofs.Ytlaodfkcfclpmaa
