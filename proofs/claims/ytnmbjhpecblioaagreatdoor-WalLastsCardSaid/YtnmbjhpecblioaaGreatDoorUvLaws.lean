/-
  Plain laws of numbers in few bytes: there and back, one form, cut off nowhere, lesser numbers do not have more bytes.
-/
import Derived.Test.YtnmbjhpecblioaaGreatDoorPu
namespace Go.Proofs.YtnmbjhpecblioaaGreatDoor
set_option linter.unusedVariables false
set_option linter.unusedSimpArgs false

theorem pu_pos (n : Nat) : 0 < (pu n).length := by
  by_cases h : n < 128
  · rw [pu_last h]; simp
  · rw [pu_more (by omega)]; simp
theorem ofNat_toNat' {n : Nat} (h : n < 256) : (UInt8.ofNat n).toNat = n := by simp; omega

theorem uvS_pu (n : Nat) : ∀ (k N : Nat) (r : List UInt8), (k = 0 ∨ 0 < n) → k + (pu n).length ≤ 10 → n * 2 ^ (7 * k) < 18446744073709551616 →
    uvS k N (pu n ++ r) = (N + n * 2 ^ (7 * k), k + (pu n).length, 0) := by
  induction n using Nat.strongRecOn with
  | ind n ih =>
    intro k N r hk hl hb
    by_cases h : n < 128
    · rw [pu_last h] at hl ⊢
      have hv : (UInt8.ofNat n).toNat = n := ofNat_toNat' (by omega)
      have h9 : k = 9 → (UInt8.ofNat n).toNat ≤ 1 := by
        rintro rfl
        rw [hv]
        have : (2 : Nat) ^ (7 * 9) = 9223372036854775808 := rfl
        omega
      rw [List.singleton_append, uvS_done h9 (by omega) (by omega), hv, Nat.mod_eq_of_lt h]
      rfl
    · have hb0 : (UInt8.ofNat (n % 128 + 128)).toNat = n % 128 + 128 := ofNat_toNat' (by omega)
      have hp := pu_pos (n / 128)
      rw [pu_more (n := n) (by omega)] at hl ⊢
      simp only [List.length_cons] at hl
      rw [List.cons_append, uvS_more (by omega) (by omega), hb0, ih (n / 128) (by omega) (k + 1) _ r (Or.inr (by omega)) (by omega) (by
        rw [pow7]
        have : n / 128 * (128 * 2 ^ (7 * k)) = n / 128 * 128 * 2 ^ (7 * k) := by rw [Nat.mul_assoc]
        rw [this]
        exact Nat.lt_of_le_of_lt (Nat.mul_le_mul_right _ (Nat.div_mul_le_self n 128)) hb)]
      refine Prod.ext ?_ (Prod.ext ?_ rfl)
      · show N + (n % 128 + 128) % 128 * 2 ^ (7 * k) + n / 128 * 2 ^ (7 * (k + 1)) = N + n * 2 ^ (7 * k)
        rw [pow7, ← Nat.mul_assoc, Nat.add_assoc, ← Nat.add_mul, show (n % 128 + 128) % 128 + n / 128 * 128 = n from by omega]
      · show k + 1 + (pu (n / 128)).length = k + (UInt8.ofNat (n % 128 + 128) :: pu (n / 128)).length
        rw [List.length_cons]; omega

theorem uvS_cut (n : Nat) : ∀ (k N i : Nat), i < (pu n).length → k + (pu n).length ≤ 10 → uvS k N ((pu n).take i) = (0, 0, 6) := by
  induction n using Nat.strongRecOn with
  | ind n ih =>
    intro k N i hi hl
    cases i with
    | zero => simp [uvS]
    | succ i =>
      by_cases h : n < 128
      · rw [pu_last h] at hi; simp at hi
      · have hb0 : (UInt8.ofNat (n % 128 + 128)).toNat = n % 128 + 128 := ofNat_toNat' (by omega)
        have hp := pu_pos (n / 128)
        rw [pu_more (n := n) (by omega)] at hi hl ⊢
        simp only [List.length_cons] at hi hl
        rw [List.take_succ_cons, uvS_more (by omega) (by omega)]
        exact ih (n / 128) (by omega) _ _ _ (by omega) (by omega)

theorem uvS_form_of (l : List UInt8) : ∀ (k N z m : Nat), k ≤ 9 → uvS k N l = (z, m, 0) →
    ∃ y, z = N + y * 2 ^ (7 * k) ∧ k < m ∧ m - k ≤ l.length ∧ pu y = l.take (m - k) ∧ (k = 0 ∨ 0 < y) := by
  induction l with
  | nil => intro k N z m _ h; simp [uvS] at h
  | cons b r ih =>
    intro k N z m hk9 h
    by_cases h9 : k = 9 ∧ 1 < b.toNat
    · rw [uvS_over h9.1 h9.2] at h; simp at h
    · by_cases hb : b.toNat < 128
      · by_cases hf : 0 < k ∧ b.toNat = 0
        · rw [uvS_form (by omega) hf.1 hf.2] at h; simp at h
        · rw [uvS_done (by omega) hb hf] at h
          injection h with h1 h2
          injection h2 with h2 _
          refine ⟨b.toNat % 128, h1.symm, by omega, by rw [List.length_cons]; omega, ?_, by omega⟩
          rw [← h2, show k + 1 - k = 1 from by omega, Nat.mod_eq_of_lt hb, pu_last hb]
          simp
      · rw [uvS_more (by omega) (by omega)] at h
        obtain ⟨y, h1, h2, h3, h4, h5⟩ := ih (k + 1) _ z m (by omega) h
        have hy : 0 < y := by omega
        have hlt := b.toNat_lt
        refine ⟨b.toNat % 128 + y * 128, ?_, by omega, by rw [List.length_cons]; omega, ?_, by omega⟩
        · rw [h1, pow7, ← Nat.mul_assoc, Nat.add_mul, Nat.add_assoc]
        · rw [pu_more (by omega), show m - k = (m - (k + 1)) + 1 from by omega, List.take_succ_cons, ← h4, show (b.toNat % 128 + y * 128) / 128 = y from by omega,
            show (b.toNat % 128 + y * 128) % 128 + 128 = b.toNat from by omega]
          simp
theorem pu_mono (b : Nat) : ∀ a, a ≤ b → (pu a).length ≤ (pu b).length := by
  induction b using Nat.strongRecOn with
  | ind b ih =>
    intro a hab
    by_cases ha : a < 128
    · rw [pu_last ha]; exact pu_pos b
    · rw [pu_more (n := a) (by omega), pu_more (n := b) (by omega), List.length_cons, List.length_cons]
      have := ih (b / 128) (by omega) (a / 128) (by omega)
      omega
end Go.Proofs.YtnmbjhpecblioaaGreatDoor
