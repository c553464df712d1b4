/-
  Bytes that are taken as labels are those of the labels, plainly.
-/
import Derived.Test.YtmicbgcdnkomjaaDoorLw2
namespace Go.Proofs.YtmicbgcdnkomjaaDoor
set_option linter.unusedVariables false
set_option linter.unusedSimpArgs false
open Go.RowKit
theorem pu_form {b : Bs} (h : (uvS 0 0 b).2.2 = 0) : pu (uvS 0 0 b).1 = b.take (uvS 0 0 b).2.1 ∧ (uvS 0 0 b).2.1 ≤ b.length := by
  obtain ⟨y, h1, h2, h3, h4, -⟩ := uvS_form_of b 0 0 (uvS 0 0 b).1 (uvS 0 0 b).2.1 (by omega) (Prod.ext rfl (Prod.ext rfl h))
  simp only [Nat.mul_zero, Nat.pow_zero, Nat.mul_one, Nat.zero_add, Nat.sub_zero] at h1 h3 h4
  rw [h1]
  exact ⟨h4, h3⟩
theorem take_two (b : Bs) (k n : Nat) : b.take k ++ (b.drop k).take n = b.take (k + n) := List.take_add.symm
theorem textAt_form {b : Bs} {most : Nat} (h : (textAt b most).2.2 = 0) : sizedP (textAt b most).1 = b.take (textAt b most).2.1 := by
  have hf := @pu_form b
  unfold textAt at h ⊢
  by_cases h1 : (uvS 0 0 b).2.2 ≠ 0
  · rw [if_pos h1] at h; exact absurd h h1
  · rw [if_neg h1] at h ⊢
    obtain ⟨f1, f2⟩ := hf (by omega)
    by_cases h2 : most < (uvS 0 0 b).1
    · rw [if_pos h2] at h; simp at h
    · rw [if_neg h2] at h ⊢
      by_cases h3 : b.length - (uvS 0 0 b).2.1 < (uvS 0 0 b).1
      · rw [if_pos h3] at h; simp at h
      · rw [if_neg h3]
        have hl : ((b.drop (uvS 0 0 b).2.1).take (uvS 0 0 b).1).length = (uvS 0 0 b).1 := by rw [List.length_take, List.length_drop]; omega
        unfold sizedP
        simp only [mkB_size, hl, bl_mk]
        rw [f1, take_two]
theorem labelAt_form {b : Bs} (h : (labelAt b).2.2 = 0) : sizedP (labelAt b).1.1 ++ sizedP (labelAt b).1.2 = b.take (labelAt b).2.1 := by
  have hf := @textAt_form b 64
  have hg := @textAt_form (b.drop (textAt b 64).2.1) 128
  unfold labelAt at h ⊢
  by_cases h1 : (textAt b 64).2.2 ≠ 0
  · rw [if_pos h1] at h; exact absurd h h1
  · rw [if_neg h1] at h ⊢
    by_cases h2 : (textAt (b.drop (textAt b 64).2.1) 128).2.2 ≠ 0
    · rw [if_pos h2] at h; exact absurd h h2
    · rw [if_neg h2]
      simp only
      rw [hf (by omega), hg (by omega), take_two]
theorem labsAt_form : ∀ (k : Nat) (b : Bs), (labsAt k b).2.2 = 0 → labBytes (labsAt k b).1 = b.take (labsAt k b).2.1 ∧ (labsAt k b).1.length = k ∧ (labsAt k b).2.1 ≤ b.length
  | 0, b, _ => ⟨by simp [labsAt, labBytes], rfl, Nat.zero_le _⟩
  | k + 1, b, h => by
    have hf := @labelAt_form b
    have hle := (labelAt_le b).1
    have ih := labsAt_form k (b.drop (labelAt b).2.1)
    rw [labsAt] at h ⊢
    by_cases h1 : (labelAt b).2.2 ≠ 0
    · rw [if_pos h1] at h; exact absurd h h1
    · rw [if_neg h1] at h ⊢
      by_cases h2 : (labsAt k (b.drop (labelAt b).2.1)).2.2 ≠ 0
      · rw [if_pos h2] at h; exact absurd h h2
      · rw [if_neg h2]
        obtain ⟨i1, i2, i3⟩ := ih (by omega)
        rw [List.length_drop] at i3
        refine ⟨?_, ?_, ?_⟩
        · simp only
          rw [labBytes_cons, hf (by omega), i1, take_two]
        · simp only [List.length_cons]; omega
        · simp only; omega
theorem takeP_form {b : Bs} (h : (takeP b).2.2 = 0) : bytesP (takeP b).1 = (0, b.take (takeP b).2.1) ∧ (takeP b).2.1 ≤ b.length := by
  have hf := @pu_form b
  have hg := labsAt_form (uvS 0 0 b).1 (b.drop (uvS 0 0 b).2.1)
  unfold takeP at h ⊢
  by_cases h1 : (uvS 0 0 b).2.2 ≠ 0
  · rw [if_pos h1] at h; exact absurd h h1
  · rw [if_neg h1] at h ⊢
    obtain ⟨f1, f2⟩ := hf (by omega)
    by_cases h2 : 16 < (uvS 0 0 b).1
    · rw [if_pos h2] at h; simp at h
    · rw [if_neg h2] at h ⊢
      by_cases h3 : (labsAt (uvS 0 0 b).1 (b.drop (uvS 0 0 b).2.1)).2.2 ≠ 0
      · rw [if_pos h3] at h; exact absurd h h3
      · rw [if_neg h3] at h ⊢
        obtain ⟨g1, g2, g3⟩ := hg (by omega)
        by_cases h4 : rightP (labsAt (uvS 0 0 b).1 (b.drop (uvS 0 0 b).2.1)).1 ≠ 0
        · rw [if_pos h4] at h; exact absurd h h4
        · rw [if_neg h4]
          rw [List.length_drop] at g3
          refine ⟨?_, by simp only; omega⟩
          simp only
          unfold bytesP
          rw [if_neg h4, g2, f1, g1, take_two]
theorem labsAt_small : ∀ (k : Nat) (b : Bs), Small (labsAt k b).1 ∧ (labsAt k b).1.length ≤ k ∧ (labsAt k b).2.1 ≤ b.length
  | 0, b => ⟨fun x hx => by simp [labsAt] at hx, Nat.le_refl _, Nat.zero_le _⟩
  | k + 1, b => by
    obtain ⟨l1, l2, l3⟩ := labelAt_le b
    obtain ⟨i1, i2, i3⟩ := labsAt_small k (b.drop (labelAt b).2.1)
    rw [List.length_drop] at i3
    rw [labsAt]
    by_cases h1 : (labelAt b).2.2 ≠ 0
    · rw [if_pos h1]; exact ⟨fun x hx => by simp at hx, Nat.zero_le _, Nat.zero_le _⟩
    · rw [if_neg h1]
      by_cases h2 : (labsAt k (b.drop (labelAt b).2.1)).2.2 ≠ 0
      · rw [if_pos h2]; exact ⟨fun x hx => by simp at hx, Nat.zero_le _, Nat.zero_le _⟩
      · rw [if_neg h2]
        refine ⟨fun x hx => ?_, by simp only [List.length_cons]; omega, by simp only; omega⟩
        rcases List.mem_cons.1 hx with rfl | hx
        · exact ⟨l2, l3⟩
        · exact i1 x hx
theorem takeP_small (b : Bs) : Small (takeP b).1 ∧ (takeP b).1.length ≤ 16 ∧ (takeP b).2.1 ≤ b.length := by
  have hk := uvS_le' b
  obtain ⟨i1, i2, i3⟩ := labsAt_small (uvS 0 0 b).1 (b.drop (uvS 0 0 b).2.1)
  rw [List.length_drop] at i3
  have hz : Small ([] : List Lb) := fun x hx => by simp at hx
  unfold takeP
  split
  · exact ⟨hz, Nat.zero_le _, Nat.zero_le _⟩
  · split
    · exact ⟨hz, Nat.zero_le _, Nat.zero_le _⟩
    · split
      · exact ⟨hz, Nat.zero_le _, Nat.zero_le _⟩
      · split
        · exact ⟨hz, Nat.zero_le _, Nat.zero_le _⟩
        · exact ⟨i1, by simp only; omega, by simp only; omega⟩
theorem small_few {l : List Lb} (h : Small l) (hl : l.length ≤ 16) : Few l := ⟨by omega, fun x hx => by have := h x hx; omega⟩
theorem right_small {l : List Lb} (h : rightP l = 0) : Small l ∧ l.length ≤ 16 := by
  obtain ⟨h1, h2, -⟩ := right_parts h
  refine ⟨fun x hx => ?_, h1⟩
  obtain ⟨n, v⟩ := fault_parts (h2 x hx).1
  unfold valuedP at v
  simp only [Bool.and_eq_true, decide_eq_true_eq] at v
  have := (named_parts n).2.1
  rw [bl_len] at this
  have h2 := v.1
  rw [bl_len] at h2
  exact ⟨this, h2⟩
end Go.Proofs.YtmicbgcdnkomjaaDoor
