/-
  The order of labels, plainly: 0 just of the same ones, turned when they are, an order of three. Nothing here speaks of the program.
-/
import Derived.Test.YtpdbpgebgjgbkaaDoorLb
namespace Go.Proofs.YtpdbpgebgjgbkaaDoor
set_option linter.unusedVariables false
set_option linter.unusedSimpArgs false
theorem cmpB_turn (a b : Bs) : Lib.compareBytes b a = - Lib.compareBytes a b := by
  rcases cmpB_spec a b with ⟨e, h⟩ | ⟨e, h⟩ | ⟨e, h⟩
  · rw [e, cmpB_gt h]; rfl
  · subst h; rw [e]; rfl
  · rw [e, cmpB_lt h]
theorem cmpB_three (a b : Bs) : Lib.compareBytes a b = -1 ∨ Lib.compareBytes a b = 0 ∨ Lib.compareBytes a b = 1 := by
  rcases cmpB_spec a b with ⟨e, h⟩ | ⟨e, h⟩ | ⟨e, h⟩ <;> simp [e]
theorem cmp_three : ∀ l m : List Lb, compareP l m = -1 ∨ compareP l m = 0 ∨ compareP l m = 1
  | [], [] => .inr (.inl rfl)
  | [], _ :: _ => .inl rfl
  | _ :: _, [] => .inr (.inr rfl)
  | x :: a, y :: b => by
    rw [compareP]
    split
    · exact cmpB_three _ _
    · split
      · exact cmpB_three _ _
      · exact cmp_three a b
theorem cmp_zero : ∀ l m : List Lb, compareP l m = 0 ↔ l = m
  | [], [] => by simp [compareP]
  | [], _ :: _ => by simp [compareP]
  | _ :: _, [] => by simp [compareP]
  | x :: a, y :: b => by
    rw [compareP]
    by_cases h1 : Lib.compareBytes (bl x.1) (bl y.1) ≠ 0
    · rw [if_pos h1]
      constructor
      · intro h; exact absurd h h1
      · intro h; injection h with h _; subst h; rw [cmpB_self]
    · rw [if_neg h1]
      have e1 : x.1 = y.1 := bl_inj (cmpB_zero.1 (Classical.not_not.1 h1))
      by_cases h2 : Lib.compareBytes (bl x.2) (bl y.2) ≠ 0
      · rw [if_pos h2]
        constructor
        · intro h; exact absurd h h2
        · intro h; injection h with h _; subst h; rw [cmpB_self]
      · rw [if_neg h2]
        have e2 : x.2 = y.2 := bl_inj (cmpB_zero.1 (Classical.not_not.1 h2))
        rw [cmp_zero a b]
        have e : x = y := Prod.ext e1 e2
        subst e
        simp
theorem cmp_turn : ∀ l m : List Lb, compareP m l = - compareP l m
  | [], [] => rfl
  | [], _ :: _ => rfl
  | _ :: _, [] => rfl
  | x :: a, y :: b => by
    rw [compareP, compareP, cmpB_turn (bl x.1), cmpB_turn (bl x.2)]
    by_cases h1 : Lib.compareBytes (bl x.1) (bl y.1) = 0
    · have n1 : ¬ (Lib.compareBytes (bl x.1) (bl y.1) ≠ 0) := fun h => h h1
      have n1' : ¬ (- Lib.compareBytes (bl x.1) (bl y.1) ≠ 0) := by omega
      rw [if_neg n1, if_neg n1']
      by_cases h2 : Lib.compareBytes (bl x.2) (bl y.2) = 0
      · have n2 : ¬ (Lib.compareBytes (bl x.2) (bl y.2) ≠ 0) := fun h => h h2
        have n2' : ¬ (- Lib.compareBytes (bl x.2) (bl y.2) ≠ 0) := by omega
        rw [if_neg n2, if_neg n2']
        exact cmp_turn a b
      · have n2 : Lib.compareBytes (bl x.2) (bl y.2) ≠ 0 := h2
        have n2' : - Lib.compareBytes (bl x.2) (bl y.2) ≠ 0 := by omega
        rw [if_pos n2, if_pos n2']
    · have n1 : Lib.compareBytes (bl x.1) (bl y.1) ≠ 0 := h1
      have n1' : - Lib.compareBytes (bl x.1) (bl y.1) ≠ 0 := by omega
      rw [if_pos n1, if_pos n1']
/-- Labels in their order: ahead, by the first name or value that parts them. -/
theorem cmp_neg_cons (x y : Lb) (a b : List Lb) : compareP (x :: a) (y :: b) < 0 ↔ bl x.1 < bl y.1 ∨ (x.1 = y.1 ∧ (bl x.2 < bl y.2 ∨ (x.2 = y.2 ∧ compareP a b < 0))) := by
  rw [compareP]
  rcases cmpB_spec (bl x.1) (bl y.1) with ⟨e, h⟩ | ⟨e, h⟩ | ⟨e, h⟩
  · rw [if_pos (by rw [e]; simp), e]; simp [h]
  · have e1 := bl_inj h
    rw [if_neg (by rw [e]; simp), h]
    rcases cmpB_spec (bl x.2) (bl y.2) with ⟨e', h'⟩ | ⟨e', h'⟩ | ⟨e', h'⟩
    · rw [if_pos (by rw [e']; simp), e']; simp [h', e1]
    · have e2 := bl_inj h'
      rw [if_neg (by rw [e']; simp), h']; simp [e1, e2, ltB_irrefl]
    · rw [if_pos (by rw [e']; simp), e']
      have n2 : ¬ x.2 = y.2 := fun hh => by rw [hh] at h'; exact ltB_irrefl _ h'
      simp [ltB_irrefl, ltB_asymm h', n2]
  · have n1 : ¬ x.1 = y.1 := fun hh => by rw [hh] at h; exact ltB_irrefl _ h
    rw [if_pos (by rw [e]; simp), e]; simp [ltB_asymm h, n1]
theorem cmp_trans : ∀ l m n : List Lb, compareP l m < 0 → compareP m n < 0 → compareP l n < 0
  | [], [], _, h, _ => by simp [compareP] at h
  | [], _ :: _, [], _, h => by simp [compareP] at h
  | [], _ :: _, _ :: _, _, _ => by simp [compareP]
  | _ :: _, [], _, h, _ => by simp [compareP] at h
  | _ :: _, _ :: _, [], _, h => by simp [compareP] at h
  | x :: a, y :: b, z :: c, h1, h2 => by
    rw [cmp_neg_cons] at h1 h2 ⊢
    rcases h1 with h1 | ⟨e1, h1⟩ <;> rcases h2 with h2 | ⟨e2, h2⟩
    · exact .inl (ltB_trans h1 h2)
    · left; rw [← e2]; exact h1
    · left; rw [e1]; exact h2
    · right
      refine ⟨e1.trans e2, ?_⟩
      rcases h1 with h1 | ⟨f1, h1⟩ <;> rcases h2 with h2 | ⟨f2, h2⟩
      · exact .inl (ltB_trans h1 h2)
      · left; rw [← f2]; exact h1
      · left; rw [f1]; exact h2
      · exact .inr ⟨f1.trans f2, cmp_trans a b c h1 h2⟩
/-- What the law of three asks. -/
theorem three_law (a b c : List Lb) : 0 < compareP a b ∨ 0 < compareP b c ∨ (compareP a c ≤ 0 ∧ (compareP a c < 0 ∨ (compareP a b = 0 ∧ compareP b c = 0))) := by
  rcases cmp_three a b with h1 | h1 | h1
  · rcases cmp_three b c with h2 | h2 | h2
    · have := cmp_trans a b c (by omega) (by omega); right; right; omega
    · have := (cmp_zero b c).1 h2; subst this; right; right; omega
    · right; left; omega
  · have := (cmp_zero a b).1 h1; subst this
    rcases cmp_three a c with h2 | h2 | h2
    · right; right; omega
    · right; right; omega
    · right; left; omega
  · left; omega
end Go.Proofs.YtpdbpgebgjgbkaaDoor
