/-
  UTF-8, plainly: how many bytes the rune has that bytes begin with, or none, as the document's answer counts them; and that a text is valid as the library says just if all its runes are there. Nothing here speaks of the program.
-/
import Derived.Test.YtpdbpgebgjgbkaaDoorLb
namespace Go.Proofs.YtpdbpgebgjgbkaaDoor
set_option linter.unusedVariables false
set_option linter.unusedSimpArgs false

/-- How many bytes the rune has at the head of n bytes that begin b0 b1 b2 b3; 0: there is none. -/
def stepN (n b0 b1 b2 b3 : Nat) : Nat :=
  if b0 < 128 then 1
  else if (194 ≤ b0 ∧ b0 < 224) ∧ (1 < n ∧ b1 / 64 = 2) then 2
  else if (224 ≤ b0 ∧ b0 < 240) ∧ (1 < n ∧ b1 / 64 = 2) ∧ (2 < n ∧ b2 / 64 = 2) then
    (if 2048 ≤ b0 % 16 * 4096 + b1 % 64 * 64 + b2 % 64 ∧ (b0 % 16 * 4096 + b1 % 64 * 64 + b2 % 64 < 55296 ∨ 57343 < b0 % 16 * 4096 + b1 % 64 * 64 + b2 % 64) then 3 else 0)
  else if (240 ≤ b0 ∧ b0 < 245) ∧ (1 < n ∧ b1 / 64 = 2) ∧ (2 < n ∧ b2 / 64 = 2) ∧ (3 < n ∧ b3 / 64 = 2) then
    (if 65536 ≤ b0 % 8 * 262144 + b1 % 64 * 4096 + b2 % 64 * 64 + b3 % 64 ∧ b0 % 8 * 262144 + b1 % 64 * 4096 + b2 % 64 * 64 + b3 % 64 ≤ 1114111 then 4 else 0)
  else 0
set_option maxRecDepth 100000 in
set_option maxHeartbeats 4000000 in
theorem stepN_decode (n b0 b1 b2 b3 : Nat) (h0 : b0 < 256) (h1 : b1 < 256) (h2 : b2 < 256) (h3 : b3 < 256) :
    (stepN n b0 b1 b2 b3 = 0 ∧ Lib.decodeN n b0 b1 b2 b3 = (65533, 1)) ∨ (0 < stepN n b0 b1 b2 b3 ∧ (Lib.decodeN n b0 b1 b2 b3).2 = stepN n b0 b1 b2 b3 ∧ ¬ ((Lib.decodeN n b0 b1 b2 b3).1 = 65533 ∧ (Lib.decodeN n b0 b1 b2 b3).2 = 1)) := by
  unfold stepN Lib.decodeN
  by_cases a0 : b0 < 128
  · rw [if_pos a0, if_pos a0]; right; simp; omega
  rw [if_neg a0, if_neg a0]
  by_cases a1 : b0 / 32 = 6 ∧ (1 < n ∧ b1 / 64 = 2)
  · rw [if_pos a1]
    by_cases a2 : 194 ≤ b0
    · rw [if_pos ⟨⟨a2, by omega⟩, a1.2⟩, if_pos (by omega)]; right; simp
    · rw [if_neg (by omega), if_neg (by omega), if_neg (by omega), if_neg (by omega)]; left; simp
  rw [if_neg a1, if_neg (fun h => a1 ⟨by omega, h.2⟩)]
  by_cases b1' : b0 / 16 = 14 ∧ (1 < n ∧ b1 / 64 = 2) ∧ (2 < n ∧ b2 / 64 = 2)
  · rw [if_pos b1', if_pos ⟨⟨by omega, by omega⟩, b1'.2⟩]
    have hv : b0 % 16 * 4096 + b1 % 64 * 64 + b2 % 64 ≤ 1114111 := by omega
    by_cases c : 2048 ≤ b0 % 16 * 4096 + b1 % 64 * 64 + b2 % 64 ∧ (b0 % 16 * 4096 + b1 % 64 * 64 + b2 % 64 < 55296 ∨ 57343 < b0 % 16 * 4096 + b1 % 64 * 64 + b2 % 64)
    · rw [if_pos c, if_pos ⟨c.1, by omega⟩]; right; simp
    · rw [if_neg c, if_neg (fun h => c ⟨h.1, by omega⟩)]; left; simp
  rw [if_neg b1', if_neg (fun h => b1' ⟨by omega, h.2⟩)]
  by_cases d1 : b0 / 8 = 30 ∧ (1 < n ∧ b1 / 64 = 2) ∧ (2 < n ∧ b2 / 64 = 2) ∧ (3 < n ∧ b3 / 64 = 2)
  · rw [if_pos d1]
    by_cases a2 : b0 < 245
    · rw [if_pos ⟨⟨by omega, a2⟩, d1.2⟩]
      by_cases c : 65536 ≤ b0 % 8 * 262144 + b1 % 64 * 4096 + b2 % 64 * 64 + b3 % 64 ∧ b0 % 8 * 262144 + b1 % 64 * 4096 + b2 % 64 * 64 + b3 % 64 ≤ 1114111
      · rw [if_pos c, if_pos ⟨c.1, by omega⟩]; right; simp
      · rw [if_neg c, if_neg (by omega)]; left; simp
    · rw [if_neg (by omega), if_neg (by omega)]; left; simp
  · rw [if_neg d1, if_neg (fun h => d1 ⟨by omega, h.2⟩)]; left; simp
def stepB (l : Bs) : Nat := stepN l.length (l.getD 0 0).toNat (l.getD 1 0).toNat (l.getD 2 0).toNat (l.getD 3 0).toNat
theorem valid_stepB (l : Bs) (hne : l ≠ []) : Lib.validD l = if stepB l = 0 then false else Lib.validD (l.drop (stepB l)) := by
  rw [Lib.validD_step l hne, Lib.decodeL_N]
  rcases stepN_decode l.length (l.getD 0 0).toNat (l.getD 1 0).toNat (l.getD 2 0).toNat (l.getD 3 0).toNat (l.getD 0 0).toNat_lt (l.getD 1 0).toNat_lt (l.getD 2 0).toNat_lt (l.getD 3 0).toNat_lt with ⟨h, e⟩ | ⟨h, e, n⟩
  · rw [e, if_pos ⟨rfl, rfl⟩, if_pos (show stepB l = 0 from h)]
  · rw [if_neg n, if_neg (by unfold stepB; omega), e]; rfl
theorem stepB_le (l : Bs) : stepB l ≤ l.length ∨ l = [] := by
  by_cases h : l = []
  · exact .inr h
  · left
    have hl : 0 < l.length := List.length_pos_iff.2 h
    unfold stepB stepN
    repeat' split
    all_goals omega
end Go.Proofs.YtpdbpgebgjgbkaaDoor
