
/-
  Rows of bits as lists: the bits of a number, the number of bits, the bytes of a row; what a part that fits into the last byte does to the bytes. Plain lemmas on lists and numbers.
-/
import Derived.Test.YtgogpngobdafaaaDoorGen
namespace Go.Proofs.YtgogpngobdafaaaDoor
set_option linter.unusedVariables false
set_option linter.unusedSimpArgs false

/-- The w lowest bits of n, the highest one first. -/
def bitsOf : Nat → Nat → List Bool
  | _, 0 => []
  | n, w + 1 => n.testBit w :: bitsOf n w
/-- Bits as a number, the first one highest. -/
def natOf (l : List Bool) : Nat := l.foldl (fun a b => 2 * a + b.toNat) 0
/-- Up to eight bits as a byte, the first one highest. -/
def packB (l : List Bool) : Nat := natOf l * 2 ^ (8 - l.length)
/-- A row's bytes. -/
def bytesOf (l : List Bool) : List UInt8 := (List.range ((l.length + 7) / 8)).map fun i => UInt8.ofNat (packB ((l.drop (8 * i)).take 8))
/-- The bytes with one byte 0 more where the last one is full. -/
def extB (l : List Bool) : List UInt8 := if l.length % 8 = 0 then bytesOf l ++ [0] else bytesOf l

theorem bitsOf_length (n w : Nat) : (bitsOf n w).length = w := by
  induction w with
  | zero => rfl
  | succ w ih => simp [bitsOf, ih]
theorem bitsOf_add (n a b : Nat) : bitsOf n (a + b) = bitsOf (n / 2 ^ b) a ++ bitsOf n b := by
  induction a with
  | zero => simp [bitsOf]
  | succ a ih =>
    rw [show a + 1 + b = (a + b) + 1 from by omega]
    simp only [bitsOf, ih, Nat.testBit_div_two_pow, List.cons_append]

theorem bitsOf_mod (n c : Nat) (h : c ≤ 8) : bitsOf (n % 256) c = bitsOf n c := by
  induction c with
  | zero => rfl
  | succ c ih =>
    rw [bitsOf, bitsOf, ih (by omega), show (256 : Nat) = 2 ^ 8 from rfl, Nat.testBit_mod_two_pow]
    simp; omega

theorem foldl_bits (m : List Bool) (a : Nat) : m.foldl (fun a b => 2 * a + b.toNat) a = a * 2 ^ m.length + natOf m := by
  induction m generalizing a with
  | nil => simp [natOf]
  | cons b m ih =>
    simp only [List.foldl_cons, natOf, List.length_cons]
    rw [ih, ih (2 * 0 + b.toNat), Nat.pow_succ, Nat.add_mul, Nat.add_mul]
    have : 2 * a * 2 ^ m.length = a * (2 ^ m.length * 2) := by rw [Nat.mul_comm 2 a, Nat.mul_assoc, Nat.mul_comm 2]
    omega
theorem natOf_append (l m : List Bool) : natOf (l ++ m) = natOf l * 2 ^ m.length + natOf m := by
  rw [natOf, List.foldl_append, foldl_bits]; rfl
theorem natOf_cons (b : Bool) (l : List Bool) : natOf (b :: l) = b.toNat * 2 ^ l.length + natOf l := by
  rw [natOf, List.foldl_cons, foldl_bits]; simp
theorem natOf_lt (l : List Bool) : natOf l < 2 ^ l.length := by
  induction l with
  | nil => decide
  | cons b l ih =>
    rw [natOf_cons, List.length_cons, Nat.pow_succ]
    have : b.toNat * 2 ^ l.length ≤ 1 * 2 ^ l.length := Nat.mul_le_mul_right _ (by cases b <;> decide)
    omega
theorem natOf_bitsOf (n w : Nat) : natOf (bitsOf n w) = n % 2 ^ w := by
  induction w with
  | zero => simp [bitsOf, natOf, Nat.mod_one]
  | succ w ih =>
    rw [bitsOf, natOf_cons, ih, bitsOf_length, Nat.mod_pow_succ, Nat.toNat_testBit, Nat.mul_comm]
    omega
theorem packB_lt (l : List Bool) (h : l.length ≤ 8) : packB l < 256 := by
  unfold packB
  have h1 := Nat.mul_lt_mul_of_pos_right (natOf_lt l) (show 0 < 2 ^ (8 - l.length) from Nat.two_pow_pos _)
  rw [← Nat.pow_add, show l.length + (8 - l.length) = 8 from by omega] at h1
  omega
/-- A part behind others in one byte. -/
theorem packB_append (t m : List Bool) (h : t.length + m.length ≤ 8) : packB (t ++ m) = packB t ||| (natOf m * 2 ^ (8 - m.length) / 2 ^ t.length) := by
  have e1 : natOf m * 2 ^ (8 - m.length) / 2 ^ t.length = natOf m * 2 ^ (8 - m.length - t.length) := by
    rw [show 8 - m.length = (8 - m.length - t.length) + t.length from by omega, Nat.pow_add, ← Nat.mul_assoc, Nat.mul_div_cancel _ (Nat.two_pow_pos _), show (8 - m.length - t.length) + t.length - t.length = 8 - m.length - t.length from by omega]
  have hlt : natOf m * 2 ^ (8 - m.length - t.length) < 2 ^ (8 - t.length) := by
    have := Nat.mul_lt_mul_of_pos_right (natOf_lt m) (show 0 < 2 ^ (8 - m.length - t.length) from Nat.two_pow_pos _)
    rwa [← Nat.pow_add, show m.length + (8 - m.length - t.length) = 8 - t.length from by omega] at this
  rw [e1, Nat.or_comm]
  show packB (t ++ m) = _ ||| (natOf t * 2 ^ (8 - t.length))
  rw [or_beside _ _ _ hlt, packB, natOf_append, List.length_append, Nat.add_mul, Nat.mul_assoc, ← Nat.pow_add,
    show m.length + (8 - (t.length + m.length)) = 8 - t.length from by omega, show 8 - (t.length + m.length) = 8 - m.length - t.length from by omega]
  omega

theorem bytesOf_length (l : List Bool) : (bytesOf l).length = (l.length + 7) / 8 := by simp [bytesOf]
theorem bytesOf_get (l : List Bool) (i : Nat) (h : i < (l.length + 7) / 8) : (bytesOf l)[i]? = some (UInt8.ofNat (packB ((l.drop (8 * i)).take 8))) := by
  simp [bytesOf, h]
theorem extB_length (l : List Bool) : (extB l).length = l.length / 8 + 1 := by
  unfold extB; split <;> simp [bytesOf_length] <;> omega
/-- The last byte: what the bits behind the whole bytes come to. -/
theorem extB_last (l : List Bool) : (extB l)[l.length / 8]? = some (UInt8.ofNat (packB (l.drop (8 * (l.length / 8))))) := by
  unfold extB
  split
  · rename_i h
    have e : l.length / 8 = (bytesOf l).length := by rw [bytesOf_length]; omega
    rw [e, List.getElem?_concat_length, ← e, List.drop_eq_nil_of_le (by omega)]
    rfl
  · rw [bytesOf_get _ _ (by omega), List.take_of_length_le (by simp; omega)]
theorem extB_get (l : List Bool) (i : Nat) (h : i < l.length / 8) : (extB l)[i]? = some (UInt8.ofNat (packB ((l.drop (8 * i)).take 8))) := by
  unfold extB
  split
  · rw [List.getElem?_append_left (by rw [bytesOf_length]; omega), bytesOf_get _ _ (by omega)]
  · rw [bytesOf_get _ _ (by omega)]
/-- A part that fits into the last byte. -/
theorem row_step (l m : List Bool) (hm : 0 < m.length) (h : l.length % 8 + m.length ≤ 8) :
    bytesOf (l ++ m) = (extB l).set (l.length / 8) (UInt8.ofNat (packB (l.drop (8 * (l.length / 8)) ++ m))) := by
  apply List.ext_getElem?
  intro i
  rw [List.getElem?_set]
  by_cases hi : i < l.length / 8
  · rw [if_neg (by omega), extB_get l i hi, bytesOf_get _ _ (by simp; omega), List.drop_append_of_le_length (by omega), List.take_append_of_le_length (by simp; omega)]
  · by_cases he : l.length / 8 = i
    · rw [if_pos he, if_pos (by rw [extB_length]; omega), bytesOf_get _ _ (by simp; omega), List.drop_append_of_le_length (by omega), List.take_of_length_le (by simp; omega), he]
    · rw [if_neg he, List.getElem?_eq_none (by rw [bytesOf_length]; simp; omega), List.getElem?_eq_none (by rw [extB_length]; omega)]
end Go.Proofs.YtgogpngobdafaaaDoor
