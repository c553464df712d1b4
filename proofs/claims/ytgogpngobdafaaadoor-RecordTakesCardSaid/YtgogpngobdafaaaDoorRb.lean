/-
  Rows of bits of bytes: plain lemmas.
-/
import Derived.Test.YtgogpngobdafaaaDoorRow
namespace Go.Proofs.YtgogpngobdafaaaDoor
set_option linter.unusedVariables false
set_option linter.unusedSimpArgs false
open Go.RowKit

/-- The bits of bytes, the first one of each highest. -/
def rb (xs : List UInt8) : List Bool := xs.flatMap fun x => bitsOf x.toNat 8
theorem rb_length (xs : List UInt8) : (rb xs).length = 8 * xs.length := by
  induction xs with
  | nil => rfl
  | cons x r ih => simp only [rb, List.flatMap_cons, List.length_append, bitsOf_length, List.length_cons] at ih ⊢; omega
theorem rb_drop8 (xs : List UInt8) (k : Nat) : (rb xs).drop (8 * k) = rb (xs.drop k) := by
  induction k generalizing xs with
  | zero => simp
  | succ k ih =>
    cases xs with
    | nil => simp [rb]
    | cons x r =>
      have e : rb (x :: r) = bitsOf x.toNat 8 ++ rb r := by simp [rb]
      rw [e, show 8 * (k + 1) = (bitsOf x.toNat 8).length + 8 * k from by rw [bitsOf_length]; omega, List.drop_append, List.drop_succ_cons, ← ih, List.drop_of_length_le (by omega), Nat.add_sub_cancel_left, List.nil_append]
theorem bitsOf_drop (x a t : Nat) (h : t ≤ a) : (bitsOf x a).drop t = bitsOf x (a - t) := by
  have := bitsOf_add x t (a - t)
  rw [show t + (a - t) = a from by omega] at this
  rw [this, List.drop_left' (bitsOf_length _ _)]
theorem bitsOf_take (x a c : Nat) (h : c ≤ a) : (bitsOf x a).take c = bitsOf (x / 2 ^ (a - c)) c := by
  have := bitsOf_add x c (a - c)
  rw [show c + (a - c) = a from by omega] at this
  rw [this, List.take_left' (bitsOf_length _ _)]
/-- A part of one byte, taken out of the row. -/
theorem rb_part {xs : List UInt8} {at_ c : Nat} (hk : at_ / 8 < xs.length) (hc : at_ % 8 + c ≤ 8) :
    ((rb xs).drop at_).take c = bitsOf (xs[at_ / 8].toNat / 2 ^ (8 - at_ % 8 - c)) c := by
  have e1 : (rb xs).drop at_ = ((rb xs).drop (8 * (at_ / 8))).drop (at_ % 8) := by rw [List.drop_drop]; congr 1; omega
  have e2 : rb (xs.drop (at_ / 8)) = bitsOf xs[at_ / 8].toNat 8 ++ rb (xs.drop (at_ / 8 + 1)) := by
    rw [List.drop_eq_getElem_cons hk]
    unfold rb
    rw [List.flatMap_cons]
  rw [e1, rb_drop8, e2, List.drop_append_of_le_length (by rw [bitsOf_length]; omega), List.take_append_of_le_length (by rw [List.length_drop, bitsOf_length]; omega),
    bitsOf_drop _ _ _ (by omega), bitsOf_take _ _ _ (by omega)]
theorem part_val (x t c : Nat) (h : t + c ≤ 8) : x * 2 ^ t % 256 / 2 ^ (8 - c) = x / 2 ^ (8 - t - c) % 2 ^ c := by
  have e1 : x * 2 ^ t % 256 = x % 2 ^ (8 - t) * 2 ^ t := by
    have : 256 = 2 ^ (8 - t) * 2 ^ t := by rw [← Nat.pow_add, show 8 - t + t = 8 from by omega]
    rw [this, Nat.mul_mod_mul_right]
  have e2 : 2 ^ (8 - c) = 2 ^ (8 - t - c) * 2 ^ t := by rw [← Nat.pow_add, show 8 - t - c + t = 8 - c from by omega]
  have e3 : 2 ^ (8 - t) = 2 ^ (8 - t - c) * 2 ^ c := by rw [← Nat.pow_add, show 8 - t - c + c = 8 - t from by omega]
  rw [e1, e2, Nat.mul_div_mul_right _ _ (Nat.two_pow_pos t), e3, Nat.mod_mul_right_div_self]
/-- The number of the next bits. -/
def numAt (xs : List UInt8) (at_ c : Nat) : Nat := natOf (((rb xs).drop at_).take c)
theorem numAt_lt (xs : List UInt8) (at_ c : Nat) : numAt xs at_ c < 2 ^ c := Nat.lt_of_lt_of_le (natOf_lt _) (Nat.pow_le_pow_right (by omega) (List.length_take_le _ _))
theorem numAt_zero (xs : List UInt8) (at_ : Nat) : numAt xs at_ 0 = 0 := by simp [numAt, natOf]
theorem numAt_add {xs : List UInt8} {at_ a c : Nat} (h : at_ + a + c ≤ 8 * xs.length) : numAt xs at_ (a + c) = numAt xs at_ a * 2 ^ c + numAt xs (at_ + a) c := by
  unfold numAt
  rw [List.take_add, natOf_append, List.drop_drop]
  have : (((rb xs).drop (at_ + a)).take c).length = c := by rw [List.length_take, List.length_drop, rb_length]; omega
  rw [this]
theorem numAt_part {xs : List UInt8} {at_ c : Nat} (hk : at_ / 8 < xs.length) (hc : at_ % 8 + c ≤ 8) : numAt xs at_ c = xs[at_ / 8].toNat * 2 ^ (at_ % 8) % 256 / 2 ^ (8 - c) := by
  unfold numAt
  rw [rb_part hk hc, natOf_bitsOf, part_val _ _ _ hc]
theorem rb_take_succ {xs : List UInt8} {k : Nat} (hk : k / 8 < xs.length) : (rb xs).take (k + 1) = (rb xs).take k ++ [(xs[k / 8].toNat / 2 ^ (7 - k % 8)).testBit 0] := by
  have h := rb_part (xs := xs) (at_ := k) (c := 1) hk (by omega)
  rw [List.take_add, h, show 8 - k % 8 - 1 = 7 - k % 8 by omega]
  rfl
end Go.Proofs.YtgogpngobdafaaaDoor
