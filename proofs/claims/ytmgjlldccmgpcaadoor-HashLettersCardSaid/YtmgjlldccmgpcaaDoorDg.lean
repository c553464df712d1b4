/-
  Rows of bits as letters, plainly.
-/
import Derived.Test.YtmgjlldccmgpcaaDoorRb
namespace Go.Proofs.YtmgjlldccmgpcaaDoor
set_option linter.unusedVariables false
set_option linter.unusedSimpArgs false

/-- The first n numbers of w bits each. -/
def digs (w n : Nat) (l : List Bool) : List Nat := (List.range n).map fun i => natOf ((l.drop (w * i)).take w)
theorem digs_zero (w : Nat) (l : List Bool) : digs w 0 l = [] := rfl
theorem digs_length (w n : Nat) (l : List Bool) : (digs w n l).length = n := by simp [digs]
theorem digs_succ (w n : Nat) (l : List Bool) : digs w (n + 1) l = digs w n l ++ [natOf ((l.drop (w * n)).take w)] := by
  unfold digs
  rw [List.range_succ, List.map_append, List.map_singleton]
theorem digs_append (w n : Nat) (l m : List Bool) (h : w * n ≤ l.length) : digs w n (l ++ m) = digs w n l := by
  unfold digs
  refine List.map_congr_left fun i hi => ?_
  have hi' := List.mem_range.1 hi
  have hw : w * i + w ≤ w * n := by
    have := Nat.mul_le_mul_left w (show i + 1 ≤ n from hi')
    rw [Nat.mul_add, Nat.mul_one] at this
    exact this
  rw [List.drop_append_of_le_length (by omega), List.take_append_of_le_length (by rw [List.length_drop]; omega)]
/-- A letter. -/
def ltr (L : List UInt8) (d : Nat) : UInt8 := L.getD d 0
/-- Numbers as letters. -/
def lettersOf (L : List UInt8) (ds : List Nat) : List UInt8 := ds.map fun d => ltr L d
theorem lettersOf_snoc (L : List UInt8) (ds : List Nat) (d : Nat) : lettersOf L (ds ++ [d]) = lettersOf L ds ++ [ltr L d] := by simp [lettersOf]
theorem lettersOf_length (L : List UInt8) (ds : List Nat) : (lettersOf L ds).length = ds.length := by simp [lettersOf]
/-- The bits 0 that fill a row up to whole letters. -/
def fillN (w n : Nat) : Nat := (w - n % w) % w
def fillB (w : Nat) (l : List Bool) : List Bool := l ++ List.replicate (fillN w l.length) false
/-- A row of bits as letters of w bits each. -/
def armB (w : Nat) (L : List UInt8) (l : List Bool) : List UInt8 := lettersOf L (digs w ((fillB w l).length / w) (fillB w l))
/-- Bytes as letters. -/
def armS (w : Nat) (L : List UInt8) (xs : List UInt8) : List UInt8 := armB w L (rb xs)

theorem rb_append (xs ys : List UInt8) : rb (xs ++ ys) = rb xs ++ rb ys := by simp [rb]
theorem rb_one (x : UInt8) : rb [x] = bitsOf x.toNat 8 := by simp [rb]
theorem natOf_zeros (n : Nat) : natOf (List.replicate n false) = 0 := by
  induction n with
  | zero => rfl
  | succ n ih => rw [List.replicate_succ, natOf_cons, ih]; simp
/-- What stands ahead and behind in a row of bits. -/
theorem natOf_split (l : List Bool) (k : Nat) (h : k ≤ l.length) : natOf l = natOf (l.take k) * 2 ^ (l.length - k) + natOf (l.drop k) := by
  conv => lhs; rw [← List.take_append_drop k l]
  rw [natOf_append, List.length_drop]
theorem natOf_high (l : List Bool) (k : Nat) (h : k ≤ l.length) : natOf l / 2 ^ (l.length - k) = natOf (l.take k) := by
  have hd : natOf (l.drop k) < 2 ^ (l.length - k) := by have := natOf_lt (l.drop k); rwa [List.length_drop] at this
  rw [natOf_split l k h, Nat.add_comm, Nat.add_mul_div_right _ _ (Nat.two_pow_pos _), Nat.div_eq_of_lt hd, Nat.zero_add]
theorem natOf_low (l : List Bool) (k : Nat) (h : k ≤ l.length) : natOf l % 2 ^ (l.length - k) = natOf (l.drop k) := by
  have hd : natOf (l.drop k) < 2 ^ (l.length - k) := by have := natOf_lt (l.drop k); rwa [List.length_drop] at this
  rw [natOf_split l k h, Nat.add_comm, Nat.add_mul_mod_self_right, Nat.mod_eq_of_lt hd]
/-- Whole letters: nothing fills up. -/
theorem fillN_whole (w n q : Nat) (hw : 0 < w) (h : n = w * q) : fillN w n = 0 := by unfold fillN; rw [h, Nat.mul_mod_right, Nat.sub_zero, Nat.mod_self]
theorem armB_whole (w : Nat) (L : List UInt8) (l : List Bool) (q : Nat) (hw : 0 < w) (h : l.length = w * q) : armB w L l = lettersOf L (digs w q l) := by
  have hf := fillN_whole w l.length q hw h
  unfold armB fillB
  rw [hf, List.replicate_zero, List.append_nil, h, Nat.mul_div_cancel_left _ hw]
/-- A last letter that is filled up. -/
theorem armB_part (w : Nat) (L : List UInt8) (l : List Bool) (q c : Nat) (hc0 : 0 < c) (hc : c < w) (h : l.length = w * q + c) :
    armB w L l = lettersOf L (digs w q l) ++ [ltr L (natOf (l.drop (w * q)) * 2 ^ (w - c))] := by
  have hm : l.length % w = c := by rw [h, Nat.mul_add_mod, Nat.mod_eq_of_lt hc]
  have hf : fillN w l.length = w - c := by unfold fillN; rw [hm, Nat.mod_eq_of_lt (by omega)]
  have hlen : (l ++ List.replicate (w - c) false).length = w * (q + 1) := by rw [List.length_append, List.length_replicate, h, Nat.mul_add, Nat.mul_one]; omega
  unfold armB fillB
  rw [hf, hlen, Nat.mul_div_cancel_left _ (by omega), digs_succ, lettersOf_snoc, digs_append _ _ _ _ (by omega)]
  congr 3
  rw [List.drop_append_of_le_length (by omega), List.take_of_length_le (by rw [List.length_append, List.length_drop, List.length_replicate]; omega), natOf_append, natOf_zeros, List.length_replicate, Nat.add_zero]
theorem natOf_take_lt (l : List Bool) (w k : Nat) : natOf ((l.drop k).take w) < 2 ^ w := Nat.lt_of_lt_of_le (natOf_lt _) (Nat.pow_le_pow_right (by decide) (List.length_take_le _ _))
/-- The letters of addresses, and of digits. -/
def armL : List UInt8 := [65, 66, 67, 68, 69, 70, 71, 72, 73, 74, 75, 76, 77, 78, 79, 80, 81, 82, 83, 84, 85, 86, 87, 88, 89, 90, 97, 98, 99, 100, 101, 102, 103, 104, 105, 106, 107, 108, 109, 110, 111, 112, 113, 114, 115, 116, 117, 118, 119, 120, 121, 122, 48, 49, 50, 51, 52, 53, 54, 55, 56, 57, 45, 95]
def hexL : List UInt8 := [48, 49, 50, 51, 52, 53, 54, 55, 56, 57, 97, 98, 99, 100, 101, 102]
/-- Bytes as digits, byte by byte. -/
def hexB (x : UInt8) : List UInt8 := [ltr hexL (x.toNat / 16), ltr hexL (x.toNat % 16)]
theorem digs_add (w a b : Nat) (l m : List Bool) (h : l.length = w * a) : digs w (a + b) (l ++ m) = digs w a l ++ digs w b m := by
  induction b with
  | zero => rw [Nat.add_zero, digs_append _ _ _ _ (by omega), digs_zero, List.append_nil]
  | succ b ih =>
    rw [← Nat.add_assoc, digs_succ, ih, digs_succ, List.append_assoc, Nat.mul_add, ← h, List.drop_append, List.drop_of_length_le (by omega), List.nil_append, Nat.add_sub_cancel_left]
theorem hex_byte (x : UInt8) : lettersOf hexL (digs 4 2 (bitsOf x.toNat 8)) = hexB x := by
  have h1 : natOf (((bitsOf x.toNat 8).drop (4 * 0)).take 4) = x.toNat / 16 := by
    rw [Nat.mul_zero, List.drop_zero, bitsOf_take _ _ _ (by decide), natOf_bitsOf]
    have := x.toNat_lt
    omega
  have h2 : natOf (((bitsOf x.toNat 8).drop (4 * 1)).take 4) = x.toNat % 16 := by
    rw [bitsOf_drop _ _ _ (by decide), List.take_of_length_le (by rw [bitsOf_length]; decide), natOf_bitsOf]
  show lettersOf hexL [natOf (((bitsOf x.toNat 8).drop (4 * 0)).take 4), natOf (((bitsOf x.toNat 8).drop (4 * 1)).take 4)] = _
  rw [h1, h2]
  rfl
theorem hexS_eq (xs : List UInt8) : armS 4 hexL xs = xs.flatMap hexB := by
  have hw : armS 4 hexL xs = lettersOf hexL (digs 4 (2 * xs.length) (rb xs)) := armB_whole 4 _ _ _ (by decide) (by rw [rb_length]; omega)
  rw [hw]
  clear hw
  induction xs with
  | nil => rfl
  | cons x r ih =>
    have e : rb (x :: r) = bitsOf x.toNat 8 ++ rb r := by simp [rb]
    rw [e, List.length_cons, show 2 * (r.length + 1) = 2 + 2 * r.length from by omega, digs_add 4 2 _ _ _ (by rw [bitsOf_length])]
    rw [lettersOf, List.map_append, List.flatMap_cons]
    have h1 := hex_byte x
    unfold lettersOf at h1 ih
    rw [h1, ih]
end Go.Proofs.YtmgjlldccmgpcaaDoor
