/-
  xxHash64, plainly.
-/
import Derived.WalkKit
import Derived.Handy
namespace Go.Proofs.YtmicbgcdnkomjaaGreatDoor
set_option linter.unusedVariables false
set_option linter.unusedSimpArgs false

def q1 : Nat := 11400714785074694791
def q2 : Nat := 14029467366897019727
def q3 : Nat := 1609587929392839161
def q4 : Nat := 9650029242287828579
def q5 : Nat := 2870177450012600261
def rotl (x n : Nat) : Nat := (x * 2 ^ n % 18446744073709551616) ||| (x / 2 ^ (64 - n))
def xround (a x : Nat) : Nat := rotl ((a + x * q2) % 18446744073709551616) 31 * q1 % 18446744073709551616
def xmerge (h a : Nat) : Nat := ((h ^^^ xround 0 a) * q1 + q4) % 18446744073709551616
def leN : List UInt8 → Nat
  | [] => 0
  | x :: r => x.toNat + 256 * leN r
structure La where
  (a b c d : Nat)
structure La.Ok (s : La) : Prop where
  a : s.a < 18446744073709551616
  b : s.b < 18446744073709551616
  c : s.c < 18446744073709551616
  d : s.d < 18446744073709551616
def laneStep (s : La) (xs : List UInt8) : La :=
  ⟨xround s.a (leN (xs.take 8)), xround s.b (leN ((xs.drop 8).take 8)), xround s.c (leN ((xs.drop 16).take 8)), xround s.d (leN ((xs.drop 24).take 8))⟩
def lanes (s : La) : Nat → List UInt8 → La
  | 0, _ => s
  | n + 1, xs => lanes (laneStep s xs) n (xs.drop 32)
def la0 : La := ⟨(q1 + q2) % 18446744073709551616, q2, 0, 18446744073709551616 - q1⟩
def laneEnd (s : La) : Nat :=
  xmerge (xmerge (xmerge (xmerge ((rotl s.a 1 + rotl s.b 7 + rotl s.c 12 + rotl s.d 18) % 18446744073709551616) s.a) s.b) s.c) s.d
def tail1 (h : Nat) (x : UInt8) : Nat := rotl (h ^^^ (x.toNat * q5 % 18446744073709551616)) 11 * q1 % 18446744073709551616
def tail4 (h : Nat) (xs : List UInt8) : Nat := (rotl (h ^^^ (leN (xs.take 4) * q1 % 18446744073709551616)) 23 * q2 + q3) % 18446744073709551616
def tail8 (h : Nat) (xs : List UInt8) : Nat := (rotl (h ^^^ xround 0 (leN (xs.take 8))) 27 * q1 + q4) % 18446744073709551616
def tails8 (h n : Nat) (xs : List UInt8) : Nat := (List.range n).foldl (fun a i => tail8 a (xs.drop (8 * i))) h
def tailsB (h : Nat) (xs : List UInt8) : Nat := xs.foldl tail1 h
def xend (h : Nat) (xs : List UInt8) : Nat :=
  let h8 := tails8 h (xs.length / 8) xs
  let r := xs.drop (8 * (xs.length / 8))
  if 4 ≤ r.length then tailsB (tail4 h8 r) (r.drop 4) else tailsB h8 r
def xsettle (h : Nat) : Nat :=
  let a := (h ^^^ (h / 8589934592)) * q2 % 18446744073709551616
  let b := (a ^^^ (a / 536870912)) * q3 % 18446744073709551616
  b ^^^ (b / 4294967296)
def xx (xs : List UInt8) : Nat :=
  let n := xs.length
  let h0 := if 32 ≤ n then laneEnd (lanes la0 (n / 32) xs) else q5
  let r := if 32 ≤ n then xs.drop (32 * (n / 32)) else xs
  xsettle (xend ((h0 + n) % 18446744073709551616) r)

theorem xor_lt64 {a b : Nat} (ha : a < 18446744073709551616) (hb : b < 18446744073709551616) : a ^^^ b < 18446744073709551616 := Nat.xor_lt_two_pow (n := 64) ha hb
theorem rotl_lt {x n : Nat} (h : x < 18446744073709551616) : rotl x n < 18446744073709551616 :=
  Nat.or_lt_two_pow (n := 64) (Nat.mod_lt _ (by decide)) (Nat.lt_of_le_of_lt (Nat.div_le_self _ _) h)
theorem xround_lt (a x : Nat) : xround a x < 18446744073709551616 := Nat.mod_lt _ (by decide)
theorem xmerge_lt (a x : Nat) : xmerge a x < 18446744073709551616 := Nat.mod_lt _ (by decide)
theorem leN_lt (xs : List UInt8) : leN xs < 256 ^ xs.length := by
  induction xs with
  | nil => decide
  | cons x r ih => have := x.toNat_lt; simp only [leN, List.length_cons, Nat.pow_succ]; omega
theorem leN_append (xs ys : List UInt8) : leN (xs ++ ys) = leN xs + 256 ^ xs.length * leN ys := by
  induction xs with
  | nil => simp [leN]
  | cons x r ih => simp only [List.cons_append, leN, ih, List.length_cons, Nat.pow_succ, Nat.mul_add, Nat.add_assoc]; rw [Nat.mul_comm (256 ^ r.length) 256, Nat.mul_assoc]
theorem leN_snoc (xs : List UInt8) (x : UInt8) : leN (xs ++ [x]) = leN xs + x.toNat * 2 ^ (8 * xs.length) := by
  rw [leN_append, Nat.pow_mul]
  show _ + 256 ^ _ * (x.toNat + 256 * 0) = _
  rw [Nat.mul_zero, Nat.add_zero, Nat.mul_comm]
theorem laneStep_ok (s : La) (xs : List UInt8) : (laneStep s xs).Ok := ⟨xround_lt _ _, xround_lt _ _, xround_lt _ _, xround_lt _ _⟩
theorem lanes_ok {s : La} (h : s.Ok) : ∀ (n : Nat) (xs : List UInt8), (lanes s n xs).Ok := by
  intro n
  induction n generalizing s with
  | zero => intro _; rw [lanes]; exact h
  | succ n ih => intro xs; rw [lanes]; exact ih (laneStep_ok s xs) _
theorem la0_ok : la0.Ok := by constructor <;> decide
theorem laneEnd_lt (s : La) : laneEnd s < 18446744073709551616 := xmerge_lt _ _
theorem tail1_lt (h : Nat) (x : UInt8) : tail1 h x < 18446744073709551616 := Nat.mod_lt _ (by decide)
theorem tail4_lt (h : Nat) (xs : List UInt8) : tail4 h xs < 18446744073709551616 := Nat.mod_lt _ (by decide)
theorem tail8_lt (h : Nat) (xs : List UInt8) : tail8 h xs < 18446744073709551616 := Nat.mod_lt _ (by decide)
theorem tailsB_lt {h : Nat} (hh : h < 18446744073709551616) (xs : List UInt8) : tailsB h xs < 18446744073709551616 := by
  induction xs generalizing h with
  | nil => exact hh
  | cons x r ih => rw [tailsB, List.foldl_cons]; exact ih (tail1_lt _ _)
theorem lanes_succ (s : La) (n : Nat) (xs : List UInt8) : lanes s (n + 1) xs = laneStep (lanes s n xs) (xs.drop (32 * n)) := by
  induction n generalizing s xs with
  | zero => simp only [lanes, Nat.mul_zero, List.drop_zero]
  | succ n ih =>
    rw [lanes, ih, List.drop_drop, lanes]
    rw [show 32 * (n + 1) = 32 + 32 * n from by omega]
theorem tails8_succ (h : Nat) (n : Nat) (xs : List UInt8) : tails8 h (n + 1) xs = tail8 (tails8 h n xs) (xs.drop (8 * n)) := by
  unfold tails8
  rw [List.range_succ, List.foldl_append, List.foldl_cons, List.foldl_nil]
theorem tails8_lt {h : Nat} (hh : h < 18446744073709551616) (n : Nat) (xs : List UInt8) : tails8 h n xs < 18446744073709551616 := by
  cases n with
  | zero => rw [tails8, List.range_zero, List.foldl_nil]; exact hh
  | succ n => rw [tails8_succ]; exact tail8_lt _ _
end Go.Proofs.YtmicbgcdnkomjaaGreatDoor
