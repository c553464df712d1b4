/-
  What is done with two values, whatever is to be done: both sides; sums, products and opposites.
-/
import Derived.Test.YtlaodfkcfclpmaaFmp
namespace Go.Proofs.Ytlaodfkcfclpmaa
set_option linter.unusedVariables false
set_option linter.unusedSimpArgs false
open Go.RowKit

/-- What is done with two values. -/
def doN (op : Int) (a b : Nat) : Nat :=
  if op = 0 then tellO (floatBits .add .f64 a b) else if op = 1 then tellO (floatBits .sub .f64 a b) else if op = 2 then tellO (floatBits .mul .f64 a b) else if op = 3 then tellO (floatBits .quo .f64 a b)
  else if op = 4 then tellN (modR a b) else if op = 5 then tellN (eitherN a b (decide (ordN a b < 0))) else if op = 6 then tellN (eitherN a b (decide (0 < ordN a b))) else 9221120237041090561
theorem doN_0 (a b : Nat) : doN 0 a b = tellO (floatBits .add .f64 a b) := if_pos rfl
theorem doN_1 (a b : Nat) : doN 1 a b = tellO (floatBits .sub .f64 a b) := by unfold doN; rw [if_neg (by decide), if_pos rfl]
theorem doN_2 (a b : Nat) : doN 2 a b = tellO (floatBits .mul .f64 a b) := by unfold doN; rw [if_neg (by decide), if_neg (by decide), if_pos rfl]
theorem doN_3 (a b : Nat) : doN 3 a b = tellO (floatBits .quo .f64 a b) := by unfold doN; rw [if_neg (by decide), if_neg (by decide), if_neg (by decide), if_pos rfl]
theorem doN_4 (a b : Nat) : doN 4 a b = tellN (modR a b) := by unfold doN; rw [if_neg (by decide), if_neg (by decide), if_neg (by decide), if_neg (by decide), if_pos rfl]
theorem doN_5 (a b : Nat) : doN 5 a b = tellN (eitherN a b (decide (ordN a b < 0))) := by unfold doN; rw [if_neg (by decide), if_neg (by decide), if_neg (by decide), if_neg (by decide), if_neg (by decide), if_pos rfl]
theorem doN_6 (a b : Nat) : doN 6 a b = tellN (eitherN a b (decide (0 < ordN a b))) := by unfold doN; rw [if_neg (by decide), if_neg (by decide), if_neg (by decide), if_neg (by decide), if_neg (by decide), if_neg (by decide), if_pos rfl]
theorem doN_none {op : Int} (a b : Nat) (h : op < 0 ∨ 6 < op) : doN op a b = 9221120237041090561 := by
  unfold doN; rw [if_neg (by omega), if_neg (by omega), if_neg (by omega), if_neg (by omega), if_neg (by omega), if_neg (by omega), if_neg (by omega)]
section
set_option maxHeartbeats 800000
set_option maxRecDepth 100000
theorem still {e : Ending} {w w' : World} {r : Nat} (h : e = .returned (.int .u64 (r : Nat)) ∧ w = w') : e = .returned (.int .u64 (r : Nat)) ∧ ∃ n, w' = w.drewN n := ⟨h.1, 0, h.2.symm⟩
theorem do_any (op : Int) (a b : Nat) (w : World) (ha : a < 18446744073709551616) (hb : b < 18446744073709551616) :
    Calls Try.prog 22 #[.int .i64 op, .int .u64 (a : Nat), .int .u64 (b : Nat)] w fun e w' => e = .returned (.int .u64 (doN op a b : Nat)) ∧ ∃ n, w' = w.drewN n := by
  by_cases h : op < 0 ∨ 6 < op
  · rw [doN_none a b h]; exact (do_none_any op a b w h).mono fun e w' h => ⟨h.1, 0, h.2.symm⟩
  · rcases (by omega : op = 0 ∨ op = 1 ∨ op = 2 ∨ op = 3 ∨ op = 4 ∨ op = 5 ∨ op = 6) with rfl | rfl | rfl | rfl | rfl | rfl | rfl
    · rw [doN_0]; exact do_add_any a b w
    · rw [doN_1]; exact do_sub_any a b w
    · rw [doN_2]; exact do_mul_any a b w
    · rw [doN_3]; exact do_quo_any a b w
    · rw [doN_4]; exact (do_mod_any a b w ha hb).mono fun e w' h => still h
    · rw [doN_5]; exact (do_min_any a b w ha hb).mono fun e w' h => still h
    · rw [doN_6]; exact (do_max_any a b w ha hb).mono fun e w' h => still h
theorem rdo_any (op : Int) (a b : Nat) (w : World) (ha : a < 18446744073709551616) (hb : b < 18446744073709551616) :
    Calls Try.prog 23 #[.int .i64 op, .int .u64 (a : Nat), .int .u64 (b : Nat)] w fun e w' => e = .returned (.int .u64 (doN op a b : Nat)) ∧ ∃ n, w' = w.drewN n := by
  by_cases h : op < 0 ∨ 6 < op
  · rw [doN_none a b h]; exact (rdo_none_any op a b w h).mono fun e w' h => ⟨h.1, 0, h.2.symm⟩
  · rcases (by omega : op = 0 ∨ op = 1 ∨ op = 2 ∨ op = 3 ∨ op = 4 ∨ op = 5 ∨ op = 6) with rfl | rfl | rfl | rfl | rfl | rfl | rfl
    · rw [doN_0]; exact rdo_add_any a b w
    · rw [doN_1]; exact rdo_sub_any a b w
    · rw [doN_2]; exact rdo_mul_any a b w
    · rw [doN_3]; exact rdo_quo_any a b w
    · rw [doN_4]; exact (rdo_mod_any a b w ha hb).mono fun e w' h => still h
    · rw [doN_5]; have := rdo_min_any a b w ha hb; rw [min_either] at this; exact this.mono fun e w' h => still h
    · rw [doN_6]; have := rdo_max_any a b w ha hb; rw [max_either ha hb] at this; exact this.mono fun e w' h => still h
end
/-- What was told is a number, or what is told of none. -/
def ToldOk (x : Nat) : Prop := x = 9221120237041090561 ∨ nanB x = false
theorem toldN_ok (r : Nat) : ToldOk (tellN r) := by
  unfold ToldOk
  cases h : nanB r with
  | true => left; unfold tellN; exact if_pos h
  | false => right; rw [tellN_num h]; exact h
theorem toldO_ok (o : Option Nat) : ToldOk (tellO o) := by
  cases o with
  | none => exact .inl rfl
  | some r => exact toldN_ok r
theorem doN_ok (op : Int) (a b : Nat) : ToldOk (doN op a b) := by
  by_cases h : op < 0 ∨ 6 < op
  · rw [doN_none a b h]; exact .inl rfl
  · rcases (by omega : op = 0 ∨ op = 1 ∨ op = 2 ∨ op = 3 ∨ op = 4 ∨ op = 5 ∨ op = 6) with rfl | rfl | rfl | rfl | rfl | rfl | rfl
    · rw [doN_0]; exact toldO_ok _
    · rw [doN_1]; exact toldO_ok _
    · rw [doN_2]; exact toldO_ok _
    · rw [doN_3]; exact toldO_ok _
    · rw [doN_4]; exact toldN_ok _
    · rw [doN_5]; exact toldN_ok _
    · rw [doN_6]; exact toldN_ok _
theorem tellN_lt {r : Nat} (h : r < 18446744073709551616) : tellN r < 18446744073709551616 := by unfold tellN; split <;> omega
theorem modR_lt {a b : Nat} (ha : a < 18446744073709551616) (hb : b < 18446744073709551616) : modR a b < 18446744073709551616 := by
  unfold modR
  split
  · decide
  · rename_i h
    simp only [Bool.or_eq_true, not_or, Bool.not_eq_true] at h
    obtain ⟨⟨⟨h1, h2⟩, h3⟩, h4⟩ := h
    split
    · exact ha
    · rename_i h5
      rw [Bool.not_eq_true] at h5
      split
      · exact ha
      · obtain ⟨s, X, hX, rfl⟩ := fin_of ha h3 h2
        obtain ⟨t, Y, hY, rfl⟩ := fin_of hb h4 h5
        rw [size_word s hX, size_word t hY]
        have hR : wordV false (X % Y) < 9223372036854775808 := by
          have h1 := digN_lt (X % Y)
          have h2 : zOf (X % Y) ≤ zOf X := by
            unfold zOf
            have : (X % Y).log2 ≤ X.log2 := by
              by_cases h0 : X % Y = 0
              · rw [h0]; exact Nat.zero_le _
              · refine Nat.le_of_not_lt fun h => ?_
                have a1 : 2 ^ (X % Y).log2 ≤ X % Y := Nat.log2_self_le h0
                have a2 : X < 2 ^ (X.log2 + 1) := Nat.lt_log2_self
                have a3 : 2 ^ (X.log2 + 1) ≤ 2 ^ (X % Y).log2 := Nat.pow_le_pow_right (by decide) h
                have a4 : X % Y ≤ X := Nat.mod_le _ _
                omega
            omega
          have h3 := hX.2
          unfold wordV wordN
          simp only [Bool.false_eq_true, if_false]
          omega
        split
        · exact flip_lt (by omega)
        · omega
theorem doN_lt (op : Int) {a b : Nat} (ha : a < 18446744073709551616) (hb : b < 18446744073709551616) : doN op a b < 18446744073709551616 := by
  have ho : ∀ {o : BinOp}, tellO (floatBits o .f64 a b) < 18446744073709551616 := by
    intro o
    cases h : floatBits o .f64 a b with
    | none => show (9221120237041090561 : Nat) < _; decide
    | some r => exact tellN_lt (floatBits_num h).2
  by_cases h : op < 0 ∨ 6 < op
  · rw [doN_none a b h]; decide
  · rcases (by omega : op = 0 ∨ op = 1 ∨ op = 2 ∨ op = 3 ∨ op = 4 ∨ op = 5 ∨ op = 6) with rfl | rfl | rfl | rfl | rfl | rfl | rfl
    · rw [doN_0]; exact ho
    · rw [doN_1]; exact ho
    · rw [doN_2]; exact ho
    · rw [doN_3]; exact ho
    · rw [doN_4]; exact tellN_lt (modR_lt ha hb)
    · rw [doN_5]; exact tellN_lt (eitherN_lt _ ha hb)
    · rw [doN_6]; exact tellN_lt (eitherN_lt _ ha hb)
theorem sum_comm (x y : Ieee.Datum) : x.sum y = y.sum x := by
  cases x with
  | nan s t => cases y <;> rfl
  | infinity s =>
    cases y with
    | nan s t => rfl
    | number t n j => rfl
    | infinity t =>
      show (if s = t then some (Ieee.Datum.infinity s) else none) = (if t = s then some (Ieee.Datum.infinity t) else none)
      by_cases h : s = t
      · subst h; rfl
      · rw [if_neg h, if_neg (fun e => h e.symm)]
  | number s m i =>
    cases y with
    | nan s t => rfl
    | infinity t => rfl
    | number t n j =>
      simp only [Ieee.Datum.sum]
      rw [Int.min_comm j i, Int.add_comm (Ieee.signed t n _), Bool.and_comm t s]
theorem prod_comm (x y : Ieee.Datum) : x.product y = y.product x := by
  cases x with
  | nan s t => cases y <;> rfl
  | infinity s =>
    cases y with
    | nan s t => rfl
    | number t n j => simp only [Ieee.Datum.product]
    | infinity t => simp only [Ieee.Datum.product]; rw [Bool.xor_comm]
  | number s m i =>
    cases y with
    | nan s t => rfl
    | infinity t => simp only [Ieee.Datum.product]
    | number t n j => simp only [Ieee.Datum.product]; rw [Bool.xor_comm, Nat.mul_comm, Int.add_comm]
theorem add_comm_bits (a b : Nat) : floatBits .add .f64 a b = floatBits .add .f64 b a := by
  show Option.map _ ((FloatKind.f64.format.read a).sum (FloatKind.f64.format.read b)) = Option.map _ ((FloatKind.f64.format.read b).sum (FloatKind.f64.format.read a))
  rw [sum_comm]
theorem mul_comm_bits (a b : Nat) : floatBits .mul .f64 a b = floatBits .mul .f64 b a := by
  show Option.map _ ((FloatKind.f64.format.read a).product (FloatKind.f64.format.read b)) = Option.map _ ((FloatKind.f64.format.read b).product (FloatKind.f64.format.read a))
  rw [prod_comm]
theorem read_flip {v : Nat} (hv : v < 18446744073709551616) : FloatKind.f64.format.read (flip v) = (FloatKind.f64.format.read v).opposite := by
  have hm : flip v % 9223372036854775808 = v % 9223372036854775808 := by unfold flip; split <;> omega
  have hs : (flip v / 9223372036854775808 % 2 == 1) = !(v / 9223372036854775808 % 2 == 1) := by
    unfold flip
    split
    · rw [show (v / 9223372036854775808 % 2 == 1) = false by rw [beq_eq_false_iff_ne]; omega, Bool.not_false, beq_iff_eq]; omega
    · rw [show (v / 9223372036854775808 % 2 == 1) = true by rw [beq_iff_eq]; omega, Bool.not_true, beq_eq_false_iff_ne]; omega
  rw [read_eq, read_eq, hm, hs]
  split
  · rfl
  · split
    · rfl
    · split <;> rfl
theorem sub_opp {a b : Nat} (hb : b < 18446744073709551616) : doN 1 a b = doN 0 a (oneN 1 b) := by
  rw [doN_1, doN_0, oneN_1]
  cases hn : nanB b with
  | true =>
    have h1 : tellN (flip b) = 9221120237041090561 := by unfold tellN; rw [nan_flip hb, hn]; rfl
    rw [h1, floatBits_right a hn, floatBits_right a (show nanB 9221120237041090561 = true by decide +kernel)]
  | false =>
    rw [tellN_num (by rw [nan_flip hb, hn])]
    show tellO (Option.map _ ((FloatKind.f64.format.read a).sum (FloatKind.f64.format.read b).opposite)) = tellO (Option.map _ ((FloatKind.f64.format.read a).sum (FloatKind.f64.format.read (flip b))))
    rw [read_flip hb]
end Go.Proofs.Ytlaodfkcfclpmaa
