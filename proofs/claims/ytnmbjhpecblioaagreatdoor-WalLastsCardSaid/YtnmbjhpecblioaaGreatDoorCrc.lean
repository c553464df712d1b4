/-
  Sums of bytes, plainly: a bit, a half byte, a byte; what another byte does to them.
-/
import Derived.WalkKit
import Derived.Handy
namespace Go.Proofs.YtnmbjhpecblioaaGreatDoor
set_option linter.unusedVariables false
set_option linter.unusedSimpArgs false

/-- One bit falls out. -/
def crcBit (s : Nat) : Nat := if s % 2 = 1 then (s / 2) ^^^ 2197175160 else s / 2
/-- What four bits come to. -/
def stepsL : List Nat := [0, 274646895, 549293790, 820201905, 1098587580, 1361435347, 1640403810, 1905808397, 2197175160, 2460548119, 2722870694, 2987750089, 3280807620, 3553878443, 3811616794, 4084100981]
/-- Four bits fall out. -/
def crcNib (s : Nat) : Nat := (s / 16) ^^^ stepsL.getD (s % 16) 0
/-- A byte. -/
def crcByte (s : Nat) (x : UInt8) : Nat := crcNib (crcNib (s ^^^ x.toNat))
/-- Bytes. -/
def crcG (s : Nat) (xs : List UInt8) : Nat := xs.foldl crcByte s
def notW (s : Nat) : Nat := s ^^^ 4294967295
/-- The sum of bytes that goes on from a sum. -/
def crc (s : Nat) (xs : List UInt8) : Nat := notW (crcG (notW s) xs)

theorem xor_half (a b : Nat) : (a ^^^ b) / 2 = a / 2 ^^^ b / 2 := by
  have := Nat.shiftRight_xor_distrib (a := a) (b := b) (i := 1)
  simpa [Nat.shiftRight_eq_div_pow] using this
theorem xor_par (a b : Nat) (h : b % 2 = 0) : (a ^^^ b) % 2 = a % 2 := by
  have h1 := Nat.xor_mod_two_pow (a := a) (b := b) (n := 1)
  rw [Nat.pow_one, h, Nat.xor_zero] at h1
  exact h1
theorem crcBit_eq (s : Nat) : crcBit s = (s / 2) ^^^ (if s % 2 = 1 then 2197175160 else 0) := by unfold crcBit; split <;> simp
theorem crcBit_xor (m c : Nat) (h : c % 2 = 0) : crcBit (m ^^^ c) = (m / 2) ^^^ ((c / 2) ^^^ (if m % 2 = 1 then 2197175160 else 0)) := by
  rw [crcBit_eq, xor_half, xor_par _ _ h, Nat.xor_assoc]
/-- The constant that four bits come to. -/
def fourK (a b c d : Bool) : Nat :=
  (((if a then 2197175160 else 0) / 2 ^^^ (if b then 2197175160 else 0)) / 2 ^^^ (if c then 2197175160 else 0)) / 2 ^^^ (if d then 2197175160 else 0)
theorem fourK_steps : ∀ l : Fin 16, fourK (l.val % 2 = 1) (l.val / 2 % 2 = 1) (l.val / 4 % 2 = 1) (l.val / 8 % 2 = 1) = stepsL.getD l.val 0 := by decide
theorem bits4 (s : Nat) : crcBit (crcBit (crcBit (crcBit s))) = crcNib s := by
  have e1 : crcBit s = (s / 2) ^^^ (if s % 2 = 1 then 2197175160 else 0) := crcBit_eq s
  have e2 : crcBit (crcBit s) = (s / 4) ^^^ ((if s % 2 = 1 then 2197175160 else 0) / 2 ^^^ (if s / 2 % 2 = 1 then 2197175160 else 0)) := by
    rw [e1, crcBit_xor _ _ (by split <;> rfl), Nat.div_div_eq_div_mul]
  have e3 : crcBit (crcBit (crcBit s)) = (s / 8) ^^^ (((if s % 2 = 1 then 2197175160 else 0) / 2 ^^^ (if s / 2 % 2 = 1 then 2197175160 else 0)) / 2 ^^^ (if s / 4 % 2 = 1 then 2197175160 else 0)) := by
    rw [e2, crcBit_xor _ _ (by split <;> split <;> decide), Nat.div_div_eq_div_mul]
  rw [e3, crcBit_xor _ _ (by split <;> split <;> split <;> decide), Nat.div_div_eq_div_mul]
  unfold crcNib
  have h := fourK_steps ⟨s % 16, Nat.mod_lt _ (by decide)⟩
  simp only at h
  rw [← h]
  unfold fourK
  have h1 : s % 16 % 2 = s % 2 := by omega
  have h2 : s % 16 / 2 % 2 = s / 2 % 2 := by omega
  have h3 : s % 16 / 4 % 2 = s / 4 % 2 := by omega
  have h4 : s % 16 / 8 % 2 = s / 8 % 2 := by omega
  rw [h1, h2, h3, h4]
  simp only [decide_eq_true_eq]

theorem xor_lt32 {a b : Nat} (ha : a < 4294967296) (hb : b < 4294967296) : a ^^^ b < 4294967296 := Nat.xor_lt_two_pow (n := 32) ha hb
theorem stepsL_lt (i : Nat) : stepsL.getD i 0 < 4294967296 := by
  by_cases h : i < 16
  · have : ∀ l : Fin 16, stepsL.getD l.val 0 < 4294967296 := by decide
    exact this ⟨i, h⟩
  · simp [stepsL, List.getD, show ¬ i < 16 from h]
theorem crcBit_lt {s : Nat} (h : s < 4294967296) : crcBit s < 4294967296 := by
  unfold crcBit; split
  · exact xor_lt32 (by omega) (by decide)
  · omega
theorem crcNib_lt {s : Nat} (h : s < 4294967296) : crcNib s < 4294967296 := xor_lt32 (by omega) (stepsL_lt _)
theorem crcByte_lt {s : Nat} (h : s < 4294967296) (x : UInt8) : crcByte s x < 4294967296 := crcNib_lt (crcNib_lt (xor_lt32 h (by have := x.toNat_lt; omega)))
theorem crcG_lt {s : Nat} (h : s < 4294967296) (xs : List UInt8) : crcG s xs < 4294967296 := by
  induction xs generalizing s with
  | nil => exact h
  | cons x r ih => exact ih (crcByte_lt h x)
theorem notW_lt {s : Nat} (h : s < 4294967296) : notW s < 4294967296 := xor_lt32 h (by decide)
theorem notW_notW (s : Nat) : notW (notW s) = s := by unfold notW; rw [Nat.xor_assoc, Nat.xor_self, Nat.xor_zero]
theorem notW_inj {a b : Nat} (h : notW a = notW b) : a = b := by rw [← notW_notW a, h, notW_notW]
theorem notW_sub {s : Nat} (h : s < 4294967296) : notW s = 4294967295 - s := by
  unfold notW
  have h2 := congrArg BitVec.toNat (BitVec.allOnes_xor (x := BitVec.ofNat 32 s))
  rw [BitVec.toNat_xor, BitVec.toNat_not, BitVec.toNat_allOnes, BitVec.toNat_ofNat, Nat.mod_eq_of_lt (by omega), Nat.xor_comm] at h2
  exact h2
theorem crc_lt {s : Nat} (h : s < 4294967296) (xs : List UInt8) : crc s xs < 4294967296 := notW_lt (crcG_lt (notW_lt h) xs)
theorem crcG_append (s : Nat) (xs ys : List UInt8) : crcG s (xs ++ ys) = crcG (crcG s xs) ys := by unfold crcG; rw [List.foldl_append]
theorem crc_append (s : Nat) (xs ys : List UInt8) : crc s (xs ++ ys) = crc (crc s xs) ys := by unfold crc; rw [notW_notW, crcG_append]
theorem crc_nil (s : Nat) : crc s [] = s := notW_notW s

/-! Another byte, another sum. -/
theorem xor_left_inj {a b c : Nat} (h : a ^^^ c = b ^^^ c) : a = b := by
  have := congrArg (· ^^^ c) h
  simpa [Nat.xor_assoc] using this
theorem xor_right_inj {a b c : Nat} (h : c ^^^ a = c ^^^ b) : a = b := xor_left_inj (c := c) (by rw [Nat.xor_comm a, Nat.xor_comm b]; exact h)
theorem crcBit_high {s : Nat} (h : s < 4294967296) : (crcBit s).testBit 31 = decide (s % 2 = 1) := by
  have h0 : (s / 2).testBit 31 = false := Nat.testBit_lt_two_pow (by omega)
  rw [crcBit_eq, Nat.testBit_xor, h0]
  by_cases h1 : s % 2 = 1
  · rw [if_pos h1, decide_eq_true h1]; decide
  · rw [if_neg h1, decide_eq_false h1]; decide
theorem crcBit_inj {a b : Nat} (ha : a < 4294967296) (hb : b < 4294967296) (h : crcBit a = crcBit b) : a = b := by
  have e := congrArg (fun x => Nat.testBit x 31) h
  simp only [crcBit_high ha, crcBit_high hb] at e
  have e2 : a % 2 = b % 2 := by
    have := decide_eq_decide.1 e
    omega
  rw [crcBit_eq, crcBit_eq, e2] at h
  have := xor_left_inj h
  omega
theorem crcNib_inj {a b : Nat} (ha : a < 4294967296) (hb : b < 4294967296) (h : crcNib a = crcNib b) : a = b := by
  rw [← bits4, ← bits4] at h
  exact crcBit_inj ha hb (crcBit_inj (crcBit_lt ha) (crcBit_lt hb) (crcBit_inj (crcBit_lt (crcBit_lt ha)) (crcBit_lt (crcBit_lt hb)) (crcBit_inj (crcBit_lt (crcBit_lt (crcBit_lt ha))) (crcBit_lt (crcBit_lt (crcBit_lt hb))) h)))
theorem byte32 (x : UInt8) : x.toNat < 4294967296 := by have := x.toNat_lt; omega
theorem crcByte_inj {a b : Nat} {x y : UInt8} (ha : a < 4294967296) (hb : b < 4294967296) (h : crcByte a x = crcByte b y) : a ^^^ x.toNat = b ^^^ y.toNat := by
  have hx := xor_lt32 ha (byte32 x)
  have hy := xor_lt32 hb (byte32 y)
  exact crcNib_inj hx hy (crcNib_inj (crcNib_lt hx) (crcNib_lt hy) h)
theorem crcG_inj {a b : Nat} (xs : List UInt8) (ha : a < 4294967296) (hb : b < 4294967296) (h : crcG a xs = crcG b xs) : a = b := by
  induction xs generalizing a b with
  | nil => exact h
  | cons x r ih => exact xor_left_inj (crcByte_inj ha hb (ih (crcByte_lt ha x) (crcByte_lt hb x) h))
theorem crcG_turn {s : Nat} (hs : s < 4294967296) (xs ys : List UInt8) {x y : UInt8} (h : crcG s (xs ++ x :: ys) = crcG s (xs ++ y :: ys)) : x = y := by
  rw [crcG_append, crcG_append] at h
  have h1 : crcG (crcByte (crcG s xs) x) ys = crcG (crcByte (crcG s xs) y) ys := h
  have hz := crcG_lt hs xs
  exact UInt8.toNat_inj.1 (xor_right_inj (crcByte_inj hz hz (crcG_inj ys (crcByte_lt hz x) (crcByte_lt hz y) h1)))
theorem crc_turn (xs ys : List UInt8) {x y : UInt8} (h : crc 0 (xs ++ x :: ys) = crc 0 (xs ++ y :: ys)) : x = y := crcG_turn (by decide) xs ys (notW_inj h)

/-! A sum as it stands in a frame. -/
def maskN (s : Nat) : Nat := (s / 32768 + s % 32768 * 131072 + 2726488792) % 4294967296
def unmaskN (n : Nat) : Nat := ((n + 1568478504) % 4294967296 % 131072 * 32768 + (n + 1568478504) % 4294967296 / 131072)
theorem maskN_lt (s : Nat) : maskN s < 4294967296 := Nat.mod_lt _ (by decide)
theorem unmaskN_lt (n : Nat) : unmaskN n < 4294967296 := by unfold unmaskN; omega
theorem turn_back {r : Nat} (c d : Nat) (h : r < 4294967296) (hcd : c + d = 4294967296) : ((r + c) % 4294967296 + d) % 4294967296 = r := by omega
theorem rot_lt {s : Nat} (h : s < 4294967296) : s / 32768 + s % 32768 * 131072 < 4294967296 := by omega
theorem unmask_mask {s : Nat} (h : s < 4294967296) : unmaskN (maskN s) = s := by
  unfold unmaskN maskN
  rw [turn_back _ _ (rot_lt h) rfl]
  have h1 : (s / 32768 + s % 32768 * 131072) % 131072 = s / 32768 := by omega
  have h2 : (s / 32768 + s % 32768 * 131072) / 131072 = s % 32768 := by omega
  rw [h1, h2]
  omega
theorem mask_unmask {n : Nat} (h : n < 4294967296) : maskN (unmaskN n) = n := by
  unfold unmaskN maskN
  have hr : (n + 1568478504) % 4294967296 < 4294967296 := Nat.mod_lt _ (by decide)
  have e : n = ((n + 1568478504) % 4294967296 + 2726488792) % 4294967296 := (turn_back _ _ h rfl).symm
  generalize (n + 1568478504) % 4294967296 = r at *
  have h1 : (r % 131072 * 32768 + r / 131072) / 32768 = r % 131072 := by omega
  have h2 : (r % 131072 * 32768 + r / 131072) % 32768 = r / 131072 := by omega
  rw [h1, h2, e]
  congr 2
  omega
theorem mask_inj {a b : Nat} (ha : a < 4294967296) (hb : b < 4294967296) (h : maskN a = maskN b) : a = b := by rw [← unmask_mask ha, h, unmask_mask hb]
/-- A number of 32 bits in four bytes, the lowest one first. -/
def low4 (n : Nat) : List UInt8 := [UInt8.ofNat n, UInt8.ofNat (n / 256), UInt8.ofNat (n / 65536), UInt8.ofNat (n / 16777216)]
theorem low4_inj {a b : Nat} (ha : a < 4294967296) (hb : b < 4294967296) (h : low4 a = low4 b) : a = b := by
  simp only [low4, List.cons.injEq, ← UInt8.toNat_inj, UInt8.toNat_ofNat'] at h
  omega
theorem low4_length (n : Nat) : (low4 n).length = 4 := rfl

end Go.Proofs.YtnmbjhpecblioaaGreatDoor
