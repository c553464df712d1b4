/-
  Finite numbers by their size in the least units: words, orders, exact differences and products. Plain lemmas.
-/
import Derived.Test.YtlaodfkcfclpmaaFey
namespace Go.Proofs.Ytlaodfkcfclpmaa
set_option linter.unusedVariables false
set_option linter.unusedSimpArgs false

/-- How far a size of so many units is shifted in its word. -/
def zOf (V : Nat) : Nat := V.log2 - 52
/-- Is there a word of that size? -/
def Rep (V : Nat) : Prop := 2 ^ zOf V ∣ V ∧ zOf V ≤ 2045
/-- The digits of a size, and its word. -/
def digN (V : Nat) : Nat := V / 2 ^ zOf V
def wordV (s : Bool) (V : Nat) : Nat := wordN s (zOf V * 4503599627370496 + digN V)

theorem zOf_small {V : Nat} (h : V < 9007199254740992) : zOf V = 0 := by
  unfold zOf
  by_cases h0 : V = 0
  · subst h0; rfl
  · have := (Nat.log2_lt h0 (k := 53)).2 (by omega)
    omega
theorem digN_lt (V : Nat) : digN V < 9007199254740992 := by
  unfold digN
  rw [Nat.div_lt_iff_lt_mul (Nat.two_pow_pos _)]
  have hl : V < 2 ^ (V.log2 + 1) := Nat.lt_log2_self
  refine Nat.lt_of_lt_of_le hl ?_
  rw [show (9007199254740992 : Nat) = 2 ^ 53 from rfl, ← Nat.pow_add]
  exact Nat.pow_le_pow_right (by decide) (by unfold zOf; omega)
theorem digN_ge {V : Nat} (h : 0 < zOf V) : 4503599627370496 ≤ digN V := by
  unfold digN
  rw [Nat.le_div_iff_mul_le (Nat.two_pow_pos _)]
  have h0 : V ≠ 0 := by intro e; subst e; simp [zOf] at h
  have hl : 2 ^ V.log2 ≤ V := Nat.log2_self_le h0
  refine Nat.le_trans ?_ hl
  rw [show (4503599627370496 : Nat) = 2 ^ 52 from rfl, ← Nat.pow_add]
  exact Nat.pow_le_pow_right (by decide) (by unfold zOf at *; omega)
theorem digN_mul {V : Nat} (h : Rep V) : digN V * 2 ^ zOf V = V := Nat.div_mul_cancel h.1
theorem wordV_lt (s : Bool) {V : Nat} (h : Rep V) : wordV s V < 18446744073709551616 ∧ nanB (wordV s V) = false ∧ zOf V * 4503599627370496 + digN V < 9218868437227405312 := by
  have h1 := digN_lt V
  have h2 := h.2
  have h3 : zOf V * 4503599627370496 + digN V < 9218868437227405312 := by omega
  unfold wordV wordN nanB
  refine ⟨by split <;> omega, ?_, h3⟩
  rw [decide_eq_false_iff_not]
  split <;> omega
theorem read_wordV (s : Bool) {V : Nat} (h : Rep V) : FloatKind.f64.format.read (wordV s V) = .number s (digN V) ((zOf V : Int) - 1074) :=
  read_word s _ _ (digN_lt V) (by by_cases h0 : 0 < zOf V; exact .inl (digN_ge h0); exact .inr (by omega)) h.2
/-- Every finite number is the word of its sign and size. -/
theorem fin_word {v : Nat} {s : Bool} {m : Nat} {e : Int} (hv : v < 18446744073709551616) (h : FloatKind.f64.format.read v = .number s m e) : ∃ V, Rep V ∧ v = wordV s V := by
  obtain ⟨hw, h1, h2, h3, h4⟩ := word_read hv h
  obtain ⟨k, hk⟩ : ∃ k : Nat, (e + 1074).toNat = k := ⟨_, rfl⟩
  rw [hk] at hw
  refine ⟨m * 2 ^ k, ?_⟩
  have hz : zOf (m * 2 ^ k) = k := by
    rcases h4 with h4 | h4
    · unfold zOf; rw [log2_mul m k h4 h1]; omega
    · have : k = 0 := by omega
      subst this
      rw [Nat.pow_zero, Nat.mul_one]
      exact zOf_small h1
  have hd : digN (m * 2 ^ k) = m := by unfold digN; rw [hz]; exact Nat.mul_div_cancel _ (Nat.two_pow_pos _)
  refine ⟨⟨by rw [hz]; exact Nat.dvd_mul_left _ _, by rw [hz]; omega⟩, ?_⟩
  unfold wordV
  rw [hz, hd, hw]
theorem pow_cancel {a b k : Nat} (h : a * 2 ^ k = b * 2 ^ k) : a = b := Nat.eq_of_mul_eq_mul_right (Nat.two_pow_pos k) h
/-- A number of a size that has a word is written as that word. -/
theorem nearest_exact (s : Bool) (mag : Nat) (place : Int) (V a b : Nat) (hm : mag ≠ 0) (hp : place = (a : Int) - b - 1074) (hV : mag * 2 ^ a = V * 2 ^ b) (hR : Rep V) : FloatKind.f64.format.nearest s mag place = wordV s V := by
  have hV0 : V ≠ 0 := by
    intro e; subst e
    rw [Nat.zero_mul] at hV
    rcases Nat.mul_eq_zero.1 hV with h | h
    · exact hm h
    · exact absurd h (Nat.ne_of_gt (Nat.two_pow_pos _))
  have lmul : ∀ x k : Nat, x ≠ 0 → (x * 2 ^ k).log2 = x.log2 + k := by
    intro x k hx
    rw [Nat.log2_eq_iff (Nat.mul_ne_zero hx (Nat.ne_of_gt (Nat.two_pow_pos _)))]
    constructor
    · rw [Nat.pow_add]; exact Nat.mul_le_mul_right _ (Nat.log2_self_le hx)
    · rw [show x.log2 + k + 1 = x.log2 + 1 + k by omega, Nat.pow_add]; exact Nat.mul_lt_mul_of_pos_right Nat.lt_log2_self (Nat.two_pow_pos _)
  have hlog : mag.log2 + a = V.log2 + b := by rw [← lmul mag a hm, ← lmul V b hV0, hV]
  refine nearest_word s mag place hm (zOf V) (digN V) ?_ ?_ (digN_lt V) hR.2
  · unfold zOf; omega
  · obtain ⟨u, hu⟩ : ∃ u, (place - ((zOf V : Int) - 1074)).toNat = u := ⟨_, rfl⟩
    obtain ⟨d, hd⟩ : ∃ d, (((zOf V : Int) - 1074) - place).toNat = d := ⟨_, rfl⟩
    rw [hu, hd, Nat.shiftLeft_eq]
    have hz : u + b + zOf V = a + d := by omega
    have key : mag * 2 ^ u = digN V * 2 ^ d := by
      apply pow_cancel (k := b + zOf V)
      rw [Nat.mul_assoc, ← Nat.pow_add, show u + (b + zOf V) = a + d by omega, Nat.pow_add, ← Nat.mul_assoc, hV, ← digN_mul hR, Nat.mul_assoc, Nat.mul_assoc, Nat.mul_assoc, ← Nat.pow_add, ← Nat.pow_add, ← Nat.pow_add]
      rw [digN_mul hR]
      congr 2
      omega
    rw [key, cut_exact _ _ _ _ (Nat.dvd_mul_left _ _), Nat.mul_div_cancel _ (Nat.two_pow_pos _)]
/-- The order of two sizes. -/
theorem order_wordV {V W : Nat} (hV : Rep V) (hW : Rep W) : FloatKind.f64.format.order (wordV false V) (wordV false W) = some (compare V W) := by
  have e : FloatKind.f64.format.order (wordV false V) (wordV false W) = (FloatKind.f64.format.read (wordV false V)).order (FloatKind.f64.format.read (wordV false W)) := rfl
  rw [e, read_wordV false hV, read_wordV false hW]
  obtain ⟨b, hb⟩ : ∃ b : Nat, min ((zOf V : Int) - 1074) ((zOf W : Int) - 1074) = (b : Int) - 1074 ∧ b = min (zOf V) (zOf W) := ⟨min (zOf V) (zOf W), by omega, rfl⟩
  have e1 : Ieee.Datum.order (.number false (digN V) ((zOf V : Int) - 1074)) (.number false (digN W) ((zOf W : Int) - 1074)) = some (compare (Ieee.signed false (digN V) ((zOf V : Int) - 1074 - min ((zOf V : Int) - 1074) ((zOf W : Int) - 1074)).toNat) (Ieee.signed false (digN W) ((zOf W : Int) - 1074 - min ((zOf V : Int) - 1074) ((zOf W : Int) - 1074)).toNat)) := rfl
  rw [e1, hb.1, show ((zOf V : Int) - 1074 - ((b : Int) - 1074)).toNat = zOf V - b by omega, show ((zOf W : Int) - 1074 - ((b : Int) - 1074)).toNat = zOf W - b by omega]
  unfold Ieee.signed
  simp only [Bool.false_eq_true, if_false, Nat.shiftLeft_eq]
  have h1 : digN V * 2 ^ (zOf V - b) * 2 ^ b = V := by rw [Nat.mul_assoc, ← Nat.pow_add, show zOf V - b + b = zOf V by omega, digN_mul hV]
  have h2 : digN W * 2 ^ (zOf W - b) * 2 ^ b = W := by rw [Nat.mul_assoc, ← Nat.pow_add, show zOf W - b + b = zOf W by omega, digN_mul hW]
  have hpos : 0 < 2 ^ b := Nat.two_pow_pos b
  generalize digN V * 2 ^ (zOf V - b) = x at *
  generalize digN W * 2 ^ (zOf W - b) = y at *
  congr 1
  rcases Nat.lt_trichotomy x y with h | h | h
  · have : V < W := by rw [← h1, ← h2]; exact Nat.mul_lt_mul_of_pos_right h hpos
    rw [Nat.compare_eq_lt.2 this, Int.compare_eq_lt.2 (by omega)]
  · have : V = W := by rw [← h1, ← h2, h]
    rw [Nat.compare_eq_eq.2 this, h]; exact Int.compare_eq_eq.2 rfl
  · have : W < V := by rw [← h1, ← h2]; exact Nat.mul_lt_mul_of_pos_right h hpos
    rw [Nat.compare_eq_gt.2 this, Int.compare_eq_gt.2 (by omega)]
theorem rep_zero : Rep 0 := ⟨⟨0, rfl⟩, by decide⟩
theorem wordV_zero (s : Bool) : wordV s 0 = wordN s 0 := by unfold wordV digN; rw [show zOf 0 = 0 from rfl]
/-- A difference of two sizes is exact where it has a word. -/
theorem sub_wordV {V W : Nat} (hV : Rep V) (hW : Rep W) (hle : W ≤ V) (hD : Rep (V - W)) : floatBits .sub .f64 (wordV false V) (wordV false W) = some (wordV false (V - W)) := by
  have e : floatBits .sub .f64 (wordV false V) (wordV false W) = Option.map FloatKind.f64.format.write ((FloatKind.f64.format.read (wordV false V)).sum (FloatKind.f64.format.read (wordV false W)).opposite) := rfl
  rw [e, read_wordV false hV, read_wordV false hW]
  obtain ⟨b, hb1, hb2⟩ : ∃ b : Nat, min ((zOf V : Int) - 1074) ((zOf W : Int) - 1074) = (b : Int) - 1074 ∧ b = min (zOf V) (zOf W) := ⟨min (zOf V) (zOf W), by omega, rfl⟩
  have e1 : Option.map FloatKind.f64.format.write (Ieee.Datum.sum (.number false (digN V) ((zOf V : Int) - 1074)) (Ieee.Datum.number false (digN W) ((zOf W : Int) - 1074)).opposite) =
      some (FloatKind.f64.format.nearest (if Ieee.signed false (digN V) ((zOf V : Int) - 1074 - min ((zOf V : Int) - 1074) ((zOf W : Int) - 1074)).toNat + Ieee.signed true (digN W) ((zOf W : Int) - 1074 - min ((zOf V : Int) - 1074) ((zOf W : Int) - 1074)).toNat = 0 then false && true else decide (Ieee.signed false (digN V) ((zOf V : Int) - 1074 - min ((zOf V : Int) - 1074) ((zOf W : Int) - 1074)).toNat + Ieee.signed true (digN W) ((zOf W : Int) - 1074 - min ((zOf V : Int) - 1074) ((zOf W : Int) - 1074)).toNat < 0))
        (Ieee.signed false (digN V) ((zOf V : Int) - 1074 - min ((zOf V : Int) - 1074) ((zOf W : Int) - 1074)).toNat + Ieee.signed true (digN W) ((zOf W : Int) - 1074 - min ((zOf V : Int) - 1074) ((zOf W : Int) - 1074)).toNat).natAbs (min ((zOf V : Int) - 1074) ((zOf W : Int) - 1074))) := rfl
  rw [e1, hb1, show ((zOf V : Int) - 1074 - ((b : Int) - 1074)).toNat = zOf V - b by omega, show ((zOf W : Int) - 1074 - ((b : Int) - 1074)).toNat = zOf W - b by omega]
  unfold Ieee.signed
  simp only [Bool.false_eq_true, if_false, if_true, Nat.shiftLeft_eq]
  have h1 : digN V * 2 ^ (zOf V - b) * 2 ^ b = V := by rw [Nat.mul_assoc, ← Nat.pow_add, show zOf V - b + b = zOf V by omega, digN_mul hV]
  have h2 : digN W * 2 ^ (zOf W - b) * 2 ^ b = W := by rw [Nat.mul_assoc, ← Nat.pow_add, show zOf W - b + b = zOf W by omega, digN_mul hW]
  have hpos : 0 < 2 ^ b := Nat.two_pow_pos b
  generalize digN V * 2 ^ (zOf V - b) = x at *
  generalize digN W * 2 ^ (zOf W - b) = y at *
  have hxy : y ≤ x := by
    refine Nat.le_of_not_lt fun h => ?_
    have := Nat.mul_lt_mul_of_pos_right h hpos
    omega
  have hxy2 : (x - y) * 2 ^ b = V - W := by rw [Nat.sub_mul, h1, h2]
  have hs : (if (x : Int) + -(y : Int) = 0 then false && true else decide ((x : Int) + -(y : Int) < 0)) = false := by
    split
    · rfl
    · rw [decide_eq_false_iff_not]; omega
  rw [hs, show ((x : Int) + -(y : Int)).natAbs = x - y by omega]
  congr 1
  by_cases h0 : x - y = 0
  · rw [h0, Nat.zero_mul] at hxy2
    rw [h0, ← hxy2, nearest_zero, wordV_zero]
  · exact nearest_exact false (x - y) ((b : Int) - 1074) (V - W) b 0 h0 (by omega) (by rw [hxy2, Nat.pow_zero, Nat.mul_one]) hD
end Go.Proofs.Ytlaodfkcfclpmaa
