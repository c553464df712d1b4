/-
  Which numbers are whole, and what a number made whole is. Plain lemmas.
-/
import Derived.Test.YtlaodfkcfclpmaaFex
namespace Go.Proofs.Ytlaodfkcfclpmaa
set_option linter.unusedVariables false
set_option linter.unusedSimpArgs false

theorem log2_mul (m k : Nat) (h1 : 4503599627370496 ≤ m) (h2 : m < 9007199254740992) : (m * 2 ^ k).log2 = 52 + k := by
  have h0 : m * 2 ^ k ≠ 0 := Nat.mul_ne_zero (by omega) (Nat.ne_of_gt (Nat.two_pow_pos _))
  rw [Nat.log2_eq_iff h0]
  constructor
  · rw [Nat.pow_add]; exact Nat.mul_le_mul_right _ h1
  · rw [show 52 + k + 1 = 53 + k by omega, Nat.pow_add]; exact Nat.mul_lt_mul_of_pos_right h2 (Nat.two_pow_pos _)
theorem intN_num {v : Nat} {s : Bool} {m : Nat} {e : Int} (way : Ieee.Toward) (h : FloatKind.f64.format.read v = .number s m e) :
    intN way v = FloatKind.f64.format.nearest s (way.cut s (m <<< e.toNat) (-e).toNat) 0 := by
  have : intN way v = FloatKind.f64.format.write ((FloatKind.f64.format.read v).integral way) := rfl
  rw [this, h]; rfl
theorem int_big {v : Nat} {s : Bool} {m : Nat} {e : Int} (way : Ieee.Toward) (hv : v < 18446744073709551616) (h : FloatKind.f64.format.read v = .number s m e) (he : 0 ≤ e) : intN way v = v := by
  obtain ⟨hw, h1, h2, h3, h4⟩ := word_read hv h
  have h4' : 4503599627370496 ≤ m := by omega
  obtain ⟨k, rfl⟩ := Int.eq_ofNat_of_zero_le he
  rw [intN_num way h, show (-(k : Int)).toNat = 0 by omega, show ((k : Int)).toNat = k by omega, cut_exact _ _ _ _ (by simp), Nat.shiftLeft_eq, Nat.pow_zero, Nat.div_one]
  have h0 : m * 2 ^ k ≠ 0 := Nat.mul_ne_zero (by omega) (Nat.ne_of_gt (Nat.two_pow_pos _))
  rw [nearest_word s (m * 2 ^ k) 0 h0 (k + 1074) m (by rw [log2_mul m k h4' h1]; omega) (by
    rw [show ((0 : Int) - ((k + 1074 : Nat) - 1074 : Int)).toNat = 0 by omega, show ((((k + 1074 : Nat) : Int) - 1074) - 0).toNat = k by omega, Nat.shiftLeft_zero, cut_exact _ _ _ _ (Nat.dvd_mul_left _ _), Nat.mul_div_cancel _ (Nat.two_pow_pos _)]) h1 (by omega)]
  rw [hw]
  congr 1
theorem int_small {v : Nat} {s : Bool} {m : Nat} {e : Int} (way : Ieee.Toward) (hv : v < 18446744073709551616) (h : FloatKind.f64.format.read v = .number s m e) (he : e < 0) :
    ∃ K, K ≤ 4503599627370496 ∧ intN way v = FloatKind.f64.format.nearest s K 0 ∧ (m = K * 2 ^ (-e).toNat ↔ 2 ^ (-e).toNat ∣ m) ∧ (2 ^ (-e).toNat ∣ m → K = m / 2 ^ (-e).toNat) := by
  obtain ⟨hw, h1, h2, h3, h4⟩ := word_read hv h
  obtain ⟨b, hb, hd⟩ := cut_eq way s (m <<< e.toNat) (-e).toNat
  rw [show e.toNat = 0 by omega, Nat.shiftLeft_zero] at hb hd
  refine ⟨m / 2 ^ (-e).toNat + b.toNat, ?_, by rw [intN_num way h, show e.toNat = 0 by omega, Nat.shiftLeft_zero, hb], ⟨fun hm => ⟨_, by rw [Nat.mul_comm]; exact hm⟩, fun hm => ?_⟩, fun hm => by rw [hd hm]; rfl⟩
  · have : m / 2 ^ (-e).toNat ≤ m / 2 ^ 1 := Nat.div_le_div_left (Nat.pow_le_pow_right (by decide) (by omega)) (by decide)
    have : b.toNat ≤ 1 := by cases b <;> decide
    omega
  · rw [hd hm]; exact (Nat.div_mul_cancel hm).symm
theorem order_eq (s : Bool) (m n : Nat) (i j : Int) : (Ieee.Datum.order (.number s m i) (.number s n j) == some .eq) = decide (m * 2 ^ (i - min i j).toNat = n * 2 ^ (j - min i j).toNat) := by
  have e1 : Ieee.Datum.order (.number s m i) (.number s n j) = some (compare (Ieee.signed s m (i - min i j).toNat) (Ieee.signed s n (j - min i j).toNat)) := rfl
  rw [e1]
  unfold Ieee.signed
  rw [Nat.shiftLeft_eq, Nat.shiftLeft_eq]
  generalize m * 2 ^ (i - min i j).toNat = a
  generalize n * 2 ^ (j - min i j).toNat = b
  by_cases h : a = b
  · subst h; rw [decide_eq_true rfl]; cases s <;> simp
  · rw [decide_eq_false h]
    cases s
    · simp only [Bool.false_eq_true, if_false]
      have : compare (a : Int) (b : Int) ≠ .eq := fun e => h (by have := Int.compare_eq_eq.1 e; omega)
      cases hc : compare (a : Int) (b : Int) <;> first | rfl | exact absurd hc this
    · simp only [if_true]
      have : compare (-(a : Int)) (-(b : Int)) ≠ .eq := fun e => h (by have := Int.compare_eq_eq.1 e; omega)
      cases hc : compare (-(a : Int)) (-(b : Int)) <;> first | rfl | exact absurd hc this
/-- Is this number whole? -/
def wholeD (m : Nat) (e : Int) : Bool := decide (0 ≤ e ∨ 2 ^ (-e).toNat ∣ m)
theorem pow_eq_iff (m K d z : Nat) : m * 2 ^ (-(d : Int) - min (-(d : Int)) (-(z : Int))).toNat = K * 2 ^ z * 2 ^ (-(z : Int) - min (-(d : Int)) (-(z : Int))).toNat ↔ m = K * 2 ^ d := by
  by_cases h : z ≤ d
  · rw [show (-(d : Int) - min (-(d : Int)) (-(z : Int))).toNat = 0 by omega, show (-(z : Int) - min (-(d : Int)) (-(z : Int))).toNat = d - z by omega, Nat.pow_zero, Nat.mul_one, Nat.mul_assoc, ← Nat.pow_add, show z + (d - z) = d by omega]
  · rw [show (-(d : Int) - min (-(d : Int)) (-(z : Int))).toNat = z - d by omega, show (-(z : Int) - min (-(d : Int)) (-(z : Int))).toNat = 0 by omega, Nat.pow_zero, Nat.mul_one]
    have e : K * 2 ^ z = K * 2 ^ d * 2 ^ (z - d) := by rw [Nat.mul_assoc, ← Nat.pow_add, show d + (z - d) = z by omega]
    rw [e]
    exact Nat.mul_right_cancel_iff (Nat.two_pow_pos _)
theorem order_int {v : Nat} {s : Bool} {m : Nat} {e : Int} (way : Ieee.Toward) (hv : v < 18446744073709551616) (hn : nanB v = false) (h : FloatKind.f64.format.read v = .number s m e) :
    (FloatKind.f64.format.order v (intN way v) == some .eq) = wholeD m e := by
  obtain ⟨hw, h1, h2, h3, h4⟩ := word_read hv h
  by_cases he : 0 ≤ e
  · rw [int_big way hv h he, order_self, hn]
    unfold wholeD
    rw [decide_eq_true (.inl he)]; rfl
  · obtain ⟨K, hK, hi, hmK, _⟩ := int_small way hv h (by omega)
    have ho : ∀ d, FloatKind.f64.format.read (intN way v) = d → FloatKind.f64.format.order v (intN way v) = Ieee.Datum.order (.number s m e) d := by
      intro d hd
      show (FloatKind.f64.format.read v).order (FloatKind.f64.format.read (intN way v)) = _
      rw [h, hd]
    obtain ⟨d, hd⟩ : ∃ d : Nat, e = -(d : Int) := ⟨(-e).toNat, by omega⟩
    subst hd
    have hdn : (- -(d : Int)).toNat = d := by omega
    rw [hdn] at hmK
    have hwD : wholeD m (-(d : Int)) = decide (2 ^ d ∣ m) := by
      unfold wholeD
      rw [hdn]
      apply decide_eq_decide.2
      exact ⟨fun h => h.resolve_left he, .inr⟩
    have hwE : wholeD m (-(d : Int)) = decide (m = K * 2 ^ d) := hwD.trans (decide_eq_decide.2 hmK).symm
    rw [hwE]
    by_cases h0 : K = 0
    · subst h0
      have hr : FloatKind.f64.format.read (intN way v) = .number s 0 (-1074) := by
        rw [hi, nearest_zero]
        have := read_word s 0 0 (by decide) (.inr rfl) (by decide)
        simpa using this
      rw [ho _ hr, order_eq]
      apply decide_eq_decide.2
      rw [Nat.zero_mul, Nat.zero_mul]
      have : 0 < 2 ^ (-(d : Int) - min (-(d : Int)) (-1074)).toNat := Nat.two_pow_pos _
      constructor
      · intro h
        rcases Nat.mul_eq_zero.1 h with h | h
        · exact h
        · omega
      · intro h; rw [h, Nat.zero_mul]
    · obtain ⟨z, hz, b1, b2, hwd, hr⟩ := nearest_whole s K h0 (by omega)
      rw [← hi] at hr
      rw [ho _ hr, order_eq]
      exact decide_eq_decide.2 (pow_eq_iff m K d z)
theorem order_sym_num (s t : Bool) (m n : Nat) (i j : Int) : (Ieee.Datum.order (.number t n j) (.number s m i) == some .eq) = (Ieee.Datum.order (.number s m i) (.number t n j) == some .eq) := by
  have e1 : Ieee.Datum.order (.number s m i) (.number t n j) = some (compare (Ieee.signed s m (i - min i j).toNat) (Ieee.signed t n (j - min i j).toNat)) := rfl
  have e2 : Ieee.Datum.order (.number t n j) (.number s m i) = some (compare (Ieee.signed t n (j - min j i).toNat) (Ieee.signed s m (i - min j i).toNat)) := rfl
  rw [e1, e2, Int.min_comm j i]
  generalize Ieee.signed s m (i - min i j).toNat = a
  generalize Ieee.signed t n (j - min i j).toNat = b
  by_cases h : a = b
  · subst h; simp
  · have h1 : compare a b ≠ .eq := fun e => h (Int.compare_eq_eq.1 e)
    have h2 : compare b a ≠ .eq := fun e => h (Int.compare_eq_eq.1 e).symm
    cases hc : compare a b <;> cases hc' : compare b a <;> first | rfl | exact absurd hc h1 | exact absurd hc' h2
theorem order_int' {v : Nat} {s : Bool} {m : Nat} {e : Int} (way : Ieee.Toward) (hv : v < 18446744073709551616) (hn : nanB v = false) (h : FloatKind.f64.format.read v = .number s m e) :
    (FloatKind.f64.format.order (intN way v) v == some .eq) = wholeD m e := by
  rw [← order_int way hv hn h]
  have : ∃ t n j, FloatKind.f64.format.read (intN way v) = .number t n j := by
    by_cases he : 0 ≤ e
    · exact ⟨s, m, e, by rw [int_big way hv h he, h]⟩
    · obtain ⟨K, hK, hi, _, _⟩ := int_small way hv h (by omega)
      by_cases h0 : K = 0
      · subst h0
        have := read_word s 0 0 (by decide) (.inr rfl) (by decide)
        exact ⟨s, 0, -1074, by rw [hi, nearest_zero]; simpa using this⟩
      · obtain ⟨z, _, _, _, _, hr⟩ := nearest_whole s K h0 (by omega)
        exact ⟨_, _, _, by rw [hi]; exact hr⟩
  obtain ⟨t, n, j, hr⟩ := this
  show ((FloatKind.f64.format.read (intN way v)).order (FloatKind.f64.format.read v) == some .eq) = ((FloatKind.f64.format.read v).order (FloatKind.f64.format.read (intN way v)) == some .eq)
  rw [h, hr]
  exact order_sym_num s t m n e j
/-- Which numbers lie below -2^63, and which at 2^63 or above. -/
def lowB (v : Nat) : Bool := FloatKind.f64.format.order v 14114281232179134464 == some .lt
def highB (v : Nat) : Bool := FloatKind.f64.format.order v 4890909195324358656 == some .gt || FloatKind.f64.format.order v 4890909195324358656 == some .eq
theorem fin_read {v : Nat} (hn : nanB v = false) (hl : lowB v = false) (hh : highB v = false) : ∃ s m e, FloatKind.f64.format.read v = .number s m e := by
  have h1 := num_read hn
  unfold lowB at hl
  unfold highB at hh
  have e1 : FloatKind.f64.format.order v 14114281232179134464 = (FloatKind.f64.format.read v).order (.number true 4503599627370496 11) := rfl
  have e2 : FloatKind.f64.format.order v 4890909195324358656 = (FloatKind.f64.format.read v).order (.number false 4503599627370496 11) := rfl
  rw [e1] at hl
  rw [e2] at hh
  cases hr : FloatKind.f64.format.read v with
  | nan s t => exact absurd hr (h1 s t)
  | number s m e => exact ⟨s, m, e, rfl⟩
  | infinity s =>
    rw [hr] at hl hh
    cases s
    · cases hh
    · cases hl
theorem low_num {s : Bool} {m : Nat} {e : Int} (he : 0 ≤ e) (h : (Ieee.Datum.order (.number s m e) (.number true 4503599627370496 11) == some .lt) = false) : s = true → m * 2 ^ e.toNat ≤ 9223372036854775808 := by
  intro hs
  subst hs
  have e1 : Ieee.Datum.order (.number true m e) (.number true 4503599627370496 11) = some (compare (Ieee.signed true m (e - min e 11).toNat) (Ieee.signed true 4503599627370496 (11 - min e 11).toNat)) := rfl
  rw [e1] at h
  unfold Ieee.signed at h
  simp only [if_true, Nat.shiftLeft_eq] at h
  have hc : ¬ (-((m * 2 ^ (e - min e 11).toNat : Nat) : Int) < -((4503599627370496 * 2 ^ (11 - min e 11).toNat : Nat) : Int)) := by
    intro hlt
    rw [Int.compare_eq_lt.2 hlt] at h
    cases h
  obtain ⟨k, rfl⟩ := Int.eq_ofNat_of_zero_le he
  have h2 : m * 2 ^ ((k : Int) - min (k : Int) 11).toNat ≤ 4503599627370496 * 2 ^ (11 - min (k : Int) 11).toNat := by omega
  have h3 := Nat.mul_le_mul_right (2 ^ (min (k : Int) 11).toNat) h2
  rw [Nat.mul_assoc, Nat.mul_assoc, ← Nat.pow_add, ← Nat.pow_add, show ((k : Int) - min (k : Int) 11).toNat + (min (k : Int) 11).toNat = k by omega, show (11 - min (k : Int) 11).toNat + (min (k : Int) 11).toNat = 11 by omega] at h3
  exact h3
theorem high_num {s : Bool} {m : Nat} {e : Int} (he : 0 ≤ e) (h : (Ieee.Datum.order (.number s m e) (.number false 4503599627370496 11) == some .gt || Ieee.Datum.order (.number s m e) (.number false 4503599627370496 11) == some .eq) = false) : s = false → m * 2 ^ e.toNat < 9223372036854775808 := by
  intro hs
  subst hs
  have e1 : Ieee.Datum.order (.number false m e) (.number false 4503599627370496 11) = some (compare (Ieee.signed false m (e - min e 11).toNat) (Ieee.signed false 4503599627370496 (11 - min e 11).toNat)) := rfl
  rw [e1] at h
  unfold Ieee.signed at h
  simp only [Bool.false_eq_true, if_false, Nat.shiftLeft_eq] at h
  have hc : ((m * 2 ^ (e - min e 11).toNat : Nat) : Int) < ((4503599627370496 * 2 ^ (11 - min e 11).toNat : Nat) : Int) := by
    cases hcmp : compare ((m * 2 ^ (e - min e 11).toNat : Nat) : Int) ((4503599627370496 * 2 ^ (11 - min e 11).toNat : Nat) : Int) with
    | lt => exact Int.compare_eq_lt.1 hcmp
    | eq => rw [hcmp] at h; cases h
    | gt => rw [hcmp] at h; cases h
  obtain ⟨k, rfl⟩ := Int.eq_ofNat_of_zero_le he
  have h2 : m * 2 ^ ((k : Int) - min (k : Int) 11).toNat < 4503599627370496 * 2 ^ (11 - min (k : Int) 11).toNat := by omega
  have h3 := Nat.mul_lt_mul_of_pos_right h2 (Nat.two_pow_pos (min (k : Int) 11).toNat)
  rw [Nat.mul_assoc, Nat.mul_assoc, ← Nat.pow_add, ← Nat.pow_add, show ((k : Int) - min (k : Int) 11).toNat + (min (k : Int) 11).toNat = k by omega, show (11 - min (k : Int) 11).toNat + (min (k : Int) 11).toNat = 11 by omega] at h3
  exact h3
/-- The whole number that a number of that size is cut to. -/
def cutZ (s : Bool) (m : Nat) (e : Int) : Int := if s then -((if 0 ≤ e then m * 2 ^ e.toNat else m / 2 ^ (-e).toNat : Nat) : Int) else ((if 0 ≤ e then m * 2 ^ e.toNat else m / 2 ^ (-e).toNat : Nat) : Int)
theorem toInt_num {v : Nat} {s : Bool} {m : Nat} {e : Int} (hv : v < 18446744073709551616) (h : FloatKind.f64.format.read v = .number s m e) (hl : lowB v = false) (hh : highB v = false) : floatToIntVal .f64 v .i64 = some (cutZ s m e) := by
  obtain ⟨hw, h1, h2, h3, h4⟩ := word_read hv h
  have hz : (FloatKind.f64.decode v).toInt .zero = some (Ieee.signed s (Ieee.Toward.zero.cut s (m <<< e.toNat) (-e).toNat) 0) := by
    have : FloatKind.f64.decode v = .number s m e := h
    rw [this]; rfl
  have hc : Ieee.Toward.zero.cut s (m <<< e.toNat) (-e).toNat = if 0 ≤ e then m * 2 ^ e.toNat else m / 2 ^ (-e).toNat := by
    split
    · rename_i he
      rw [show (-e).toNat = 0 by omega, cut_exact _ _ _ _ (by simp), Nat.pow_zero, Nat.div_one, Nat.shiftLeft_eq]
    · rename_i he
      have hcz : ∀ n d, Ieee.Toward.zero.cut s n d = n / 2 ^ d := by
        intro n d
        obtain ⟨b, hb, _⟩ := cut_eq .zero s n d
        have : Ieee.Toward.zero.cut s n d = n / 1 <<< min d (n.log2 + 2) + 0 := rfl
        by_cases hd : d ≤ n.log2 + 2
        · rw [this, Nat.min_eq_left hd, Nat.shiftLeft_eq, Nat.one_mul, Nat.add_zero]
        · have hl : n < 2 ^ (n.log2 + 1) := Nat.lt_log2_self
          rw [this, Nat.min_eq_right (by omega), Nat.shiftLeft_eq, Nat.one_mul, Nat.add_zero, Nat.div_eq_of_lt, Nat.div_eq_of_lt]
          · exact Nat.lt_of_lt_of_le hl (Nat.pow_le_pow_right (by decide) (by omega))
          · exact Nat.lt_of_lt_of_le hl (Nat.pow_le_pow_right (by decide) (by omega))
      rw [show e.toNat = 0 by omega, Nat.shiftLeft_zero, hcz]
  have hsig : Ieee.signed s (Ieee.Toward.zero.cut s (m <<< e.toNat) (-e).toNat) 0 = cutZ s m e := by
    unfold Ieee.signed cutZ
    rw [hc, Nat.shiftLeft_zero]
  unfold floatToIntVal
  rw [hz, hsig]
  dsimp only
  have hr : -9223372036854775808 ≤ cutZ s m e ∧ cutZ s m e ≤ 9223372036854775807 := by
    by_cases he : 0 ≤ e
    · have a1 := low_num (s := s) (m := m) he (by have := hl; unfold lowB at this; rw [show FloatKind.f64.format.order v 14114281232179134464 = (FloatKind.f64.format.read v).order (.number true 4503599627370496 11) from rfl, h] at this; exact this)
      have a2 := high_num (s := s) (m := m) he (by have := hh; unfold highB at this; rw [show FloatKind.f64.format.order v 4890909195324358656 = (FloatKind.f64.format.read v).order (.number false 4503599627370496 11) from rfl, h] at this; exact this)
      unfold cutZ
      rw [if_pos he]
      cases s
      · have := a2 rfl
        simp only [Bool.false_eq_true, if_false]
        omega
      · have := a1 rfl
        simp only [if_true]
        omega
    · have : m / 2 ^ (-e).toNat ≤ m := Nat.div_le_self _ _
      unfold cutZ
      rw [if_neg he]
      clear hc hsig hz hw
      generalize m / 2 ^ (-e).toNat = q at *
      cases s <;> simp only [Bool.false_eq_true, if_false, if_true] <;> omega
  exact if_pos hr
end Go.Proofs.Ytlaodfkcfclpmaa
