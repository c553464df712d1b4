/-
  Remainders of numbers: what is taken away step by step. Plain lemmas on sizes.
-/
import Derived.Test.YtlaodfkcfclpmaaFmd
namespace Go.Proofs.Ytlaodfkcfclpmaa
set_option linter.unusedVariables false
set_option linter.unusedSimpArgs false

theorem log2_pow {x : Nat} (k : Nat) (hx : x ≠ 0) : (x * 2 ^ k).log2 = x.log2 + k := by
  rw [Nat.log2_eq_iff (Nat.mul_ne_zero hx (Nat.ne_of_gt (Nat.two_pow_pos _)))]
  constructor
  · rw [Nat.pow_add]; exact Nat.mul_le_mul_right _ (Nat.log2_self_le hx)
  · rw [show x.log2 + k + 1 = x.log2 + 1 + k by omega, Nat.pow_add]; exact Nat.mul_lt_mul_of_pos_right Nat.lt_log2_self (Nat.two_pow_pos _)
theorem rep_mul {V : Nat} (k : Nat) (h0 : V ≠ 0) (h : Rep V) (hk : V.log2 + k ≤ 2097) : Rep (V * 2 ^ k) := by
  have hz : zOf (V * 2 ^ k) = V.log2 + k - 52 := by unfold zOf; rw [log2_pow k h0]
  refine ⟨?_, by omega⟩
  rw [hz]
  by_cases hl : 52 ≤ V.log2
  · rw [show V.log2 + k - 52 = zOf V + k by unfold zOf; omega, Nat.pow_add]
    exact Nat.mul_dvd_mul_right h.1 _
  · exact Nat.dvd_trans (Nat.pow_dvd_pow 2 (by omega)) (Nat.dvd_mul_left _ _)
theorem rep_log {V : Nat} (h : Rep V) : V.log2 ≤ 2097 := by have := h.2; unfold zOf at this; omega
/-- The 53 digits of a size. -/
def sig (V : Nat) : Nat := V * 2 ^ 52 / 2 ^ V.log2
theorem sig_dvd {V : Nat} (h : Rep V) : 2 ^ V.log2 ∣ V * 2 ^ 52 := by
  by_cases hl : 52 ≤ V.log2
  · have e : 2 ^ V.log2 = 2 ^ zOf V * 2 ^ 52 := by rw [← Nat.pow_add]; congr 1; unfold zOf; omega
    rw [e]
    exact Nat.mul_dvd_mul_right h.1 _
  · exact Nat.dvd_trans (Nat.pow_dvd_pow 2 (by omega)) (Nat.dvd_mul_left _ _)
theorem sig_mul {V : Nat} (h : Rep V) : sig V * 2 ^ V.log2 = V * 2 ^ 52 := Nat.div_mul_cancel (sig_dvd h)
theorem sig_bounds {V : Nat} (h0 : V ≠ 0) : 4503599627370496 ≤ sig V ∧ sig V < 9007199254740992 := by
  unfold sig
  have h1 : 2 ^ V.log2 ≤ V := Nat.log2_self_le h0
  have h2 : V < 2 ^ (V.log2 + 1) := Nat.lt_log2_self
  constructor
  · rw [Nat.le_div_iff_mul_le (Nat.two_pow_pos _), Nat.mul_comm, show (4503599627370496 : Nat) = 2 ^ 52 from rfl]
    exact Nat.mul_le_mul_right _ h1
  · rw [Nat.div_lt_iff_lt_mul (Nat.two_pow_pos _), show (9007199254740992 : Nat) = 2 ^ 1 * 2 ^ 52 from rfl]
    have := Nat.mul_lt_mul_of_pos_right h2 (Nat.two_pow_pos 52)
    rw [Nat.pow_succ] at this
    calc V * 2 ^ 52 < 2 ^ V.log2 * 2 * 2 ^ 52 := this
      _ = 2 ^ 1 * 2 ^ 52 * 2 ^ V.log2 := by rw [Nat.pow_one, Nat.mul_assoc, Nat.mul_comm (2 ^ V.log2)]
theorem sig_pow {V : Nat} (k : Nat) (h0 : V ≠ 0) : sig (V * 2 ^ k) = sig V := by
  unfold sig
  rw [log2_pow k h0, Nat.pow_add, Nat.mul_right_comm]
  exact Nat.mul_div_mul_right _ _ (Nat.two_pow_pos k)
theorem dig_sig {V : Nat} (h : 52 ≤ V.log2) : digN V = sig V := by
  unfold digN sig zOf
  have e : 2 ^ V.log2 = 2 ^ (V.log2 - 52) * 2 ^ 52 := by rw [← Nat.pow_add]; congr 1; omega
  rw [e]
  exact (Nat.mul_div_mul_right _ _ (Nat.two_pow_pos 52)).symm
/-- The word of a size of 53 digits or more. -/
theorem word_sig {V : Nat} (h : 52 ≤ V.log2) : wordV false V = (V.log2 - 52) * 4503599627370496 + sig V := by
  unfold wordV wordN; rw [dig_sig h]; rfl
theorem mul_word {V W : Nat} (hV : Rep V) (h0 : V ≠ 0) (hW : Rep W) (c m : Nat) (p : Int) (a b : Nat) (hc : FloatKind.f64.format.read c = .number false m p) (hm : m ≠ 0)
    (hp : (zOf V : Int) - 1074 + p = (a : Int) - b - 1074) (hv : digN V * m * 2 ^ a = W * 2 ^ b) :
    floatBits .mul .f64 (wordV false V) c = some (wordV false W) ∧ floatBits .mul .f64 c (wordV false V) = some (wordV false W) := by
  have hd : digN V ≠ 0 := by
    intro e
    have := digN_mul hV
    rw [e, Nat.zero_mul] at this
    exact h0 this.symm
  have e1 : floatBits .mul .f64 (wordV false V) c = Option.map FloatKind.f64.format.write ((FloatKind.f64.format.read (wordV false V)).product (FloatKind.f64.format.read c)) := rfl
  have e2 : floatBits .mul .f64 c (wordV false V) = Option.map FloatKind.f64.format.write ((FloatKind.f64.format.read c).product (FloatKind.f64.format.read (wordV false V))) := rfl
  rw [e1, e2, read_wordV false hV, hc]
  constructor
  · show some (FloatKind.f64.format.nearest (false ^^ false) (digN V * m) ((zOf V : Int) - 1074 + p)) = _
    exact congrArg some (nearest_exact false _ _ W a b (Nat.mul_ne_zero hd hm) hp hv hW)
  · show some (FloatKind.f64.format.nearest (false ^^ false) (m * digN V) (p + ((zOf V : Int) - 1074))) = _
    exact congrArg some (nearest_exact false _ _ W a b (Nat.mul_ne_zero hm hd) (by omega) (by rw [Nat.mul_comm m]; exact hv) hW)
theorem read_c52 : FloatKind.f64.format.read 4841369599423283200 = .number false 4503599627370496 0 := by rfl
theorem read_one : FloatKind.f64.format.read 4607182418800017408 = .number false 4503599627370496 (-52) := by rfl
theorem read_c53 : FloatKind.f64.format.read 4368491638549381120 = .number false 4503599627370496 (-105) := by rfl
theorem mul_up {V : Nat} (hV : Rep V) (h0 : V ≠ 0) (hl : V.log2 ≤ 52) : floatBits .mul .f64 (wordV false V) 4841369599423283200 = some (wordV false (V * 2 ^ 52)) :=
  (mul_word hV h0 (rep_mul 52 h0 hV (by omega)) _ _ _ (zOf V) 0 read_c52 (by decide) (by omega) (by rw [Nat.mul_right_comm, digN_mul hV, Nat.pow_zero, Nat.mul_one])).1
theorem mul_one' {V : Nat} (hV : Rep V) (h0 : V ≠ 0) : floatBits .mul .f64 4607182418800017408 (wordV false V) = some (wordV false V) :=
  (mul_word hV h0 hV _ _ _ (zOf V) 52 read_one (by decide) (by omega) (by rw [Nat.mul_right_comm, digN_mul hV])).2
theorem mul_down {V : Nat} (hV : Rep V) (h0 : V ≠ 0) (hl : V.log2 ≤ 52) : floatBits .mul .f64 4368491638549381120 (wordV false (V * 2 ^ 53)) = some (wordV false V) := by
  have hW := rep_mul 53 h0 hV (by omega)
  exact (mul_word hW (Nat.mul_ne_zero h0 (Nat.ne_of_gt (Nat.two_pow_pos _))) hV _ _ _ (zOf (V * 2 ^ 53)) 105 read_c53 (by decide) (by omega) (by rw [Nat.mul_right_comm, digN_mul hW, show (105 : Nat) = 53 + 52 from rfl, Nat.pow_add, Nat.mul_assoc])).2
/-- How often a size is doubled to be taken from another one. -/
def stepK (V Y : Nat) : Nat := if sig V < sig Y then V.log2 - Y.log2 - 1 else V.log2 - Y.log2
theorem step_ok {V Y : Nat} (hV : Rep V) (hY : Rep Y) (h0 : Y ≠ 0) (hle : Y ≤ V) :
    Y.log2 ≤ V.log2 ∧ (sig V < sig Y → Y.log2 + 1 ≤ V.log2) ∧ Y * 2 ^ stepK V Y ≤ V ∧ V < 2 * (Y * 2 ^ stepK V Y) ∧ Rep (Y * 2 ^ stepK V Y) ∧ Rep (V - Y * 2 ^ stepK V Y) ∧ Y.log2 + stepK V Y ≤ V.log2 := by
  have hV0 : V ≠ 0 := by omega
  have hlog : Y.log2 ≤ V.log2 := by
    refine Nat.le_of_not_lt fun h => ?_
    have h1 : 2 ^ Y.log2 ≤ Y := Nat.log2_self_le h0
    have h2 : V < 2 ^ (V.log2 + 1) := Nat.lt_log2_self
    have h3 : 2 ^ (V.log2 + 1) ≤ 2 ^ Y.log2 := Nat.pow_le_pow_right (by decide) h
    omega
  have sV := sig_mul hV
  have sY := sig_mul hY
  have hsig : sig V < sig Y → Y.log2 + 1 ≤ V.log2 := by
    intro h
    refine Nat.lt_of_le_of_ne hlog fun e => ?_
    have : V * 2 ^ 52 < Y * 2 ^ 52 := by rw [← sV, ← sY, e]; exact Nat.mul_lt_mul_of_pos_right h (Nat.two_pow_pos _)
    have : V < Y := Nat.lt_of_mul_lt_mul_right this
    omega
  have lV1 : 2 ^ V.log2 ≤ V := Nat.log2_self_le hV0
  have lV2 : V < 2 ^ (V.log2 + 1) := Nat.lt_log2_self
  have lY1 : 2 ^ Y.log2 ≤ Y := Nat.log2_self_le h0
  have lY2 : Y < 2 ^ (Y.log2 + 1) := Nat.lt_log2_self
  have hk : Y.log2 + stepK V Y ≤ V.log2 := by unfold stepK; split <;> omega
  have main : Y * 2 ^ stepK V Y ≤ V ∧ V < 2 * (Y * 2 ^ stepK V Y) := by
    unfold stepK
    split
    · rename_i h
      have hl := hsig h
      obtain ⟨k, hk⟩ : ∃ k, V.log2 = Y.log2 + 1 + k := ⟨V.log2 - (Y.log2 + 1), by omega⟩
      rw [show V.log2 - Y.log2 - 1 = k by omega]
      constructor
      · have : Y * 2 ^ k < 2 ^ (Y.log2 + 1) * 2 ^ k := Nat.mul_lt_mul_of_pos_right lY2 (Nat.two_pow_pos _)
        rw [← Nat.pow_add, ← hk] at this
        omega
      · have : V * 2 ^ 52 < 2 * (Y * 2 ^ k) * 2 ^ 52 := by
          rw [← sV]
          calc sig V * 2 ^ V.log2 < sig Y * 2 ^ V.log2 := Nat.mul_lt_mul_of_pos_right h (Nat.two_pow_pos _)
            _ = sig Y * 2 ^ Y.log2 * (2 * 2 ^ k) := by rw [hk, Nat.mul_assoc, show Y.log2 + 1 + k = Y.log2 + (1 + k) by omega, Nat.pow_add, Nat.pow_add 2 1 k, Nat.pow_one]
            _ = Y * 2 ^ 52 * (2 * 2 ^ k) := by rw [sY]
            _ = 2 * (Y * 2 ^ k) * 2 ^ 52 := by rw [Nat.mul_right_comm, ← Nat.mul_assoc, ← Nat.mul_assoc, Nat.mul_comm Y 2]
        exact Nat.lt_of_mul_lt_mul_right this
    · rename_i h
      obtain ⟨k, hk⟩ : ∃ k, V.log2 = Y.log2 + k := ⟨V.log2 - Y.log2, by omega⟩
      rw [show V.log2 - Y.log2 = k by omega]
      constructor
      · have : Y * 2 ^ k * 2 ^ 52 ≤ V * 2 ^ 52 := by
          rw [← sV]
          calc Y * 2 ^ k * 2 ^ 52 = Y * 2 ^ 52 * 2 ^ k := Nat.mul_right_comm _ _ _
            _ = sig Y * 2 ^ Y.log2 * 2 ^ k := by rw [sY]
            _ = sig Y * 2 ^ V.log2 := by rw [Nat.mul_assoc, ← Nat.pow_add, ← hk]
            _ ≤ sig V * 2 ^ V.log2 := Nat.mul_le_mul_right _ (by omega)
        exact Nat.le_of_mul_le_mul_right this (Nat.two_pow_pos 52)
      · have : 2 ^ V.log2 ≤ Y * 2 ^ k := by rw [hk, Nat.pow_add]; exact Nat.mul_le_mul_right _ lY1
        rw [Nat.pow_succ] at lV2
        omega
  have hRT : Rep (Y * 2 ^ stepK V Y) := rep_mul _ h0 hY (by have := rep_log hV; omega)
  refine ⟨hlog, hsig, main.1, main.2, hRT, ?_, hk⟩
  obtain ⟨T, hT⟩ : ∃ T, T = Y * 2 ^ stepK V Y := ⟨_, rfl⟩
  rw [← hT] at main hRT ⊢
  obtain ⟨m1, m2⟩ := main
  by_cases hD : V - T = 0
  · rw [hD]; exact rep_zero
  · have hDT : V - T < T := by omega
    have hT0 : T ≠ 0 := by omega
    have hlT : (V - T).log2 ≤ T.log2 := by
      refine Nat.le_of_not_lt fun h => ?_
      have h1 : 2 ^ (V - T).log2 ≤ V - T := Nat.log2_self_le hD
      have h2 : T < 2 ^ (T.log2 + 1) := Nat.lt_log2_self
      have h3 : 2 ^ (T.log2 + 1) ≤ 2 ^ (V - T).log2 := Nat.pow_le_pow_right (by decide) h
      omega
    have hlV : T.log2 ≤ V.log2 := by
      refine Nat.le_of_not_lt fun h => ?_
      have h1 : 2 ^ T.log2 ≤ T := Nat.log2_self_le hT0
      have h3 : 2 ^ (V.log2 + 1) ≤ 2 ^ T.log2 := Nat.pow_le_pow_right (by decide) h
      omega
    have z1 : zOf (V - T) ≤ zOf T := by unfold zOf; omega
    have z2 : zOf T ≤ zOf V := by unfold zOf; omega
    refine ⟨?_, Nat.le_trans z1 hRT.2⟩
    refine Nat.dvd_trans (Nat.pow_dvd_pow 2 z1) (Nat.dvd_sub ?_ hRT.1)
    exact Nat.dvd_trans (Nat.pow_dvd_pow 2 z2) hV.1
theorem step_mod {V Y k : Nat} (h : Y * 2 ^ k ≤ V) : (V - Y * 2 ^ k) % Y = V % Y := by
  obtain ⟨d, hd⟩ : ∃ d, V = d + Y * 2 ^ k := ⟨V - Y * 2 ^ k, by omega⟩
  rw [hd, Nat.add_sub_cancel, Nat.add_mul_mod_self_left]
end Go.Proofs.Ytlaodfkcfclpmaa
