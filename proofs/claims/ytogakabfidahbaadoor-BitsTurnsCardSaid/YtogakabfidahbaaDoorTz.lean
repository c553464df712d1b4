/-
  How many bits 0 stand ahead and behind: the package's and the plain answers'.
-/
import Derived.Test.YtogakabfidahbaaDoorZig
namespace Go.Proofs.YtogakabfidahbaaDoor
set_option linter.unusedVariables false
set_option linter.unusedSimpArgs false
open Go.RowKit

theorem bitLenAux_spec (f : Nat) : ∀ x, x < 2 ^ f → (x = 0 → Lib.bitLenAux f x = 0) ∧ (x ≠ 0 → 0 < Lib.bitLenAux f x ∧ Lib.bitLenAux f x ≤ f ∧ 2 ^ (Lib.bitLenAux f x - 1) ≤ x ∧ x < 2 ^ Lib.bitLenAux f x) := by
  induction f with
  | zero => intro x h; simp at h; subst h; simp [Lib.bitLenAux]
  | succ f ih =>
    intro x h
    refine ⟨fun h0 => by subst h0; simp [Lib.bitLenAux], fun h0 => ?_⟩
    have hx := ih (x / 2) (by rw [Nat.pow_succ] at h; omega)
    unfold Lib.bitLenAux
    rw [if_neg h0]
    by_cases h2 : x / 2 = 0
    · rw [hx.1 h2]
      have : x = 1 := by omega
      subst this
      simp
    · obtain ⟨a, b, c, d⟩ := hx.2 h2
      refine ⟨by omega, by omega, ?_, ?_⟩
      · have : 2 ^ (1 + Lib.bitLenAux f (x / 2) - 1) = 2 * 2 ^ (Lib.bitLenAux f (x / 2) - 1) := by
          rw [← Nat.pow_succ', Nat.succ_eq_add_one, show Lib.bitLenAux f (x / 2) - 1 + 1 = 1 + Lib.bitLenAux f (x / 2) - 1 from by omega]
        rw [this]; omega
      · rw [Nat.pow_add]; omega
theorem bitLen_eq {n L : Nat} (hn : n < 18446744073709551616) (h1 : 2 ^ L ≤ n) (h2 : n < 2 ^ (L + 1)) : Lib.bitLen n = L + 1 := by
  have h0 : n ≠ 0 := by have := Nat.two_pow_pos L; omega
  obtain ⟨a, b, c, d⟩ := (bitLenAux_spec 64 n (by omega)).2 h0
  unfold Lib.bitLen
  have e1 : Lib.bitLenAux 64 n - 1 < L + 1 := (Nat.pow_lt_pow_iff_right (by omega)).1 (Nat.lt_of_le_of_lt c h2)
  have e2 : L < Lib.bitLenAux 64 n := (Nat.pow_lt_pow_iff_right (by omega)).1 (Nat.lt_of_le_of_lt h1 d)
  omega
theorem bitLen_zero : Lib.bitLen 0 = 0 := by decide

/-- How many bits 0 stand below the lowest 1, of 64. -/
def tzN (n : Nat) : Nat := if h : n = 0 then 64 else if n % 2 = 1 then 0 else 1 + tzN (n / 2)
  termination_by n
  decreasing_by omega
theorem tzN_zero : tzN 0 = 64 := by rw [tzN]; simp
theorem tzN_eq (i : Nat) : ∀ n, n % 2 ^ i = 0 → n / 2 ^ i % 2 = 1 → tzN n = i := by
  induction i with
  | zero => intro n _ h; rw [tzN]; simp at h; have : n ≠ 0 := by omega
            rw [dif_neg this, if_pos h]
  | succ i ih =>
    intro n h1 h2
    have h0 : n ≠ 0 := by rintro rfl; simp at h2
    have e : n % 2 = 0 := by
      have : n % 2 ^ (i + 1) % 2 = n % 2 := by rw [Nat.pow_succ]; exact Nat.mod_mod_of_dvd n (Nat.dvd_mul_left 2 _)
      omega
    rw [tzN, dif_neg h0, if_neg (by omega), ih (n / 2) ?_ ?_, Nat.add_comm]
    · rw [Nat.pow_succ, Nat.mul_comm, Nat.mod_mul] at h1; omega
    · rw [Nat.div_div_eq_div_mul, Nat.mul_comm, ← Nat.pow_succ]; exact h2
theorem tzN_spec (n : Nat) : n ≠ 0 → n % 2 ^ tzN n = 0 ∧ n / 2 ^ tzN n % 2 = 1 := by
  induction n using Nat.strongRecOn with
  | ind n ih =>
    intro h0
    rw [tzN, dif_neg h0]
    by_cases h : n % 2 = 1
    · rw [if_pos h]; simp [h, Nat.mod_one]
    · rw [if_neg h]
      obtain ⟨a, b⟩ := ih (n / 2) (by omega) (by omega)
      rw [Nat.pow_add, Nat.pow_one, Nat.mod_mul, ← Nat.div_div_eq_div_mul]
      exact ⟨by rw [a]; omega, b⟩
theorem tzN_lt {n : Nat} (h : n < 18446744073709551616) (h0 : n ≠ 0) : tzN n < 64 := by
  obtain ⟨_, b⟩ := tzN_spec n h0
  rcases Nat.lt_or_ge (tzN n) 64 with hl | hl
  · exact hl
  · have : n / 2 ^ tzN n = 0 := Nat.div_eq_of_lt (Nat.lt_of_lt_of_le h (show 2 ^ 64 ≤ 2 ^ tzN n from Nat.pow_le_pow_right (by omega) hl))
    rw [this] at b; simp at b

/-- A number and its negative have just its lowest 1 together. -/
theorem and_neg {n : Nat} (h : n < 18446744073709551616) (h0 : n ≠ 0) : n &&& (18446744073709551616 - n) = 2 ^ tzN n := by
  obtain ⟨a, b⟩ := tzN_spec n h0
  have hlt := tzN_lt h h0
  generalize tzN n = t at *
  have hn : n = 2 ^ t * (2 * (n / 2 ^ t / 2) + 1) := by
    have := Nat.div_add_mod n (2 ^ t)
    rw [a] at this
    have h2 : 2 * (n / 2 ^ t / 2) + 1 = n / 2 ^ t := by omega
    rw [h2]; omega
  generalize n / 2 ^ t / 2 = m at hn
  have hp : (18446744073709551616 : Nat) = 2 ^ t * (2 * 2 ^ (63 - t)) := by
    rw [← Nat.pow_succ', ← Nat.pow_add, show t + (63 - t + 1) = 64 from by omega]
  have hm : m < 2 ^ (63 - t) := by
    rw [hn, hp] at h
    have := Nat.lt_of_mul_lt_mul_left h
    omega
  have hsub : 18446744073709551616 - n = 2 ^ t * (2 * (2 ^ (63 - t) - 1 - m) + 1) := by
    rw [hp, hn, ← Nat.mul_sub]
    congr 1
    omega
  rw [hsub, hn]
  apply Nat.eq_of_testBit_eq
  intro i
  rw [Nat.testBit_and, Nat.testBit_two_pow_mul, Nat.testBit_two_pow_mul, Nat.testBit_two_pow]
  by_cases hi : t ≤ i
  · obtain ⟨j, rfl⟩ : ∃ j, i = t + j := ⟨i - t, by omega⟩
    rw [show t + j - t = j from by omega]
    cases j with
    | zero => simp
    | succ j =>
      have e1 : (2 * m + 1).testBit (j + 1) = m.testBit j := by rw [Nat.testBit_succ]; congr 1; omega
      have e2 : (2 * (2 ^ (63 - t) - 1 - m) + 1).testBit (j + 1) = (2 ^ (63 - t) - 1 - m).testBit j := by rw [Nat.testBit_succ]; congr 1; omega
      rw [e1, e2, show 2 ^ (63 - t) - 1 - m = 2 ^ (63 - t) - (m + 1) from by omega, Nat.testBit_two_pow_sub_succ hm]
      cases m.testBit j <;> simp
  · simp [hi]; omega

section
set_option maxHeartbeats 800000
set_option maxRecDepth 100000
theorem bit_one {n : Nat} (i : Nat) (h : n < 18446744073709551616) : bits .and .u64 ((n : Int) / 2 ^ i) 1 = (n : Int) / 2 ^ i % 2 := by
  have e1 : ((n : Int) / 2 ^ i) = ((n / 2 ^ i : Nat) : Int) := by rw [Int.natCast_ediv, Int.natCast_pow]; rfl
  have e : (1 : Int) = ((1 : Nat) : Int) := rfl
  rw [e1, e, u64_and_nat _ _ (Nat.lt_of_le_of_lt (Nat.div_le_self _ _) h) (by omega), show (1 : Nat) = 2 ^ 1 - 1 from rfl, Nat.and_two_pow_sub_one_eq_mod]
  rfl
theorem bit_cast (n i : Nat) : (n : Int) / 2 ^ i % 2 = ((n / 2 ^ i % 2 : Nat) : Int) := by
  have e1 : ((n : Int) / 2 ^ i) = ((n / 2 ^ i : Nat) : Int) := by rw [Int.natCast_ediv, Int.natCast_pow]; rfl
  rw [e1]; rfl
theorem rlead_any (n : Nat) (w : World) (h : n < 18446744073709551616) :
    Calls Tryd.prog 11 #[.int .u64 n] w fun e w' => e = .returned (.int .i64 (64 - (Lib.bitLen n : Int))) ∧ w = w' := by
  go_enter Tryd.func11, Tryd.ntmps11
  go_wp2
  go_loop [4] (fun i => ∃ k : Nat, k ≤ 64 ∧ i = .int .i64 k ∧ n < 2 ^ (64 - k)) (fun i => 64 - (intOf i).toNat)
  case atStart => exact ⟨0, by omega, rfl, by omega⟩
  case round =>
    obtain ⟨k, hk, rfl, hn⟩ := hrel
    have HN := Lib.hid hn; clear hn
    by_cases hlt : k < 64
    · have hb := bit_one (63 - k) h
      have htn : ((63 : Int) - (k : Int)).toNat = 63 - k := by omega
      by_cases h1 : n / 2 ^ (63 - k) % 2 = 1
      · have hlo : 2 ^ (63 - k) ≤ n := by
          rcases Nat.lt_or_ge n (2 ^ (63 - k)) with hl | hl
          · rw [Nat.div_eq_of_lt hl] at h1; omega
          · exact hl
        have hbl := bitLen_eq h hlo (by have := HN.out; rwa [show 64 - k = 63 - k + 1 from by omega] at this)
        have hbt : ((n : Int) / 2 ^ (63 - k) % 2 == 1) = true := by rw [bit_cast, h1]; rfl
        have HBL := Lib.hid hbl; clear hbl hlo h1
        go_wp2
        go_ret
        exact ⟨ret_i64 (by rw [HBL.out]; omega), rfl⟩
      · have hup : n < 2 ^ (64 - (k + 1)) := by
          have := HN.out
          rw [show 64 - k = (63 - k) + 1 from by omega, Nat.pow_succ] at this
          rw [show 64 - (k + 1) = 63 - k from by omega]
          rcases Nat.lt_or_ge n (2 ^ (63 - k)) with hl | hl
          · exact hl
          · exfalso
            have hp := Nat.two_pow_pos (63 - k)
            have e2 : n / 2 ^ (63 - k) = 1 := Nat.div_eq_of_lt_le (by omega) (by omega)
            rw [e2] at h1; omega
        have hbt : ((n : Int) / 2 ^ (63 - k) % 2 == 1) = false := by rw [bit_cast, beq_eq_false_iff_ne]; omega
        have HU := Lib.hid hup; clear hup h1
        go_wp2
        go_round
        case rel => exact ⟨k + 1, by omega, by go_num, HU.out⟩
        case measure => simp [intOf]; omega
    · have h0 : n = 0 := by have := HN.out; rw [show 64 - k = 0 from by omega] at this; omega
      have H0 := Lib.hid h0; clear h0
      go_wp2
      go_ret
      exact ⟨ret_i64 (by rw [H0.out, bitLen_zero]; rfl), rfl⟩
theorem rtrail_any (n : Nat) (w : World) (h : n < 18446744073709551616) :
    Calls Tryd.prog 13 #[.int .u64 n] w fun e w' => e = .returned (.int .i64 (tzN n : Nat)) ∧ w = w' := by
  go_enter Tryd.func13, Tryd.ntmps13
  go_wp2
  go_loop [4] (fun i => ∃ k : Nat, k ≤ 64 ∧ i = .int .i64 k ∧ n % 2 ^ k = 0) (fun i => 64 - (intOf i).toNat)
  case atStart => exact ⟨0, by omega, rfl, by simp [Nat.mod_one]⟩
  case round =>
    obtain ⟨k, hk, rfl, hn⟩ := hrel
    have HN := Lib.hid hn; clear hn
    by_cases hlt : k < 64
    · have hb := bit_one k h
      by_cases h1 : n / 2 ^ k % 2 = 1
      · have ht := tzN_eq k n HN.out h1
        have hbt : ((n : Int) / 2 ^ k % 2 == 1) = true := by rw [bit_cast, h1]; rfl
        have HT := Lib.hid ht; clear ht h1
        go_wp2
        go_ret
        exact ⟨ret_i64 (by rw [HT.out]), rfl⟩
      · have hup : n % 2 ^ (k + 1) = 0 := by
          rw [Nat.pow_succ, Nat.mod_mul, HN.out, show n / 2 ^ k % 2 = 0 from by omega]; rfl
        have hbt : ((n : Int) / 2 ^ k % 2 == 1) = false := by rw [bit_cast, beq_eq_false_iff_ne]; omega
        have HU := Lib.hid hup; clear hup h1
        go_wp2
        go_round
        case rel => exact ⟨k + 1, by omega, by go_num, HU.out⟩
        case measure => simp [intOf]; omega
    · have h0 : n = 0 := by have := HN.out; rw [show k = 64 from by omega, Nat.mod_eq_of_lt (by omega)] at this; exact this
      have H0 := Lib.hid h0; clear h0
      go_wp2
      go_ret
      exact ⟨ret_i64 (by rw [H0.out, tzN_zero]; rfl), rfl⟩

/-- The library's table, by place. -/
def tab : List Nat := [0, 1, 56, 2, 57, 49, 28, 3, 61, 58, 42, 50, 38, 29, 17, 4, 62, 47, 59, 36, 45, 43, 51, 22, 53, 39, 33, 30, 24, 18, 12, 5, 63, 55, 48, 27, 60, 41, 37, 16, 46, 35, 44, 21, 52, 32, 23, 11, 54, 26, 40, 15, 34, 20, 31, 10, 25, 14, 19, 9, 13, 8, 7, 6]
/-- The table's place that the product of 2^t leads to. -/
def idx (t : Nat) : Nat := 2 ^ t * 285870213051353865 % 18446744073709551616 / 288230376151711744
theorem idx_lt (t : Nat) : idx t < 64 := by unfold idx; omega
theorem tab_fin : ∀ t : Fin 64, tab.getD (idx t.val) 0 = t.val := by decide +kernel
theorem tab_idx {t : Nat} (h : t < 64) : tab.getD (idx t) 0 = t := tab_fin ⟨t, h⟩
theorem neg_u64 {n : Nat} (h : n < 18446744073709551616) (h0 : n ≠ 0) : IntKind.u64.wrap (-(n : Int)) = ((18446744073709551616 - n : Nat) : Int) := by rw [IntKind.wrap_u64]; omega
theorem place_u64 (p : Nat) : IntKind.u64.wrap ((p : Int) * 285870213051353865) / 288230376151711744 = ((p * 285870213051353865 % 18446744073709551616 / 288230376151711744 : Nat) : Int) := by rw [IntKind.wrap_u64]; omega
theorem tz_rule {n : Nat} (h : n < 18446744073709551616) (h0 : n ≠ 0) :
    IntKind.u64.wrap (bits .and .u64 (n : Int) (IntKind.u64.wrap (-(n : Int))) * 285870213051353865) / 288230376151711744 = (idx (tzN n) : Int) := by
  rw [neg_u64 h h0, u64_and_nat _ _ h (by omega), and_neg h h0, place_u64]
  rfl

theorem tz_zero (w : World) : Calls Tryd.prog 21 #[.int .u64 0] w fun e w' => e = .returned (.int .i64 64) ∧ w = w' := by
  go_enter Tryd.func21, Tryd.ntmps21
  go_wp2
  go_ret
  exact ⟨rfl, rfl⟩
theorem tz_some (n q t : Nat) (w : World) (hz : ((n : Int) == 0) = false) (hq : (q : Int) < 64) (ht : t < 64)
    (hrule : IntKind.u64.wrap (bits .and .u64 (n : Int) (IntKind.u64.wrap (-(n : Int))) * 285870213051353865) / 288230376151711744 = (q : Int))
    (hcell : w.cell? ⟨0, q, none⟩ = some (.int .u8 (t : Nat))) :
    Calls Tryd.prog 21 #[.int .u64 n] w fun e w' => e = .returned (.int .i64 (t : Nat)) ∧ w = w' := by
  go_enter Tryd.func21, Tryd.ntmps21
  go_wp2
  go_ret
  exact ⟨rfl, rfl⟩
theorem tz_any (n : Nat) (w : World) (h : n < 18446744073709551616) (ht : ∀ i : Nat, i < 64 → w.cell? ⟨0, i, none⟩ = some (.int .u8 (tab.getD i 0 : Nat))) :
    Calls Tryd.prog 21 #[.int .u64 n] w fun e w' => e = .returned (.int .i64 (tzN n : Nat)) ∧ w = w' := by
  by_cases h0 : n = 0
  · subst h0
    rw [tzN_zero]
    exact tz_zero w
  · have hlt := tzN_lt h h0
    have hcell := ht _ (idx_lt (tzN n))
    rw [tab_idx hlt] at hcell
    have hq := idx_lt (tzN n)
    exact tz_some n (idx (tzN n)) (tzN n) w (by rw [beq_eq_false_iff_ne]; omega) (by omega) hlt (tz_rule h h0) hcell
theorem trail_any (n : Nat) (w : World) (h : n < 18446744073709551616) (ht : ∀ i : Nat, i < 64 → w.cell? ⟨0, i, none⟩ = some (.int .u8 (tab.getD i 0 : Nat))) :
    Calls Tryd.prog 12 #[.int .u64 n] w fun e w' => e = .returned (.int .i64 (tzN n : Nat)) ∧ w = w' := by
  have HT := Lib.hid ht; clear ht
  go_enter Tryd.func12, Tryd.ntmps12
  go_wp2_with (first | (go_at_call 21; refine (tz_any _ _ h HT.out).mono ?_; rintro e w' ⟨rfl, rfl⟩))
  go_ret
  exact ⟨rfl, rfl⟩
end
end Go.Proofs.YtogakabfidahbaaDoor
