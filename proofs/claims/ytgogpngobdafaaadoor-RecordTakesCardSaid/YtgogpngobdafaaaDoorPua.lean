/-
  Numbers in few bytes, written.
  Plain laws of numbers in few bytes: there and back, one form, cut off nowhere, lesser numbers do not have more bytes.
  What the scan of a number in few bytes comes to: the laws that speak of no program (as in RuvB, for seats without the plain answers' Uvarint).
-/
import Derived.Test.YtgogpngobdafaaaDoorGen
import Derived.Test.YtgogpngobdafaaaDoorUv
namespace Go.Proofs.YtgogpngobdafaaaDoor
set_option linter.unusedVariables false
set_option linter.unusedSimpArgs false
section
set_option linter.unusedVariables false
set_option linter.unusedSimpArgs false
open Go.RowKit

/-- A number in few bytes: seven bits in each, the lowest ones first. -/
def pu (n : Nat) : List UInt8 := if h : n < 128 then [UInt8.ofNat n] else UInt8.ofNat (n % 128 + 128) :: pu (n / 128)
  termination_by n
  decreasing_by omega

theorem pu_last {n : Nat} (h : n < 128) : pu n = [UInt8.ofNat n] := by rw [pu, dif_pos h]
theorem pu_more {n : Nat} (h : 128 ≤ n) : pu n = UInt8.ofNat (n % 128 + 128) :: pu (n / 128) := by
  conv => lhs; rw [pu]
  rw [dif_neg (by omega)]
theorem mask64 {n : Nat} (h : n < 18446744073709551616) : bits .and .u64 (n : Int) 127 = (n : Int) % 128 := by
  have e : (127 : Int) = ((127 : Nat) : Int) := rfl
  rw [e, u64_and_nat _ _ h (by omega), show (127 : Nat) = 2 ^ 7 - 1 from rfl, Nat.and_two_pow_sub_one_eq_mod]
  rfl
theorem or128 {n : Nat} : bits .or .u8 ((n : Int) % 128) 128 = (n : Int) % 128 + 128 := by
  have e : (128 : Int) = ((128 : Nat) : Int) := rfl
  have e1 : (n : Int) % 128 = ((n % 128 : Nat) : Int) := rfl
  have h := or_beside (n % 128) 1 7 (by omega)
  rw [e1]
  show bits .or .u8 ((n % 128 : Nat) : Int) ((128 : Nat) : Int) = _
  rw [u8_or_nat _ _ (by omega) (by omega)]
  have h2 : n % 128 ||| 128 = n % 128 + 128 := h
  rw [h2]
  rfl
theorem pu_len (k n : Nat) (h : n < 2 ^ (7 * k)) : (pu n).length ≤ max k 1 := by
  induction k generalizing n with
  | zero => simp at h; subst h; rw [pu_last (by omega)]; simp
  | succ k ih =>
    by_cases hn : n < 128
    · rw [pu_last hn]; simp
    · rw [pu_more (by omega)]
      have h2 : n / 128 < 2 ^ (7 * k) := by rw [pow7] at h; omega
      have := ih _ h2
      have : k ≠ 0 := by rintro rfl; simp at h; omega
      simp; omega

section
set_option maxHeartbeats 1600000
set_option maxRecDepth 100000
theorem pu_any (n : Nat) (w : World) (hn : n < 18446744073709551616) :
    Calls Tryd.prog 41 #[.int .u64 n] w fun e w' => ∃ v, e = .returned v ∧ w'.ownsRow w.heap.size 5 1 v (pu n).length ((pu n).map Bv) ∧ Below w.heap.size w w' := by
  obtain ⟨i0, hi, hz0, hz1, hz2⟩ := info_parts infoU8
  have hl10 := pu_len 10 n (by omega)
  go_enter Tryd.func41, Tryd.ntmps41
  go_wp2
  go_step3
  go_wp2
  go_step3
  go_wp2
  go_loopw [0, 3] (fun i v wr => ∃ (m : Nat) (acc : List UInt8), m < 18446744073709551616 ∧ i = .int .u64 m ∧ pu n = acc ++ pu m ∧ acc.length + (pu m).length ≤ 10 ∧ wr.ownsRow w.heap.size 5 1 v acc.length (acc.map Bv) ∧ Below w.heap.size w wr) (fun i _ _ => (intOf i).toNat)
  case atStart => exact ⟨n, [], hn, rfl, rfl, by simpa using hl10, World.ownsRow_nil _ _ _ _, Below.refl _ _⟩
  case round =>
    obtain ⟨m, acc, hm, rfl, hpu, hlen, hown, hb⟩ := hrel
    have HS := Lib.hid hb.size
    have hlo := fun (k : Nat) h => (hown.lt k h).1
    have hmk := mask64 hm
    by_cases h : m < 128
    · rw [pu_last h] at hpu hlen
      simp at hlen
      have HP := Lib.hid hpu; clear hpu
      have hz : ((m : Int) / 128 == 0) = true := by rw [beq_iff_eq]; omega
      go_wp2_with (first | (at_builtin; go_must (refine wpList_append_own _ rfl _ _ 30 rfl w.heap.size 5 i0 (.int .u8 0) 1 1 Tryd.underlying30 hi hz0 hz1 hz2 rfl (by decide) _ acc.length (acc.map Bv) rfl (hown.alloc _) ⟨wr.heap.size, 0, none⟩ 1 1 [.int .u8 ((m : Int) % 128)] rfl rfl (World.news_of_block (heap_alloc_new _ _)) (by simp [Value.oneCell']) (by unfold maxLen; omega) (by omega) (by have := HS.out; simp; omega) ?_; intro v' w1 hown' hgrow _)) | fail)
      go_wp2
      rw [Exit.noGoto_ret]
      go_ret
      refine ⟨_, rfl, ?_, (hb.alloc HS.out _).grown hgrow (by have := HS.out; simp; omega) hlo⟩
      rw [HP.out]
      exact snoc_own hown' (by omega) (by omega)
    · have hd : (pu m).length = (pu (m / 128)).length + 1 := by rw [pu_more (n := m) (by omega)]; rfl
      rw [pu_more (n := m) (by omega)] at hpu
      have HP := Lib.hid hpu; clear hpu
      have HD := Lib.hid hd; clear hd
      have hz : ((m : Int) / 128 == 0) = false := by rw [beq_eq_false_iff_ne]; omega
      have hor := or128 (n := m)
      go_wp2_with (first | (at_builtin; go_must (refine wpList_append_own _ rfl _ _ 30 rfl w.heap.size 5 i0 (.int .u8 0) 1 1 Tryd.underlying30 hi hz0 hz1 hz2 rfl (by decide) _ acc.length (acc.map Bv) rfl (hown.alloc _) ⟨wr.heap.size, 0, none⟩ 1 1 [.int .u8 ((m : Int) % 128 + 128)] rfl rfl (World.news_of_block (heap_alloc_new _ _)) (by simp [Value.oneCell']) (by unfold maxLen; omega) (by omega) (by have := HS.out; simp; omega) ?_; intro v' w1 hown' hgrow _)) | fail)
      go_wp2
      go_roundw
      case rel => exact ⟨m / 128, acc ++ [UInt8.ofNat (m % 128 + 128)], by omega, by go_num, by rw [HP.out]; simp, by have := HD.out; simp; omega, snoc_own hown' (by omega) (by omega), (hb.alloc HS.out _).grown hgrow (by have := HS.out; simp; omega) hlo⟩
      case measure => simp [intOf]; omega
end
end
section
set_option linter.unusedVariables false
set_option linter.unusedSimpArgs false

theorem pu_pos (n : Nat) : 0 < (pu n).length := by
  by_cases h : n < 128
  · rw [pu_last h]; simp
  · rw [pu_more (by omega)]; simp
theorem ofNat_toNat' {n : Nat} (h : n < 256) : (UInt8.ofNat n).toNat = n := by simp; omega

theorem uvS_pu (n : Nat) : ∀ (k N : Nat) (r : List UInt8), (k = 0 ∨ 0 < n) → k + (pu n).length ≤ 10 → n * 2 ^ (7 * k) < 18446744073709551616 →
    uvS k N (pu n ++ r) = (N + n * 2 ^ (7 * k), k + (pu n).length, 0) := by
  induction n using Nat.strongRecOn with
  | ind n ih =>
    intro k N r hk hl hb
    by_cases h : n < 128
    · rw [pu_last h] at hl ⊢
      have hv : (UInt8.ofNat n).toNat = n := ofNat_toNat' (by omega)
      have h9 : k = 9 → (UInt8.ofNat n).toNat ≤ 1 := by
        rintro rfl
        rw [hv]
        have : (2 : Nat) ^ (7 * 9) = 9223372036854775808 := rfl
        omega
      rw [List.singleton_append, uvS_done h9 (by omega) (by omega), hv, Nat.mod_eq_of_lt h]
      rfl
    · have hb0 : (UInt8.ofNat (n % 128 + 128)).toNat = n % 128 + 128 := ofNat_toNat' (by omega)
      have hp := pu_pos (n / 128)
      rw [pu_more (n := n) (by omega)] at hl ⊢
      simp only [List.length_cons] at hl
      rw [List.cons_append, uvS_more (by omega) (by omega), hb0, ih (n / 128) (by omega) (k + 1) _ r (Or.inr (by omega)) (by omega) (by
        rw [pow7]
        have : n / 128 * (128 * 2 ^ (7 * k)) = n / 128 * 128 * 2 ^ (7 * k) := by rw [Nat.mul_assoc]
        rw [this]
        exact Nat.lt_of_le_of_lt (Nat.mul_le_mul_right _ (Nat.div_mul_le_self n 128)) hb)]
      refine Prod.ext ?_ (Prod.ext ?_ rfl)
      · show N + (n % 128 + 128) % 128 * 2 ^ (7 * k) + n / 128 * 2 ^ (7 * (k + 1)) = N + n * 2 ^ (7 * k)
        rw [pow7, ← Nat.mul_assoc, Nat.add_assoc, ← Nat.add_mul, show (n % 128 + 128) % 128 + n / 128 * 128 = n from by omega]
      · show k + 1 + (pu (n / 128)).length = k + (UInt8.ofNat (n % 128 + 128) :: pu (n / 128)).length
        rw [List.length_cons]; omega

theorem uvS_cut (n : Nat) : ∀ (k N i : Nat), i < (pu n).length → k + (pu n).length ≤ 10 → uvS k N ((pu n).take i) = (0, 0, 6) := by
  induction n using Nat.strongRecOn with
  | ind n ih =>
    intro k N i hi hl
    cases i with
    | zero => simp [uvS]
    | succ i =>
      by_cases h : n < 128
      · rw [pu_last h] at hi; simp at hi
      · have hb0 : (UInt8.ofNat (n % 128 + 128)).toNat = n % 128 + 128 := ofNat_toNat' (by omega)
        have hp := pu_pos (n / 128)
        rw [pu_more (n := n) (by omega)] at hi hl ⊢
        simp only [List.length_cons] at hi hl
        rw [List.take_succ_cons, uvS_more (by omega) (by omega)]
        exact ih (n / 128) (by omega) _ _ _ (by omega) (by omega)

theorem uvS_form_of (l : List UInt8) : ∀ (k N z m : Nat), k ≤ 9 → uvS k N l = (z, m, 0) →
    ∃ y, z = N + y * 2 ^ (7 * k) ∧ k < m ∧ m - k ≤ l.length ∧ pu y = l.take (m - k) ∧ (k = 0 ∨ 0 < y) := by
  induction l with
  | nil => intro k N z m _ h; simp [uvS] at h
  | cons b r ih =>
    intro k N z m hk9 h
    by_cases h9 : k = 9 ∧ 1 < b.toNat
    · rw [uvS_over h9.1 h9.2] at h; simp at h
    · by_cases hb : b.toNat < 128
      · by_cases hf : 0 < k ∧ b.toNat = 0
        · rw [uvS_form (by omega) hf.1 hf.2] at h; simp at h
        · rw [uvS_done (by omega) hb hf] at h
          injection h with h1 h2
          injection h2 with h2 _
          refine ⟨b.toNat % 128, h1.symm, by omega, by rw [List.length_cons]; omega, ?_, by omega⟩
          rw [← h2, show k + 1 - k = 1 from by omega, Nat.mod_eq_of_lt hb, pu_last hb]
          simp
      · rw [uvS_more (by omega) (by omega)] at h
        obtain ⟨y, h1, h2, h3, h4, h5⟩ := ih (k + 1) _ z m (by omega) h
        have hy : 0 < y := by omega
        have hlt := b.toNat_lt
        refine ⟨b.toNat % 128 + y * 128, ?_, by omega, by rw [List.length_cons]; omega, ?_, by omega⟩
        · rw [h1, pow7, ← Nat.mul_assoc, Nat.add_mul, Nat.add_assoc]
        · rw [pu_more (by omega), show m - k = (m - (k + 1)) + 1 from by omega, List.take_succ_cons, ← h4, show (b.toNat % 128 + y * 128) / 128 = y from by omega,
            show (b.toNat % 128 + y * 128) % 128 + 128 = b.toNat from by omega]
          simp
theorem pu_mono (b : Nat) : ∀ a, a ≤ b → (pu a).length ≤ (pu b).length := by
  induction b using Nat.strongRecOn with
  | ind b ih =>
    intro a hab
    by_cases ha : a < 128
    · rw [pu_last ha]; exact pu_pos b
    · rw [pu_more (n := a) (by omega), pu_more (n := b) (by omega), List.length_cons, List.length_cons]
      have := ih (b / 128) (by omega) (a / 128) (by omega)
      omega
end
section
set_option linter.unusedVariables false
set_option linter.unusedSimpArgs false
open Go.RowKit
theorem uvS_err {k n : Nat} {l : List UInt8} (h : (uvS k n l).2.2 ≠ 0) : (uvS k n l).1 = 0 ∧ (uvS k n l).2.1 = 0 := by
  induction l generalizing k n with
  | nil => simp [uvS]
  | cons b r ih =>
    unfold uvS at h ⊢
    split <;> (try split) <;> (try split) <;> simp_all
theorem uvS_lt {k n : Nat} {l : List UInt8} (hk : k ≤ 9) (hn : n < 2 ^ (7 * k)) : (uvS k n l).1 < 18446744073709551616 := by
  induction l generalizing k n with
  | nil => simp [uvS]
  | cons b r ih =>
    by_cases h9 : k = 9 ∧ 1 < b.toNat
    · rw [uvS_over h9.1 h9.2]; omega
    · by_cases hb : b.toNat < 128
      · by_cases hf : 0 < k ∧ b.toNat = 0
        · rw [uvS_form (by omega) hf.1 hf.2]; omega
        · rw [uvS_done (by omega) hb hf]; exact uv_sum hk hn (by omega)
      · rw [uvS_more (by omega) (by omega)]
        exact ih (by omega) (uv_lt hn)
theorem uvS_le (l : List UInt8) : ∀ k n, (uvS k n l).2.1 ≤ k + l.length := by
  induction l with
  | nil => intro k n; simp [uvS]
  | cons b r ih =>
    intro k n
    unfold uvS
    split
    · simp
    · split
      · split
        · simp
        · simp
      · have := ih (k + 1) (n + b.toNat % 128 * 2 ^ (7 * k))
        simp only [List.length_cons]; omega

theorem uvS_le' (b : List UInt8) : (uvS 0 0 b).2.1 ≤ b.length := by have := uvS_le b 0 0; omega
theorem uvS_lt' (b : List UInt8) : (uvS 0 0 b).1 < 18446744073709551616 := uvS_lt (by omega) (by decide)
end
end Go.Proofs.YtgogpngobdafaaaDoor
