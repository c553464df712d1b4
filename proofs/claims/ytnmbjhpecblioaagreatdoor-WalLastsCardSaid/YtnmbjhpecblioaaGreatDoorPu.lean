
/-
  Numbers in few bytes, written.
-/
import Derived.Test.YtnmbjhpecblioaaGreatDoorGen
import Derived.Test.YtnmbjhpecblioaaGreatDoorUv
namespace Go.Proofs.YtnmbjhpecblioaaGreatDoor
set_option linter.unusedVariables false
set_option linter.unusedSimpArgs false
open Go.RowKit

/-- A number in few bytes: seven bits in each, the lowest ones first. -/
def pu (n : Nat) : List UInt8 := if h : n < 128 then [UInt8.ofNat n] else UInt8.ofNat (n % 128 + 128) :: pu (n / 128)
  termination_by n
  decreasing_by omega

theorem pu_last {n : Nat} (h : n < 128) : pu n = [UInt8.ofNat n] := by rw [pu, dif_pos h]
theorem pu_more {n : Nat} (h : 128 ≤ n) : pu n = UInt8.ofNat (n % 128 + 128) :: pu (n / 128) := by
  conv => lhs; rw [pu]
  rw [dif_neg (by omega)]
theorem mask64 {n : Nat} (h : n < 18446744073709551616) : bits .and .u64 (n : Int) 127 = (n : Int) % 128 := by
  have e : (127 : Int) = ((127 : Nat) : Int) := rfl
  rw [e, u64_and_nat _ _ h (by omega), show (127 : Nat) = 2 ^ 7 - 1 from rfl, Nat.and_two_pow_sub_one_eq_mod]
  rfl
theorem or128 {n : Nat} : bits .or .u8 ((n : Int) % 128) 128 = (n : Int) % 128 + 128 := by
  have e : (128 : Int) = ((128 : Nat) : Int) := rfl
  have e1 : (n : Int) % 128 = ((n % 128 : Nat) : Int) := rfl
  have h := or_beside (n % 128) 1 7 (by omega)
  rw [e1]
  show bits .or .u8 ((n % 128 : Nat) : Int) ((128 : Nat) : Int) = _
  rw [u8_or_nat _ _ (by omega) (by omega)]
  have h2 : n % 128 ||| 128 = n % 128 + 128 := h
  rw [h2]
  rfl
theorem pu_len (k n : Nat) (h : n < 2 ^ (7 * k)) : (pu n).length ≤ max k 1 := by
  induction k generalizing n with
  | zero => simp at h; subst h; rw [pu_last (by omega)]; simp
  | succ k ih =>
    by_cases hn : n < 128
    · rw [pu_last hn]; simp
    · rw [pu_more (by omega)]
      have h2 : n / 128 < 2 ^ (7 * k) := by rw [pow7] at h; omega
      have := ih _ h2
      have : k ≠ 0 := by rintro rfl; simp at h; omega
      simp; omega

section
set_option maxHeartbeats 1600000
set_option maxRecDepth 100000
theorem rpu_any (n : Nat) (w : World) (hn : n < 18446744073709551616) :
    Calls Tryz.prog 85 #[.int .u64 n] w fun e w' => ∃ v, e = .returned v ∧ w'.ownsRow w.heap.size 5 1 v (pu n).length ((pu n).map Bv) ∧ Below w.heap.size w w' := by
  obtain ⟨i0, hi, hz0, hz1, hz2⟩ := info_parts infoU8
  have hl10 := pu_len 10 n (by omega)
  go_enter Tryz.func85, Tryz.ntmps85
  go_wp2
  go_loopw [0, 3] (fun i v wr => ∃ (m : Nat) (acc : List UInt8), m < 18446744073709551616 ∧ i = .int .u64 m ∧ pu n = acc ++ pu m ∧ acc.length + (pu m).length ≤ 10 ∧ wr.ownsRow w.heap.size 5 1 v acc.length (acc.map Bv) ∧ Below w.heap.size w wr) (fun i _ _ => (intOf i).toNat)
  case atStart => exact ⟨n, [], hn, rfl, rfl, by simpa using hl10, own_empty w _, (Below.refl _ _).alloc (Nat.le_refl _) _⟩
  case round =>
    obtain ⟨m, acc, hm, rfl, hpu, hlen, hown, hb⟩ := hrel
    have HS := Lib.hid hb.size
    have hlo := fun (k : Nat) h => (hown.lt k h).1
    by_cases h : m < 128
    · rw [pu_last h] at hpu hlen
      simp at hlen
      have HP := Lib.hid hpu; clear hpu
      go_wp2_with (first | (at_builtin; go_must (refine wpList_append_own _ rfl _ _ 29 rfl w.heap.size 5 i0 (.int .u8 0) 1 1 Tryz.underlying29 hi hz0 hz1 hz2 rfl (by decide) _ acc.length (acc.map Bv) rfl (hown.alloc _) ⟨wr.heap.size, 0, none⟩ 1 1 [.int .u8 m] rfl rfl (World.news_of_block (heap_alloc_new _ _)) (by simp [Value.oneCell']) (by unfold maxLen; omega) (by omega) (by have := HS.out; simp; omega) ?_; intro v' w1 hown' hgrow _)) | fail)
      go_wp2
      go_ret
      refine ⟨_, rfl, ?_, (hb.alloc HS.out _).grown hgrow (by have := HS.out; simp; omega) hlo⟩
      rw [HP.out]
      exact snoc_own hown' rfl (by omega)
    · have hd : (pu m).length = (pu (m / 128)).length + 1 := by rw [pu_more (n := m) (by omega)]; rfl
      rw [pu_more (n := m) (by omega)] at hpu
      have HP := Lib.hid hpu; clear hpu
      have HD := Lib.hid hd; clear hd
      go_wp2_with (first | (at_builtin; go_must (refine wpList_append_own _ rfl _ _ 29 rfl w.heap.size 5 i0 (.int .u8 0) 1 1 Tryz.underlying29 hi hz0 hz1 hz2 rfl (by decide) _ acc.length (acc.map Bv) rfl (hown.alloc _) ⟨wr.heap.size, 0, none⟩ 1 1 [.int .u8 ((m : Int) % 128 + 128)] rfl rfl (World.news_of_block (heap_alloc_new _ _)) (by simp [Value.oneCell']) (by unfold maxLen; omega) (by omega) (by have := HS.out; simp; omega) ?_; intro v' w1 hown' hgrow _)) | fail)
      go_wp2
      go_roundw
      case rel => exact ⟨m / 128, acc ++ [UInt8.ofNat (m % 128 + 128)], by omega, by go_num, by rw [HP.out]; simp, by have := HD.out; simp; omega, snoc_own hown' (by omega) (by omega), (hb.alloc HS.out _).grown hgrow (by have := HS.out; simp; omega) hlo⟩
      case measure => simp [intOf]; omega

theorem pu_any (n : Nat) (w : World) (hn : n < 18446744073709551616) :
    Calls Tryz.prog 96 #[.int .u64 n] w fun e w' => ∃ v, e = .returned v ∧ w'.ownsRow w.heap.size 5 1 v (pu n).length ((pu n).map Bv) ∧ Below w.heap.size w w' := by
  obtain ⟨i0, hi, hz0, hz1, hz2⟩ := info_parts infoU8
  have hl10 := pu_len 10 n (by omega)
  go_enter Tryz.func96, Tryz.ntmps96
  go_wp2
  go_step3
  go_wp2
  go_step3
  go_wp2
  go_loopw [0, 3] (fun i v wr => ∃ (m : Nat) (acc : List UInt8), m < 18446744073709551616 ∧ i = .int .u64 m ∧ pu n = acc ++ pu m ∧ acc.length + (pu m).length ≤ 10 ∧ wr.ownsRow w.heap.size 5 1 v acc.length (acc.map Bv) ∧ Below w.heap.size w wr) (fun i _ _ => (intOf i).toNat)
  case atStart => exact ⟨n, [], hn, rfl, rfl, by simpa using hl10, World.ownsRow_nil _ _ _ _, Below.refl _ _⟩
  case round =>
    obtain ⟨m, acc, hm, rfl, hpu, hlen, hown, hb⟩ := hrel
    have HS := Lib.hid hb.size
    have hlo := fun (k : Nat) h => (hown.lt k h).1
    have hmk := mask64 hm
    by_cases h : m < 128
    · rw [pu_last h] at hpu hlen
      simp at hlen
      have HP := Lib.hid hpu; clear hpu
      have hz : ((m : Int) / 128 == 0) = true := by rw [beq_iff_eq]; omega
      go_wp2_with (first | (at_builtin; go_must (refine wpList_append_own _ rfl _ _ 29 rfl w.heap.size 5 i0 (.int .u8 0) 1 1 Tryz.underlying29 hi hz0 hz1 hz2 rfl (by decide) _ acc.length (acc.map Bv) rfl (hown.alloc _) ⟨wr.heap.size, 0, none⟩ 1 1 [.int .u8 ((m : Int) % 128)] rfl rfl (World.news_of_block (heap_alloc_new _ _)) (by simp [Value.oneCell']) (by unfold maxLen; omega) (by omega) (by have := HS.out; simp; omega) ?_; intro v' w1 hown' hgrow _)) | fail)
      go_wp2
      rw [Exit.noGoto_ret]
      go_ret
      refine ⟨_, rfl, ?_, (hb.alloc HS.out _).grown hgrow (by have := HS.out; simp; omega) hlo⟩
      rw [HP.out]
      exact snoc_own hown' (by omega) (by omega)
    · have hd : (pu m).length = (pu (m / 128)).length + 1 := by rw [pu_more (n := m) (by omega)]; rfl
      rw [pu_more (n := m) (by omega)] at hpu
      have HP := Lib.hid hpu; clear hpu
      have HD := Lib.hid hd; clear hd
      have hz : ((m : Int) / 128 == 0) = false := by rw [beq_eq_false_iff_ne]; omega
      have hor := or128 (n := m)
      go_wp2_with (first | (at_builtin; go_must (refine wpList_append_own _ rfl _ _ 29 rfl w.heap.size 5 i0 (.int .u8 0) 1 1 Tryz.underlying29 hi hz0 hz1 hz2 rfl (by decide) _ acc.length (acc.map Bv) rfl (hown.alloc _) ⟨wr.heap.size, 0, none⟩ 1 1 [.int .u8 ((m : Int) % 128 + 128)] rfl rfl (World.news_of_block (heap_alloc_new _ _)) (by simp [Value.oneCell']) (by unfold maxLen; omega) (by omega) (by have := HS.out; simp; omega) ?_; intro v' w1 hown' hgrow _)) | fail)
      go_wp2
      go_roundw
      case rel => exact ⟨m / 128, acc ++ [UInt8.ofNat (m % 128 + 128)], by omega, by go_num, by rw [HP.out]; simp, by have := HD.out; simp; omega, snoc_own hown' (by omega) (by omega), (hb.alloc HS.out _).grown hgrow (by have := HS.out; simp; omega) hlo⟩
      case measure => simp [intOf]; omega
end
end Go.Proofs.YtnmbjhpecblioaaGreatDoor
