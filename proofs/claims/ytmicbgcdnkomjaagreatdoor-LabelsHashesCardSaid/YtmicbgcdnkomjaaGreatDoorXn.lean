/-
  Numbers of bytes, the lowest one first.
-/
import Derived.Test.YtmicbgcdnkomjaaGreatDoorXx
namespace Go.Proofs.YtmicbgcdnkomjaaGreatDoor
set_option linter.unusedVariables false
set_option linter.unusedSimpArgs false
open Go.RowKit

theorem leN_le (xs : List UInt8) (k : Nat) (h : xs.length ≤ k) : leN xs < 2 ^ (8 * k) := by
  have := leN_lt xs
  rw [show 256 = 2 ^ 8 from rfl, ← Nat.pow_mul] at this
  exact Nat.lt_of_lt_of_le this (Nat.pow_le_pow_right (by decide) (by omega))
theorem leN_take_succ {xs : List UInt8} {k : Nat} (h : k < xs.length) : leN (xs.take (k + 1)) = leN (xs.take k) + bt xs k * 2 ^ (8 * k) := by
  have e : bt xs k = xs[k].toNat := by simp [bt, List.getD, h]
  rw [List.take_succ_eq_append_getElem h, leN_snoc, List.length_take, Nat.min_eq_left (by omega), e]
/-- What another byte does. -/
theorem leN_round {xs : List UInt8} {k : Nat} (h : k < xs.length) (hk : k < 8) :
    leN (xs.take k) < 18446744073709551616 ∧ bt xs k * 2 ^ (8 * k) < 18446744073709551616 ∧ leN (xs.take k) ||| bt xs k * 2 ^ (8 * k) = leN (xs.take (k + 1)) ∧ leN (xs.take (k + 1)) < 18446744073709551616 := by
  have h1 := leN_le (xs.take k) k (List.length_take_le _ _)
  have h2 := leN_le (xs.take (k + 1)) (k + 1) (List.length_take_le _ _)
  have h3 : 2 ^ (8 * (k + 1)) ≤ 2 ^ 64 := Nat.pow_le_pow_right (by decide) (by omega)
  have h4 := leN_take_succ h
  have h5 := or_beside (leN (xs.take k)) (bt xs k) (8 * k) h1
  refine ⟨?_, ?_, by rw [h5, h4], ?_⟩ <;> omega

section
set_option maxHeartbeats 800000
set_option maxRecDepth 100000
theorem number_any (w : World) (A : Option Addr) (c m n : Nat) (xs : List UInt8) (hm : xs.length = m) (hx : Rd w A (xs.map Bv)) (hn : n ≤ m) (hmc : m ≤ c) (hn8 : n ≤ 8) (hc : c ≤ 9223372036854775807) :
    Calls Tryz.prog 99 #[.slice A m c, .int .i64 (n : Nat)] w fun e w' => e = .returned (.int .u64 (leN (xs.take n) : Nat)) ∧ w = w' := by
  have HM := Lib.hid hm; clear hm
  go_enter Tryz.func99, Tryz.ntmps99
  go_wp2_with (first
    | (refine wpList_slice_any (o := ⟨some 10, _, _, _, _, _⟩) ?_ 37 (.tmp 8) none (some (.tmp 9)) ?_ 5 Tryz.underlying37 (by kernel_rfl) A m c 0 n ?_ ?_ ?_ (Nat.zero_le _) (by omega) ?_; rfl; rfl; rfl; exact .inr ⟨rfl, rfl⟩; exact .inl rfl; intro A2 hA2 hrd2)
    | fail)
  have hx2 := hrd2 _ (by rw [List.length_map, HM.out]; exact hmc) hx
  rw [List.drop_zero] at hx2
  clear hrd2 hA2
  go_wp2
  go_loopw [5, 12] (fun v i wr => ∃ k : Nat, k ≤ n ∧ i = .int .i64 k ∧ v = .int .u64 (leN (xs.take k) : Nat) ∧ wr = w) (fun _ i _ => n - (intOf i).toNat)
  case atStart => exact ⟨0, by omega, rfl, rfl, rfl⟩
  case round =>
    obtain ⟨k, hk, rfl, rfl, rfl⟩ := hrel
    by_cases hlt : k < n
    · have hkx : k < xs.length := by rw [HM.out]; omega
      obtain ⟨b, off, rfl, hcl⟩ := hx2.at (by omega)
      have hck := hcl k hkx
      obtain ⟨l1, l2, ho, l3⟩ := leN_round hkx (by omega)
      have hb8 := bt_lt xs k
      obtain ⟨e, he⟩ : ∃ e, e = 8 * k := ⟨_, rfl⟩
      have he2 : (8 : Int) * (k : Int) = (e : Int) := by omega
      have he3 : e ≤ 56 := by omega
      rw [← he] at l2 ho
      have HE := Lib.hid he; clear he hcl
      generalize bt xs k = p at *
      have hs1 : (p : Int) * 2 ^ e = ((p * 2 ^ e : Nat) : Int) := by rw [natCast_two_pow]; rfl
      have hs2 : IntKind.u64.wrap ((p : Int) * 2 ^ e) = ((p * 2 ^ e : Nat) : Int) := by rw [wrap_u64_eq, hs1]; omega
      have hor := u64_or_nat _ _ l1 l2
      rw [ho] at hor
      have HS := Lib.hid hs1; clear hs1 ho
      generalize p * 2 ^ e = y at *
      obtain ⟨x1, hx1⟩ : ∃ x1, x1 = leN (xs.take (k + 1)) := ⟨_, rfl⟩
      rw [← hx1] at hor l3
      have HX1 := Lib.hid hx1; clear hx1
      generalize leN (xs.take k) = x0 at *
      go_wp2
      go_roundw
      case rel => exact ⟨k + 1, by omega, by go_num, by rw [HX1.out], by first | rfl | trivial⟩
      case measure => simp [intOf]; omega
    · have hkn : k = n := by omega
      have HK := Lib.hid hkn; clear hkn
      go_wp2
      go_ret
      exact ⟨by rw [HK.out]; rfl, rfl⟩
theorem rlow_any (w : World) (A : Option Addr) (c n : Nat) (xs : List UInt8) (hm : xs.length = n) (hx : Rd w A (xs.map Bv)) (hn8 : n ≤ 8) :
    Calls Tryz.prog 77 #[.slice A n c] w fun e w' => e = .returned (.int .u64 (leN xs : Nat)) ∧ w = w' := by
  have HM := Lib.hid hm; clear hm
  go_enter Tryz.func77, Tryz.ntmps77
  go_wp2
  go_loopw [3, 8] (fun v i wr => ∃ k : Nat, k ≤ n ∧ i = .int .i64 k ∧ v = .int .u64 (leN (xs.take k) : Nat) ∧ wr = w) (fun _ i _ => n - (intOf i).toNat)
  case atStart => exact ⟨0, by omega, rfl, rfl, rfl⟩
  case round =>
    obtain ⟨k, hk, rfl, rfl, rfl⟩ := hrel
    by_cases hlt : k < n
    · have hkx : k < xs.length := by rw [HM.out]; omega
      obtain ⟨b, off, rfl, hcl⟩ := hx.at (by omega)
      have hck := hcl k hkx
      obtain ⟨l1, l2, ho, l3⟩ := leN_round hkx (by omega)
      have hadd := leN_take_succ hkx
      have hb8 := bt_lt xs k
      obtain ⟨e, he⟩ : ∃ e, e = 8 * k := ⟨_, rfl⟩
      have he2 : (8 : Int) * (k : Int) = (e : Int) := by omega
      have he3 : e ≤ 56 := by omega
      rw [← he] at l2 ho hadd
      have HE := Lib.hid he; clear he hcl
      generalize bt xs k = p at *
      have hs1 : (p : Int) * 2 ^ e = ((p * 2 ^ e : Nat) : Int) := by rw [natCast_two_pow]; rfl
      have hs2 : IntKind.u64.wrap ((p : Int) * 2 ^ e) = ((p * 2 ^ e : Nat) : Int) := by rw [wrap_u64_eq, hs1]; omega
      have HS := Lib.hid hs1; clear hs1 ho
      generalize p * 2 ^ e = y at *
      obtain ⟨x1, hx1⟩ : ∃ x1, x1 = leN (xs.take (k + 1)) := ⟨_, rfl⟩
      rw [← hx1] at hadd l3
      generalize leN (xs.take k) = x0 at *
      have hs : (x0 : Int) + (y : Int) = (x1 : Int) := by omega
      have HX1 := Lib.hid hx1; clear hx1 hadd
      have h18 : x0 + y < 18446744073709551616 := by omega
      go_wp2
      go_roundw
      case rel => exact ⟨k + 1, by omega, by go_num, by rw [← HX1.out], by first | rfl | trivial⟩
      case measure => simp [intOf]; omega
    · have hkn : xs.take k = xs := List.take_of_length_le (by rw [HM.out]; omega)
      have HK := Lib.hid hkn; clear hkn
      go_wp2
      go_ret
      exact ⟨by rw [HK.out]; rfl, rfl⟩
end
end Go.Proofs.YtmicbgcdnkomjaaGreatDoor
