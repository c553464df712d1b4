/-
  What a letter and a digit stand for, and bytes as letters: the plain answers' own.
-/
import Derived.Test.YtmgjlldccmgpcaaDoorUn
import Derived.Test.YtmgjlldccmgpcaaDoorWn
import Derived.Test.YtmgjlldccmgpcaaDoorRbits
import Derived.Test.YtmgjlldccmgpcaaDoorRh
import Derived.Test.YtmgjlldccmgpcaaDoorGen
import Derived.Test.YtmgjlldccmgpcaaDoorLb
namespace Go.Proofs.YtmgjlldccmgpcaaDoor
set_option linter.unusedVariables false
set_option linter.unusedSimpArgs false
open Go.RowKit
theorem armV_le (c : UInt8) : armV c ≤ 64 := by
  unfold armV
  by_cases h1 : 65 ≤ c.toNat ∧ c.toNat ≤ 90
  · rw [if_pos h1]; omega
  · rw [if_neg h1]
    by_cases h2 : 97 ≤ c.toNat ∧ c.toNat ≤ 122
    · rw [if_pos h2]; omega
    · rw [if_neg h2]
      by_cases h3 : 48 ≤ c.toNat ∧ c.toNat ≤ 57
      · rw [if_pos h3]; omega
      · rw [if_neg h3]
        by_cases h4 : c.toNat = 45
        · rw [if_pos h4]; omega
        · rw [if_neg h4]
          by_cases h5 : c.toNat = 95
          · rw [if_pos h5]; omega
          · rw [if_neg h5]; omega
theorem hexV_le (c : UInt8) : hexV c ≤ 16 := by
  unfold hexV
  by_cases h1 : 48 ≤ c.toNat ∧ c.toNat ≤ 57
  · rw [if_pos h1]; omega
  · rw [if_neg h1]
    by_cases h2 : 97 ≤ c.toNat ∧ c.toNat ≤ 102
    · rw [if_pos h2]; omega
    · rw [if_neg h2]; omega
theorem no_letter {w : Nat} {L : List UInt8} {f : UInt8 → Nat} (hL : Letters w L f) {c : UInt8} (hle : f c ≤ 2 ^ w) (h : ∀ j, j < 2 ^ w → ltr L j ≠ c) : f c = 2 ^ w := by
  by_cases hc : f c < 2 ^ w
  · exact absurd (hL.ltr c hc) (h _ hc)
  · omega
section
set_option maxHeartbeats 1600000
set_option maxRecDepth 100000
theorem value_any (c : UInt8) (w : World) : Calls Tryd.prog 46 #[.int .u8 (c.toNat : Nat)] w fun e w' => e = .returned (.int .u64 (armV c : Nat)) ∧ w = w' := by
  obtain ⟨R, hR⟩ : ∃ R, R = armV c := ⟨_, rfl⟩
  rw [← hR]
  have HR := Lib.hid hR; clear hR
  go_enter Tryd.func46, Tryd.ntmps46
  go_wp2
  go_loopw [4] (fun s4 wr => ∃ k : Nat, k ≤ 64 ∧ s4 = .int .i64 k ∧ wr = w ∧ Aside (∀ j, j < k → ltr armL j ≠ c)) (fun s4 _ => 64 - (intOf s4).toNat)
  case atStart => exact ⟨0, by omega, rfl, rfl, fun j hj => absurd hj (Nat.not_lt_zero _)⟩
  case round =>
    obtain ⟨k, hk, rfl, rfl, A1⟩ := hrel
    by_cases hlt : k < 64
    · have hix : ∀ u, (Instr.index 9 (.string ⟨#[65, 66, 67, 68, 69, 70, 71, 72, 73, 74, 75, 76, 77, 78, 79, 80, 81, 82, 83, 84, 85, 86, 87, 88, 89, 90, 97, 98, 99, 100, 101, 102, 103, 104, 105, 106, 107, 108, 109, 110, 111, 112, 113, 114, 115, 116, 117, 118, 119, 120, 121, 122, 48, 49, 50, 51, 52, 53, 54, 55, 56, 57, 45, 95]⟩) (.int .i64 (k : Nat))).run Tryd.prog u = .ok (.int .u8 ((ltr armL k).toNat : Nat)) u := fun u =>
        run_index_str u 9 ⟨armL.toArray⟩ .i64 k Tryd.underlying9 (show k < 64 from hlt)
      have k1 : (k : Int) < 64 := by omega
      have k0 : (0 : Int) ≤ (k : Int) := by omega
      by_cases he : ltr armL k = c
      · have hr : k = R := by rw [HR.out, ← he]; exact (arm_letters.val k hlt).symm
        subst hr
        rw [he] at hix
        have HE := Lib.hid he; clear he
        go_wp2
        go_ret
        exact ⟨rfl, rfl⟩
      · have hne : (((ltr armL k).toNat : Int) == (c.toNat : Int)) = false := by rw [beq_eq_false_iff_ne]; intro e; exact he (UInt8.toNat_inj.1 (by omega))
        have hA2 : ∀ j, j < k + 1 → ltr armL j ≠ c := fun j hj => by
          by_cases e : j = k
          · subst e; exact he
          · exact A1.out j (by omega)
        have HA2 := Lib.hid hA2; clear hA2 he
        generalize (ltr armL k).toNat = y at hix hne
        go_wp2
        go_roundw
        case rel => exact ⟨k + 1, by omega, by go_num, (by first | rfl | trivial), (show Aside _ from HA2.out)⟩
        case measure => simp [intOf]; omega
    · obtain rfl : k = 64 := by omega
      have hr : R = 64 := by rw [HR.out]; exact no_letter arm_letters (armV_le c) A1.out
      subst hr
      go_wp2
      go_ret
      exact ⟨rfl, rfl⟩
theorem nibble_any (c : UInt8) (w : World) : Calls Tryd.prog 50 #[.int .u8 (c.toNat : Nat)] w fun e w' => e = .returned (.int .u8 (hexV c : Nat)) ∧ w = w' := by
  obtain ⟨R, hR⟩ : ∃ R, R = hexV c := ⟨_, rfl⟩
  rw [← hR]
  have HR := Lib.hid hR; clear hR
  go_enter Tryd.func50, Tryd.ntmps50
  go_wp2
  go_loopw [4] (fun s4 wr => ∃ k : Nat, k ≤ 16 ∧ s4 = .int .i64 k ∧ wr = w ∧ Aside (∀ j, j < k → ltr hexL j ≠ c)) (fun s4 _ => 16 - (intOf s4).toNat)
  case atStart => exact ⟨0, by omega, rfl, rfl, fun j hj => absurd hj (Nat.not_lt_zero _)⟩
  case round =>
    obtain ⟨k, hk, rfl, rfl, A1⟩ := hrel
    by_cases hlt : k < 16
    · have hix : ∀ u, (Instr.index 9 (.string ⟨#[48, 49, 50, 51, 52, 53, 54, 55, 56, 57, 97, 98, 99, 100, 101, 102]⟩) (.int .i64 (k : Nat))).run Tryd.prog u = .ok (.int .u8 ((ltr hexL k).toNat : Nat)) u := fun u =>
        run_index_str u 9 ⟨hexL.toArray⟩ .i64 k Tryd.underlying9 (show k < 16 from hlt)
      have k1 : (k : Int) < 16 := by omega
      have k0 : (0 : Int) ≤ (k : Int) := by omega
      by_cases he : ltr hexL k = c
      · have hr : k = R := by rw [HR.out, ← he]; exact (hex_letters.val k hlt).symm
        subst hr
        rw [he] at hix
        have HE := Lib.hid he; clear he
        have hk2 : (k : Int) % 256 = (k : Int) := by omega
        go_wp2
        go_ret
        exact ⟨rfl, rfl⟩
      · have hne : (((ltr hexL k).toNat : Int) == (c.toNat : Int)) = false := by rw [beq_eq_false_iff_ne]; intro e; exact he (UInt8.toNat_inj.1 (by omega))
        have hA2 : ∀ j, j < k + 1 → ltr hexL j ≠ c := fun j hj => by
          by_cases e : j = k
          · subst e; exact he
          · exact A1.out j (by omega)
        have HA2 := Lib.hid hA2; clear hA2 he
        generalize (ltr hexL k).toNat = y at hix hne
        go_wp2
        go_roundw
        case rel => exact ⟨k + 1, by omega, by go_num, (by first | rfl | trivial), (show Aside _ from HA2.out)⟩
        case measure => simp [intOf]; omega
    · obtain rfl : k = 16 := by omega
      have hr : R = 16 := by rw [HR.out]; exact no_letter hex_letters (hexV_le c) A1.out
      subst hr
      go_wp2
      go_ret
      exact ⟨rfl, rfl⟩
end
theorem letter_slice64 (u : World) (d : Nat) (hd : d < 64) : (Instr.sliceAt 9 (.string ⟨#[65, 66, 67, 68, 69, 70, 71, 72, 73, 74, 75, 76, 77, 78, 79, 80, 81, 82, 83, 84, 85, 86, 87, 88, 89, 90, 97, 98, 99, 100, 101, 102, 103, 104, 105, 106, 107, 108, 109, 110, 111, 112, 113, 114, 115, 116, 117, 118, 119, 120, 121, 122, 48, 49, 50, 51, 52, 53, 54, 55, 56, 57, 45, 95]⟩) (some (.int .u64 (d : Nat))) (some (.int .u64 ((d : Int) + 1))) none).run Tryd.prog u = .ok (.string ⟨#[ltr armL d]⟩) u := by
  have b1 : (Instr.sliceBound (.int .u64 ((d : Int) + 1)) 64 .sliceAlen).run Tryd.prog u = .ok (d + 1) u := by simp [Instr.sliceBound, asIntOf]; omega
  have b2 : (Instr.sliceBound (.int .u64 ((d : Nat) : Int)) (d + 1) .sliceB).run Tryd.prog u = .ok d u := by simp [Instr.sliceBound, asIntOf]; intro h; omega
  have hx : ∀ i : Fin 64, (⟨#[65, 66, 67, 68, 69, 70, 71, 72, 73, 74, 75, 76, 77, 78, 79, 80, 81, 82, 83, 84, 85, 86, 87, 88, 89, 90, 97, 98, 99, 100, 101, 102, 103, 104, 105, 106, 107, 108, 109, 110, 111, 112, 113, 114, 115, 116, 117, 118, 119, 120, 121, 122, 48, 49, 50, 51, 52, 53, 54, 55, 56, 57, 45, 95]⟩ : ByteArray).extract i.val (i.val + 1) = ⟨#[ltr armL i.val]⟩ := by decide +kernel
  have hz : (⟨#[65, 66, 67, 68, 69, 70, 71, 72, 73, 74, 75, 76, 77, 78, 79, 80, 81, 82, 83, 84, 85, 86, 87, 88, 89, 90, 97, 98, 99, 100, 101, 102, 103, 104, 105, 106, 107, 108, 109, 110, 111, 112, 113, 114, 115, 116, 117, 118, 119, 120, 121, 122, 48, 49, 50, 51, 52, 53, 54, 55, 56, 57, 45, 95]⟩ : ByteArray).size = 64 := rfl
  have hxd := hx ⟨d, hd⟩
  simp only at hxd
  simp only [Instr.sliceAt, Instr.slice, Instr.sliceBounds, Sem.run_bind, run_underlying Tryd.underlying9, Result.andThen_ok, hz, Sem.run_pure, b1, b2, Option.isSome_none, hxd, Bool.false_eq_true, if_false]
theorem one_letter (u : World) (acc : List UInt8) (p : UInt8) (h : acc.length ≤ 4000000) : (Op.stringOp .add ⟨acc.toArray⟩ ⟨#[p]⟩).run Tryd.prog u = .ok (.string ⟨(acc ++ [p]).toArray⟩) u := by
  have h := run_string_add_sum (P := Tryd.prog) u (⟨acc.toArray⟩ : ByteArray) ⟨[p].toArray⟩ (show acc.length + [p].length ≤ 9223372036854775807 from by simp; omega)
  rw [bytes_app] at h
  exact h
end Go.Proofs.YtmgjlldccmgpcaaDoor
