/-
  Numbers in few bytes, read by the plain answers.
-/
import Derived.Test.YtgogpngobdafaaaDoorPua
namespace Go.Proofs.YtgogpngobdafaaaDoor
set_option linter.unusedVariables false
set_option linter.unusedSimpArgs false
open Go.RowKit
/-- What the plain walk has of 'n += uint64(b[i]%128) << uint(7*i)'. -/
theorem uv_add {k N x : Nat} (hk : k ≤ 9) (hN : N < 2 ^ (7 * k)) (h9 : k = 9 → x ≤ 1) :
    IntKind.u64.wrap ((N : Int) + IntKind.u64.wrap ((x : Int) % 128 * 2 ^ (7 * k))) = ((N + x % 128 * 2 ^ (7 * k) : Nat) : Int) := by
  have h := uv_small (x := x) hk h9
  have e : ((x : Int) % 128 * 2 ^ (7 * k)) = ((x % 128 * 2 ^ (7 * k) : Nat) : Int) := by push_cast; rfl
  have hs := uv_sum hk hN h9
  rw [e, IntWalk.u64_in ((x % 128 * 2 ^ (7 * k) : Nat) : Int) (by omega), ← Int.natCast_add, IntWalk.u64_in _ (by omega)]
section
set_option maxHeartbeats 1600000
set_option maxRecDepth 100000
theorem ruvarint_any (A : Option Addr) (ca : Nat) (xs : List UInt8) (w : World) (hx : Rd w A (xs.map Bv)) (hlx : xs.length ≤ 9223372036854775807) :
    Calls Tryd.prog 51 #[.slice A xs.length ca] w fun e w' => e = .returned (uvT (uvS 0 0 xs)) ∧ w = w' := by
  go_enter Tryd.func51, Tryd.ntmps51
  go_wp2
  go_loop [5, 7] (fun n i => ∃ k N : Nat, k ≤ xs.length ∧ k ≤ 9 ∧ N < 2 ^ (7 * k) ∧ i = .int .i64 k ∧ n = .int .u64 N ∧ uvS 0 0 xs = uvS k N (xs.drop k)) (fun _ i => 10 - (intOf i).toNat)
  case atStart => exact ⟨0, 0, by omega, by omega, by decide, rfl, rfl, rfl⟩
  case round =>
    obtain ⟨k, N, hk, hk9, hN, rfl, rfl, hu⟩ := hrel
    by_cases hlt : k < xs.length
    · obtain ⟨b, off, rfl, hc⟩ := hx.byte hlt
      rw [drop_cons hlt] at hu
      have h1 := xs[k].toNat_lt
      have hne : ((k : Int) == xs.length) = false := by rw [beq_eq_false_iff_ne]; omega
      have HN := Lib.hid hN; clear hN
      have HU := Lib.hid hu; clear hu
      by_cases hov : k = 9 ∧ 1 < xs[k].toNat
      · have hv : uvS 0 0 xs = (0, 0, 9) := by rw [HU.out]; exact uvS_over hov.1 hov.2
        have HV := Lib.hid hv; clear hv HU HN
        have h9' : ((k : Int) == 9) = true := by rw [beq_iff_eq]; omega
        have hx1 : 1 < (xs[k].toNat : Int) := by omega
        clear hov
        generalize xs[k].toNat = x at *
        go_wp2
        go_ret3
        exact ⟨by rw [HV.out]; rfl, rfl⟩
      · have hx9 : k = 9 → xs[k].toNat ≤ 1 := by omega
        have HO := Lib.hid (uv_add (x := xs[k].toNat) hk9 HN.out hx9)
        have hov' : ((k : Int) == 9 && decide (1 < (xs[k].toNat : Int))) = false := by
          rw [Bool.and_eq_false_iff, beq_eq_false_iff_ne, decide_eq_false_iff_not]; omega
        by_cases hx2 : xs[k].toNat < 128
        · have hx2' : (xs[k].toNat : Int) < 128 := by omega
          by_cases hf : 0 < k ∧ xs[k].toNat = 0
          · have hv : uvS 0 0 xs = (0, 0, 8) := by rw [HU.out]; exact uvS_form hx9 hf.1 hf.2
            have HV := Lib.hid hv; clear hv HU HN HO
            have hk0 : 0 < (k : Int) := by omega
            have hx0 : ((xs[k].toNat : Int) == 0) = true := by rw [beq_iff_eq]; omega
            have hx1 : (xs[k].toNat : Int) ≤ 1 := by omega
            have h99 : ((k : Int) == 9) = true ∨ ((k : Int) == 9) = false := by cases ((k : Int) == 9) <;> simp
            clear hf hov hov' hx9
            generalize xs[k].toNat = x at *
            rcases h99 with h9' | h9'
            all_goals
              go_wp2
              go_ret3
              exact ⟨by rw [HV.out]; rfl, rfl⟩
          · have hv : uvS 0 0 xs = (N + xs[k].toNat % 128 * 2 ^ (7 * k), k + 1, 0) := by rw [HU.out]; exact uvS_done hx9 hx2 hf
            have HV := Lib.hid hv; clear hv HU HN
            by_cases h9 : k = 9
            · have h9' : ((k : Int) == 9) = true := by rw [beq_iff_eq]; omega
              have hx1 : (xs[k].toNat : Int) ≤ 1 := by omega
              have hx0 : ((xs[k].toNat : Int) == 0) = false := by rw [beq_eq_false_iff_ne]; omega
              have hk0 : 0 < (k : Int) := by omega
              have H9 := Lib.hid h9; clear h9 hf hov hov' hx9
              generalize xs[k].toNat = x at *
              go_wp2
              go_ret3
              exact ⟨by rw [HV.out]; exact ret3 HO.out (by simp) rfl, rfl⟩
            · have h9' : ((k : Int) == 9) = false := by rw [beq_eq_false_iff_ne]; omega
              by_cases hk0 : 0 < k
              · have hk0' : 0 < (k : Int) := by omega
                have hx0 : ((xs[k].toNat : Int) == 0) = false := by rw [beq_eq_false_iff_ne]; omega
                clear hf hov hov' hx9
                generalize xs[k].toNat = x at *
                go_wp2
                go_ret3
                exact ⟨by rw [HV.out]; exact ret3 HO.out (by simp) rfl, rfl⟩
              · have hk0' : (k : Int) ≤ 0 := by omega
                clear hf hov hov' hx9
                generalize xs[k].toNat = x at *
                go_wp2
                go_ret3
                exact ⟨by rw [HV.out]; exact ret3 HO.out (by simp) rfl, rfl⟩
        · have h9 : k ≠ 9 := by omega
          have hv : uvS 0 0 xs = uvS (k + 1) (N + xs[k].toNat % 128 * 2 ^ (7 * k)) (xs.drop (k + 1)) := by rw [HU.out]; exact uvS_more h9 (by omega)
          have HV := Lib.hid hv; clear hv HU
          have HL := Lib.hid (uv_lt (x := xs[k].toNat) HN.out)
          have h9' : ((k : Int) == 9) = false := by rw [beq_eq_false_iff_ne]; omega
          have hx3 : 128 ≤ (xs[k].toNat : Int) := by omega
          clear hov hov' hx9
          generalize xs[k].toNat = x at *
          go_wp2
          go_round
          case rel => exact ⟨k + 1, _, by omega, by omega, HL.out, by go_num, congrArg (Value.int .u64) HO.out, HV.out⟩
          case measure => simp [intOf]; omega
    · have hv : uvS 0 0 xs = (0, 0, 6) := by rw [hu, List.drop_eq_nil_of_le (by omega)]; rfl
      have hne : ((k : Int) == xs.length) = true := by rw [beq_iff_eq]; omega
      have HV := Lib.hid hv; clear hv hu hN
      go_wp2
      all_goals
        go_ret3
        exact ⟨by rw [HV.out]; rfl, rfl⟩
end
end Go.Proofs.YtgogpngobdafaaaDoor
