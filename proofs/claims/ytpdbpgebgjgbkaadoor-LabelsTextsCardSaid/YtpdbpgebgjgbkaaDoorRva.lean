/-
  Valid UTF-8 and values: the plain answers' own.
-/
import Derived.Test.YtpdbpgebgjgbkaaDoorRst
namespace Go.Proofs.YtpdbpgebgjgbkaaDoor
set_option linter.unusedVariables false
set_option linter.unusedSimpArgs false
open Go.RowKit
section
set_option maxHeartbeats 1600000
set_option maxRecDepth 100000
theorem rvalid_any (s : ByteArray) (w : World) (hl : s.size ≤ 1000000) : Calls Tryd.prog 42 #[.string s] w fun e w' => e = .returned (.bool (Lib.validD (bl s))) ∧ ∃ n, w' = w.drewN n := by
  obtain ⟨R, hR⟩ : ∃ R, R = Lib.validD (bl s) := ⟨_, rfl⟩
  rw [← hR]
  have hst : R = Lib.validD ((bl s).drop 0) := by rw [hR, List.drop_zero]
  have HST := Lib.hid hst; clear hst hR
  go_enter Tryd.func42, Tryd.ntmps42
  go_wp2
  go_loopw [3] (fun s3 wr => ∃ k n : Nat, s3 = .int .i64 k ∧ k ≤ s.size ∧ wr = w.drewN n ∧ Aside (R = Lib.validD ((bl s).drop k))) (fun s3 _ => s.size - (intOf s3).toNat)
  case atStart => exact ⟨0, 0, rfl, by omega, rfl, HST.out⟩
  case round =>
    obtain ⟨k, n, rfl, hk, rfl, E⟩ := hrel
    have k0 : (0 : Int) ≤ (k : Int) := by omega
    by_cases hlt : k < s.size
    · have k1 : (k : Int) < (s.size : Int) := by omega
      have hne : (bl s).drop k ≠ [] := by intro h; have := congrArg List.length h; rw [List.length_drop, bl_len, List.length_nil] at this; omega
      have hE := E.out.trans (valid_stepB _ hne)
      have hstep := step_any s k (w.drewN n) hl hlt
      have hle : stepB ((bl s).drop k) ≤ s.size - k := by
        rcases stepB_le ((bl s).drop k) with h | h
        · rw [List.length_drop, bl_len] at h; exact h
        · exact absurd h hne
      rw [List.drop_drop] at hE
      generalize stepB ((bl s).drop k) = d at hE hstep hle
      have HS := Lib.hid hstep; clear hstep hne E
      by_cases h0 : d = 0
      · subst h0
        rw [if_pos rfl] at hE
        subst hE
        go_wp2_with fail
        refine HS.out.mono ?_
        rintro e w1 ⟨rfl, m, rfl⟩
        go_wp2
        go_ret
        exact ⟨rfl, n + m, rfl⟩
      · rw [if_neg h0] at hE
        have HE := Lib.hid hE; clear hE
        have g0 : ((d : Int) == 0) = false := beq_eq_false_iff_ne.2 (by omega)
        go_wp2_with fail
        refine HS.out.mono ?_
        rintro e w1 ⟨rfl, m, rfl⟩
        go_wp2
        go_roundw
        case rel => exact ⟨k + d, n + m, by go_num, by omega, rfl, (show Aside _ from HE.out)⟩
        case measure => simp [intOf]; omega
    · obtain rfl : k = s.size := by omega
      have hr : R = true := by rw [E.out, ← bl_len, List.drop_length]; rfl
      subst hr
      go_wp2
      go_ret
      exact ⟨rfl, n, rfl⟩
theorem rvalued_any (s : ByteArray) (w : World) (hl : s.size ≤ 1000000) : Calls Tryd.prog 15 #[.string s] w fun e w' => e = .returned (.bool (valuedP (bl s))) ∧ ∃ n, w' = w.drewN n := by
  have hc := rvalid_any s w hl
  unfold valuedP
  rw [bl_len]
  generalize Lib.validD (bl s) = V at hc ⊢
  have HC := Lib.hid hc; clear hc
  by_cases h : s.size ≤ 128
  · have hz : (s.size : Int) ≤ 128 := by omega
    rw [decide_eq_true h, Bool.true_and]
    go_enter Tryd.func15, Tryd.ntmps15
    go_wp2_with (first | (go_at_call 42; refine HC.out.mono ?_; rintro e w1 ⟨rfl, hb⟩) | fail)
    go_ret
    exact ⟨rfl, hb⟩
  · have hz : ¬ (s.size : Int) ≤ 128 := by omega
    rw [decide_eq_false h, Bool.false_and]
    go_enter Tryd.func15, Tryd.ntmps15
    go_wp2
    go_ret
    exact ⟨rfl, 0, rfl⟩
end
end Go.Proofs.YtpdbpgebgjgbkaaDoor
