/-
  Valid UTF-8: the plain answers' own.
-/
import Derived.Test.YtpdbpgebgjgbkaaDoorRn
import Derived.Test.YtpdbpgebgjgbkaaDoorLv
namespace Go.Proofs.YtpdbpgebgjgbkaaDoor
set_option linter.unusedVariables false
set_option linter.unusedSimpArgs false
open Go.RowKit
/-- Do n bytes stand at a place that go on with a rune? -/
def moreP (s : ByteArray) (at' n : Nat) : Bool := decide (at' + n ≤ s.size) && (List.range n).all fun i => decide (byN s (at' + i) / 64 = 2)
section
set_option maxHeartbeats 1600000
set_option maxRecDepth 100000
theorem more_any (s : ByteArray) (p n : Nat) (w : World) (hl : s.size ≤ 1000000) (hp : p ≤ s.size) (hn : n ≤ 3) : Calls Tryd.prog 81 #[.string s, .int .i64 (p : Nat), .int .i64 (n : Nat)] w fun e w' => e = .returned (.bool (moreP s p n)) ∧ w = w' := by
  obtain ⟨R, hR⟩ : ∃ R, R = moreP s p n := ⟨_, rfl⟩
  rw [← hR]
  unfold moreP at hR
  by_cases h1 : p + n ≤ s.size
  · have g1 : ¬ ((s.size : Int) - (n : Int) < (p : Int)) := by omega
    rw [decide_eq_true h1, Bool.true_and] at hR
    have HR := Lib.hid hR; clear hR
    go_enter Tryd.func81, Tryd.ntmps81
    go_wp2
    go_loop [15] (fun s15 => ∃ k : Nat, s15 = .int .i64 k ∧ k ≤ n ∧ Aside (∀ j, j < k → byN s (p + j) / 64 = 2)) (fun s15 => n - (intOf s15).toNat)
    case atStart => exact ⟨0, rfl, by omega, fun j hj => absurd hj (Nat.not_lt_zero _)⟩
    case round =>
      obtain ⟨k, rfl, hk, A1⟩ := hrel
      have k0 : (0 : Int) ≤ (k : Int) := by omega
      by_cases hlt : k < n
      · have k1 : (k : Int) < (n : Int) := by omega
        have hix : ∀ u, (Instr.index 9 (.string s) (.int .i64 ((p : Int) + (k : Int)))).run Tryd.prog u = .ok (.int .u8 (byN s (p + k) : Nat)) u := fun u => by
          have := run_index_s u s .i64 (p + k) (by omega)
          rwa [Int.natCast_add] at this
        have hc := byN_lt s (p + k)
        have hw : IntKind.i64.wrap ((p : Int) + (k : Int)) = (p : Int) + (k : Int) := by rw [IntKind.wrap_i64]; omega
        by_cases h2 : byN s (p + k) / 64 = 2
        · have hA2 : ∀ j, j < k + 1 → byN s (p + j) / 64 = 2 := fun j hj => by
            by_cases e : j = k
            · subst e; exact h2
            · exact A1.out j (by omega)
          have HA2 := Lib.hid hA2; clear hA2
          generalize byN s (p + k) = c at hix hc h2
          have g2 : ((c : Int) / 64 != 2) = false := by rw [bne_eq_false_iff_eq]; omega
          clear h2
          go_wp2
          go_round
          case rel => exact ⟨k + 1, by go_num, by omega, (show Aside _ from HA2.out)⟩
          case measure => simp [intOf]; omega
        · have hr : R = false := by
            rw [HR.out, List.all_eq_false]
            exact ⟨k, List.mem_range.2 hlt, by simpa using h2⟩
          subst hr
          generalize byN s (p + k) = c at hix hc h2
          have g2 : ((c : Int) / 64 != 2) = true := by rw [bne_iff_ne]; omega
          clear h2
          go_wp2
          go_ret
          exact ⟨rfl, rfl⟩
      · obtain rfl : k = n := by omega
        have hr : R = true := by
          rw [HR.out, List.all_eq_true]
          intro i hi
          exact decide_eq_true (A1.out i (List.mem_range.1 hi))
        subst hr
        go_wp2
        go_ret
        exact ⟨rfl, rfl⟩
  · have g1 : (s.size : Int) - (n : Int) < (p : Int) := by omega
    rw [decide_eq_false h1, Bool.false_and] at hR
    subst hR
    go_enter Tryd.func81, Tryd.ntmps81
    go_wp2
    go_ret
    exact ⟨rfl, rfl⟩
end
end Go.Proofs.YtpdbpgebgjgbkaaDoor
