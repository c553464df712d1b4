/-
  Few texts, and short ones.
-/
import Derived.Test.YtmgjlldccmgpcaaDoorHl
namespace Go.Proofs.YtmgjlldccmgpcaaDoor
set_option linter.unusedVariables false
set_option linter.unusedSimpArgs false
open Go.RowKit

/-- Few texts, and short ones. -/
def shortB (P : List (Option Addr × Nat × List UInt8)) : Bool := P.all (fun p => decide (p.2.2.length ≤ 2000)) && decide (P.length ≤ 30)
theorem shortB_spec {P : List (Option Addr × Nat × List UInt8)} (h : shortB P = true) : (∀ p ∈ P, p.2.2.length ≤ 2000) ∧ P.length ≤ 30 := by
  unfold shortB at h
  simpa using h
section
set_option maxHeartbeats 800000
set_option maxRecDepth 100000
theorem short_any (w : World) (S : Option Addr) (cS n : Nat) (P : List (Option Addr × Nat × List UInt8)) (hn : P.length = n) (hS : Rd w S (P.map partV)) (hm : n ≤ 9223372036854775807) :
    Calls Tryd.prog 13 #[.slice S n cS] w fun e w' => e = .returned (.bool (shortB P)) ∧ w = w' := by
  have HN := Lib.hid hn; clear hn
  go_enter Tryd.func13, Tryd.ntmps13
  go_wp2
  go_loopw [7] (fun i wr => ∃ k : Nat, k ≤ n ∧ i = .int .i64 k ∧ (∀ p ∈ P.take k, p.2.2.length ≤ 2000) ∧ wr = w) (fun i _ => n - (intOf i).toNat)
  case atStart => exact ⟨0, by omega, rfl, fun p hp => by simp at hp, rfl⟩
  case round =>
    obtain ⟨k, hk, rfl, hall, rfl⟩ := hrel
    have HA := Lib.hid hall; clear hall
    by_cases hlt : k < n
    · have hkP : k < P.length := by rw [HN.out]; exact hlt
      obtain ⟨g, off, hSe, hc⟩ := hS k (partV P[k]) (by simp [hkP])
      subst hSe
      unfold partV at hc
      by_cases hb : P[k].2.2.length ≤ 2000
      · have hnx : ∀ p ∈ P.take (k + 1), p.2.2.length ≤ 2000 := by
          intro p hp
          rw [List.take_succ_eq_append_getElem hkP] at hp
          rcases List.mem_append.1 hp with h | h
          · exact HA.out p h
          · rw [List.mem_singleton.1 h]; exact hb
        have HNX := Lib.hid hnx; clear hnx
        generalize P[k].2.2.length = m at *
        go_wp2
        go_roundw
        case rel => exact ⟨k + 1, by omega, by go_num, HNX.out, by first | rfl | trivial⟩
        case measure => simp [intOf]; omega
      · have hno : shortB P = false := by
          unfold shortB
          rw [Bool.and_eq_false_iff]
          left
          rw [List.all_eq_false]
          exact ⟨P[k], List.getElem_mem hkP, by simp; omega⟩
        have HNO := Lib.hid hno; clear hno
        generalize P[k].2.2.length = m at *
        go_wp2
        go_ret
        exact ⟨by rw [HNO.out]; rfl, rfl⟩
    · have hyes : shortB P = decide (n ≤ 30) := by
        unfold shortB
        have h1 : P.all (fun p => decide (p.2.2.length ≤ 2000)) = true := by
          rw [List.all_eq_true]
          intro p hp
          have h2 := HA.out p (by rw [List.take_of_length_le (by rw [HN.out]; omega)]; exact hp)
          simpa using h2
        rw [h1, Bool.true_and, HN.out]
      by_cases h30 : n ≤ 30
      · rw [decide_eq_true h30] at hyes
        have hdec : decide ((n : Int) ≤ 30) = true := by simp; omega
        have HY := Lib.hid hyes; clear hyes
        go_wp2
        go_ret
        exact ⟨by rw [HY.out]; rfl, rfl⟩
      · rw [decide_eq_false h30] at hyes
        have hdec : decide ((n : Int) ≤ 30) = false := by simp; omega
        have HY := Lib.hid hyes; clear hyes
        go_wp2
        go_ret
        exact ⟨by rw [HY.out]; rfl, rfl⟩
end
end Go.Proofs.YtmgjlldccmgpcaaDoor
