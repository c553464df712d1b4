/-
  Two lists of bytes that are the same.
-/
import Derived.Deep.RegionHeld3
import Derived.Deep.DeepCutAuto
import Derived.Deep.CutRange
import Derived.Test.YtnmbjhpecblioaaGreatDoorEq
import Derived.Test.YtnmbjhpecblioaaGreatDoorFa
namespace Go.Proofs.YtnmbjhpecblioaaGreatDoor
set_option linter.unusedVariables false
set_option linter.unusedSimpArgs false
open Go.RowKit
section
set_option maxHeartbeats 1600000
set_option maxRecDepth 100000
theorem texts_yes (A B : Option Addr) (ca cb : Nat) (P Q : List (Option Addr × Nat × List UInt8)) (w : World) (he : P.map (·.2.2) = Q.map (·.2.2)) (hA : Rd w A (P.map partV)) (hB : Rd w B (Q.map partV))
    (hP : ∀ p ∈ P, Rd w p.1 (p.2.2.map Bv)) (hQ : ∀ p ∈ Q, Rd w p.1 (p.2.2.map Bv)) (hl : P.length ≤ 9223372036854775807) (hll : ∀ p ∈ P, p.2.2.length ≤ 9223372036854775807) :
    Calls Tryz.prog 35 #[.slice A P.length ca, .slice B Q.length cb] w fun e w' => e = .returned (.bool true) ∧ ∃ n, w' = w.drewN n := by
  have hlen : P.length = Q.length := by have := congrArg List.length he; simpa using this
  have hl' : ((P.length : Int) != Q.length) = false := by simp [hlen]
  have Hl := Lib.hid hlen; clear hlen
  have HE := Lib.hid he; clear he
  go_enter Tryz.func35, Tryz.ntmps35
  go_wp2
  go_loopw [13] (fun i wr => ∃ k n : Nat, k ≤ P.length ∧ i = .int .i64 k ∧ wr = w.drewN n) (fun i _ => P.length - (intOf i).toNat)
  case atStart => exact ⟨0, 0, by omega, rfl, rfl⟩
  case round =>
    obtain ⟨k, n, hk, rfl, rfl⟩ := hrel
    by_cases hlt : k < P.length
    · have hlq : k < Q.length := by rw [← Hl.out]; exact hlt
      obtain ⟨b, off, rfl, q0⟩ := hA k (partV P[k]) (by simp [hlt])
      obtain ⟨b', off', rfl, q1⟩ := hB k (partV Q[k]) (by simp [hlq])
      have hp := hP P[k] (List.getElem_mem hlt)
      have hq := hQ Q[k] (List.getElem_mem hlq)
      have hpl := hll P[k] (List.getElem_mem hlt)
      have he : P[k].2.2 = Q[k].2.2 := by
        have := congrArg (fun l => l[k]?) HE.out
        simpa [hlt, hlq] using this
      generalize P[k] = p at *
      generalize Q[k] = q at *
      obtain ⟨Ap, cp, xs⟩ := p
      obtain ⟨Aq, cq, ys⟩ := q
      simp only [partV] at q0 q1 hp hq hpl he
      subst he
      have q0' : (w.drewN n).cell? ⟨b, off + k, none⟩ = some (.slice Ap xs.length cp) := q0
      have q1' : (w.drewN n).cell? ⟨b', off' + k, none⟩ = some (.slice Aq xs.length cq) := q1
      have hp' := hp.drewN n
      have hq' := hq.drewN n
      have e1 : w.drewN n = w.drewN n := rfl
      generalize hW : w.drewN n = W at *
      clear q0 q1 hp hq e1
      have HW := Lib.hid hW; clear hW
      have g0 : (0 : Int) ≤ (k : Int) := by omega
      have g1 : (k : Int) < (P.length : Int) := by omega
      have g2 : (k : Int) < (Q.length : Int) := by omega
      go_wp2_with fail
      go_upto_region 6 with (fail)
      go_cut [25] (fun s25 wx => s25 = .bool false ∧ ∃ m, wx = W.drewN m)
      case first =>
        go_region_held3 (fun w' => w'.cell? ⟨b, off + k, none⟩ = some (.slice Ap xs.length cp) ∧ w'.cell? ⟨b', off' + k, none⟩ = some (.slice Aq xs.length cq)) (exact ⟨q0', q1'⟩) (first
          | (go_at_call 50; go_must (refine (equal_yes _ _ _ _ _ _ xs xs _ rfl rfl rfl (by exact hp') (by exact hq') hpl).mono ?_; rintro e w7 ⟨rfl, nn, rfl⟩)))
        all_goals
          go_wp2_with fail
          go_meet
          exact ⟨rfl, _, rfl⟩
      case rest =>
        obtain ⟨rfl, m, rfl⟩ := hcut
        go_wp2
        go_roundw
        case rel => exact ⟨k + 1, n + m, by omega, by go_num, by rw [← HW.out]; exact World.drewN_drewN _ _ _⟩
        case measure => simp [intOf]; omega
    · go_wp2
      go_ret
      exact ⟨rfl, _, rfl⟩
theorem texts_len (A B : Option Addr) (ca cb lb : Nat) (P Q : List (Option Addr × Nat × List UInt8)) (w : World) (hlb : Q.length = lb) (he : P.map (·.2.2) = Q.map (·.2.2)) (hA : Rd w A (P.map partV)) (hB : Rd w B (Q.map partV))
    (hP : ∀ p ∈ P, Rd w p.1 (p.2.2.map Bv)) (hQ : ∀ p ∈ Q, Rd w p.1 (p.2.2.map Bv)) (hl : P.length ≤ 9223372036854775807) (hll : ∀ p ∈ P, p.2.2.length ≤ 9223372036854775807) :
    Calls Tryz.prog 35 #[.slice A P.length ca, .slice B lb cb] w fun e w' => e = .returned (.bool true) ∧ ∃ n, w' = w.drewN n := by
  subst hlb
  exact texts_yes A B ca cb P Q w he hA hB hP hQ hl hll
end
end Go.Proofs.YtnmbjhpecblioaaGreatDoor
