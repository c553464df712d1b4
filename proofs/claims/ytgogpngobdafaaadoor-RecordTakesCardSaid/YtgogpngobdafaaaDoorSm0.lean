/-
  Labels held against one another: whether they are the same, by the plain answers.
-/
import Derived.Test.YtgogpngobdafaaaDoorLr
import Derived.Laws.StructEq
import Derived.Shelf.SlicesE.Kit
namespace Go.Proofs.YtgogpngobdafaaaDoor
set_option linter.unusedVariables false
set_option linter.unusedSimpArgs false
open Go.RowKit
theorem neqLb (x y : Lb) (w : World) : (binOp .neq 68 (.agg #[.string x.1, .string x.2]) (.agg #[.string y.1, .string y.2])).run Tryd.prog w = .ok (.bool (!decide (x = y))) w := by
  have hS : Tryd.prog.underlying 68 = some (.struct (Tryd.prog.fieldsOf 68)) := by kernel_rfl
  have hp : Tryd.prog.stoodInHeld 68 = false := by kernel_rfl
  rw [run_neq_struct, show (10000 : Nat) = 9999 + 1 from rfl, run_equalIn_agg w 9999 68 _ _ hS hp]
  simp only [Program.fieldsOf, Tryd.underlying68]
  obtain ⟨x1, x2⟩ := x
  obtain ⟨y1, y2⟩ := y
  have e1 : (x1.toList == y1.toList) = decide (x1 = y1) := by
    rw [toList_bl, toList_bl, Bool.beq_eq_decide_eq]; exact decide_eq_decide.2 bl_inj_iff
  have e2 : (x2.toList == y2.toList) = decide (x2 = y2) := by
    rw [toList_bl, toList_bl, Bool.beq_eq_decide_eq]; exact decide_eq_decide.2 bl_inj_iff
  have d1 : (x1.toList = y1.toList) = (x1 = y1) := by rw [toList_bl, toList_bl]; exact propext bl_inj_iff
  have d2 : (x2.toList = y2.toList) = (x2 = y2) := by rw [toList_bl, toList_bl]; exact propext bl_inj_iff
  go_simp
  by_cases h1 : x1 = y1 <;> by_cases h2 : x2 = y2 <;> simp [h1, h2, d1, d2]
theorem guardLb (op : BinOp) (a b : Operand) (x y : Lb) (w : World) : (eqGuard op 68 a b (.agg #[.string x.1, .string x.2]) (.agg #[.string y.1, .string y.2])).run Tryd.prog w = .ok () w :=
  GuardAt.agg (α := Lb) (fun x => #[.string x.1, .string x.2]) (by kernel_rfl) op a b x y w
section
set_option maxHeartbeats 1600000
set_option maxRecDepth 100000
theorem rsame_any (A B : Option Addr) (ca cb : Nat) (l m : List Lb) (w : World) (hx : Rd w A (lcells l)) (hy : Rd w B (lcells m)) (hl : l.length ≤ 1000000) (hm : m.length ≤ 1000000) :
    Calls Tryd.prog 53 #[.slice A l.length ca, .slice B m.length cb] w fun e w' => e = .returned (.bool (decide (l = m))) ∧ ∃ n, w' = w.drewN n := by
  obtain ⟨R, hR⟩ : ∃ R, R = decide (l = m) := ⟨_, rfl⟩
  rw [← hR]
  by_cases hlen : l.length = m.length
  · have g0 : ((l.length : Int) != (m.length : Int)) = false := by rw [hlen]; simp
    have HLEN := Lib.hid hlen
    have HR := Lib.hid hR
    clear hR hlen
    go_enter Tryd.func53, Tryd.ntmps53
    go_wp2
    go_loopw [13] (fun s13 wr => ∃ k n : Nat, s13 = .int .i64 k ∧ k ≤ l.length ∧ wr = w.drewN n ∧ Aside (l.take k = m.take k)) (fun s13 _ => l.length - (intOf s13).toNat)
    case atStart => exact ⟨0, 0, rfl, by omega, rfl, rfl⟩
    case round =>
      obtain ⟨k, n, rfl, hk, rfl, E⟩ := hrel
      have k0 : (0 : Int) ≤ (k : Int) := by omega
      by_cases hlt : k < l.length
      · have hlt2 : k < m.length := by have := HLEN.out; omega
        have k1 : (k : Int) < (l.length : Int) := by omega
        have k2 : (k : Int) < (m.length : Int) := by omega
        have hnn : ∀ q, (w.drewN n).drewN q = w.drewN (n + q) := fun q => World.drewN_drewN _ _ _
        obtain ⟨b, off, rfl, c0, c1⟩ := lb_at (hx.drewN n) hlt
        obtain ⟨b', off', rfl, d0, d1⟩ := lb_at (hy.drewN n) hlt2
        have HNN := Lib.hid hnn; clear hnn
        generalize hW : w.drewN n = W at c0 c1 d0 d1 HNN
        have HW := Lib.hid hW; clear hW hx hy
        have hneq := fun u => neqLb l[k] m[k] u
        have hgd := fun op a b u => guardLb op a b l[k] m[k] u
        have hfin : R = true → l[k] = m[k] := fun h => by
          have := HR.out; rw [h] at this; have := of_decide_eq_true this.symm; subst this; rfl
        have hstep : l[k] = m[k] → l.take (k + 1) = m.take (k + 1) := fun h => by
          rw [List.take_succ_eq_append_getElem hlt, List.take_succ_eq_append_getElem hlt2, E.out, h]
        have HF := Lib.hid hfin; clear hfin
        have HS := Lib.hid hstep; clear hstep
        generalize l[k] = x at c0 c1 hneq hgd HF HS
        generalize m[k] = y at d0 d1 hneq hgd HF HS
        by_cases he : x = y
        · simp only [he, decide_true, Bool.not_true] at hneq
          have HST := Lib.hid (HS.out he)
          subst he
          obtain ⟨x1, x2⟩ := x
          simp only at c0 c1 d0 d1 hneq hgd
          clear HF HS
          go_wp2_with fail
          go_quiet (fail)
          go_wp2
          go_roundw
          case rel => exact ⟨k + 1, n + nq, by go_num, by omega, by rw [HNN.out], (show Aside _ from HST.out)⟩
          case measure => simp [intOf]; omega
        · have hr : R = false := by cases hh : R with | false => rfl | true => exact absurd (HF.out hh) he
          subst hr
          simp only [he, decide_false, Bool.not_false] at hneq
          obtain ⟨x1, x2⟩ := x
          obtain ⟨y1, y2⟩ := y
          simp only at c0 c1 d0 d1 hneq hgd
          clear HF HS he
          go_wp2_with fail
          go_quiet (fail)
          go_wp2
          go_ret
          exact ⟨rfl, n + nq, HNN.out _⟩
      · obtain rfl : k = l.length := by omega
        have hr : R = true := by
          rw [HR.out]
          have := E.out
          rw [List.take_of_length_le (Nat.le_refl _), HLEN.out, List.take_of_length_le (Nat.le_refl _)] at this
          exact decide_eq_true this
        subst hr
        go_wp2
        go_ret
        exact ⟨rfl, n, rfl⟩
  · have hr : R = false := by rw [hR]; exact decide_eq_false (fun e => hlen (by rw [e]))
    subst hr
    have g0 : ((l.length : Int) != (m.length : Int)) = true := by rw [bne_iff_ne]; omega
    clear hR
    go_enter Tryd.func53, Tryd.ntmps53
    go_wp2
    go_ret
    exact ⟨rfl, 0, rfl⟩
end
end Go.Proofs.YtgogpngobdafaaaDoor
