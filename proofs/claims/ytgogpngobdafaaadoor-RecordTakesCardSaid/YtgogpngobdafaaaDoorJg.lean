/-
  Whether two records are the same: the program's own and the plain answers'.
-/
import Derived.Laws.StructEq
import Derived.Test.YtgogpngobdafaaaDoorJb
import Derived.Test.YtgogpngobdafaaaDoorSm
namespace Go.Proofs.YtgogpngobdafaaaDoor
set_option linter.unusedVariables false
set_option linter.unusedSimpArgs false
open Go.RowKit
theorem nat_prop (a b : Nat) : ((a : Int) = (b : Int)) = (a = b) := propext (by constructor <;> intro h <;> omega)
theorem neqEn (x y : En) (w : World) : (binOp .neq 47 (aggEn x) (aggEn y)).run Tryd.prog w = .ok (.bool (!decide (x = y))) w := by
  have hS : Tryd.prog.underlying 47 = some (.struct (Tryd.prog.fieldsOf 47)) := by kernel_rfl
  have hp : Tryd.prog.stoodInHeld 47 = false := by kernel_rfl
  unfold aggEn boxEn
  rw [run_neq_struct, show (10000 : Nat) = 9999 + 1 from rfl, run_equalIn_agg w 9999 47 _ _ hS hp]
  simp only [Program.fieldsOf, Tryd.underlying47]
  obtain ⟨x1, x2, x3, x4⟩ := x
  obtain ⟨y1, y2, y3, y4⟩ := y
  go_simp
  by_cases h1 : x1 = y1 <;> by_cases h2 : x2 = y2 <;> by_cases h3 : x3 = y3 <;> by_cases h4 : x4 = y4 <;> simp [h1, h2, h3, h4, nat_prop]
theorem guardEn (op : BinOp) (a b : Operand) (x y : En) (w : World) : (eqGuard op 47 a b (aggEn x) (aggEn y)).run Tryd.prog w = .ok () w :=
  GuardAt.agg (α := En) (fun x => boxEn x) (by kernel_rfl) op a b x y w
/-- Are two records the same? -/
def sameR (x y : Rp) : Bool := decide (x.1 = y.1) && (decide (x.2.1 = y.2.1) && (decide (x.2.2.1 = y.2.2.1) && decide (x.2.2.2 = y.2.2.2)))
theorem same_iff (x y : Rp) : sameR x y = true ↔ x = y := by
  obtain ⟨a, b, c, d⟩ := x
  obtain ⟨a', b', c', d'⟩ := y
  unfold sameR
  simp only [Bool.and_eq_true, decide_eq_true_eq, Prod.mk.injEq]
section
set_option maxHeartbeats 1600000
set_option maxRecDepth 100000
theorem eqe_any (A B : Option Addr) (ca cb : Nat) (l m : List En) (w : World) (hx : Rd w A (ecells l)) (hy : Rd w B (ecells m)) (hl : l.length ≤ 1000000) (hm : m.length ≤ 1000000) :
    Calls Tryd.prog 55 #[.slice A l.length ca, .slice B m.length cb] w fun e w' => e = .returned (.bool (decide (l = m))) ∧ ∃ n, w' = w.drewN n := by
  obtain ⟨R, hR⟩ : ∃ R, R = decide (l = m) := ⟨_, rfl⟩
  rw [← hR]
  by_cases hlen : l.length = m.length
  · have g0 : ((l.length : Int) != (m.length : Int)) = false := by rw [hlen]; simp
    have HLEN := Lib.hid hlen
    have HR := Lib.hid hR
    clear hR hlen
    go_enter Tryd.func55, Tryd.ntmps55
    go_wp2
    go_loopw [13] (fun s13 wr => ∃ k n : Nat, s13 = .int .i64 k ∧ k ≤ l.length ∧ wr = w.drewN n ∧ Aside (l.take k = m.take k)) (fun s13 _ => l.length - (intOf s13).toNat)
    case atStart => exact ⟨0, 0, rfl, by omega, rfl, rfl⟩
    case round =>
      obtain ⟨k, n, rfl, hk, rfl, E⟩ := hrel
      have k0 : (0 : Int) ≤ (k : Int) := by omega
      by_cases hlt : k < l.length
      · have hlt2 : k < m.length := by have := HLEN.out; omega
        have k1 : (k : Int) < (l.length : Int) := by omega
        have k2 : (k : Int) < (m.length : Int) := by omega
        have hnn : ∀ q, (w.drewN n).drewN q = w.drewN (n + q) := fun q => World.drewN_drewN _ _ _
        obtain ⟨b, off, rfl, c0, c1, c2, c3⟩ := en_at (hx.drewN n) (List.getElem?_eq_getElem hlt)
        obtain ⟨b', off', rfl, d0, d1, d2, d3⟩ := en_at (hy.drewN n) (List.getElem?_eq_getElem hlt2)
        have HNN := Lib.hid hnn; clear hnn
        generalize hW : w.drewN n = W at c0 c1 c2 c3 d0 d1 d2 d3 HNN
        have HW := Lib.hid hW; clear hW hx hy
        have hneq := fun u => neqEn l[k] m[k] u
        have hgd := fun op a b u => guardEn op a b l[k] m[k] u
        have hfin : R = true → l[k] = m[k] := fun h => by
          have := HR.out; rw [h] at this; have := of_decide_eq_true this.symm; subst this; rfl
        have hstep : l[k] = m[k] → l.take (k + 1) = m.take (k + 1) := fun h => by
          rw [List.take_succ_eq_append_getElem hlt, List.take_succ_eq_append_getElem hlt2, E.out, h]
        have HF := Lib.hid hfin; clear hfin
        have HS := Lib.hid hstep; clear hstep
        generalize l[k] = x at c0 c1 c2 c3 hneq hgd HF HS
        generalize m[k] = y at d0 d1 d2 d3 hneq hgd HF HS
        by_cases he : x = y
        · simp only [he, decide_true, Bool.not_true] at hneq
          have HST := Lib.hid (HS.out he)
          subst he
          obtain ⟨x1, x2, x3, x4⟩ := x
          unfold aggEn boxEn at hneq hgd
          simp only at c0 c1 c2 c3 d0 d1 d2 d3 hneq hgd
          clear HF HS
          go_wp2_with fail
          go_quiet (fail)
          go_wp2
          go_roundw
          case rel => exact ⟨k + 1, n + nq, by go_num, by omega, by rw [HNN.out], (show Aside _ from HST.out)⟩
          case measure => simp [intOf]; omega
        · have hr : R = false := by cases hh : R with | false => rfl | true => exact absurd (HF.out hh) he
          subst hr
          simp only [he, decide_false, Bool.not_false] at hneq
          obtain ⟨x1, x2, x3, x4⟩ := x
          obtain ⟨y1, y2, y3, y4⟩ := y
          unfold aggEn boxEn at hneq hgd
          simp only at c0 c1 c2 c3 d0 d1 d2 d3 hneq hgd
          clear HF HS he
          go_wp2_with fail
          go_quiet (fail)
          go_wp2
          go_ret
          exact ⟨rfl, n + nq, HNN.out _⟩
      · obtain rfl : k = l.length := by omega
        have hr : R = true := by
          rw [HR.out]
          have := E.out
          rw [List.take_of_length_le (Nat.le_refl _), HLEN.out, List.take_of_length_le (Nat.le_refl _)] at this
          exact decide_eq_true this
        subst hr
        go_wp2
        go_ret
        exact ⟨rfl, n, rfl⟩
  · have hr : R = false := by rw [hR]; exact decide_eq_false (fun e => hlen (by rw [e]))
    subst hr
    have g0 : ((l.length : Int) != (m.length : Int)) = true := by rw [bne_iff_ne]; omega
    clear hR
    go_enter Tryd.func55, Tryd.ntmps55
    go_wp2
    go_ret
    exact ⟨rfl, 0, rfl⟩
theorem same13_any (x y : Rv) (w : World) (hx : RvIs w x) (hy : RvIs w y) (hl1 : x.ls.length ≤ 1000000) (hl2 : x.ps.length ≤ 1000000) (hm1 : y.ls.length ≤ 1000000) (hm2 : y.ps.length ≤ 1000000) :
    Calls Tryd.prog 24 #[.agg (rvC x), .agg (rvC y)] w fun e w' => e = .returned (.bool (sameR x.p y.p)) ∧ Below w.heap.size w w' := by
  have hb := ((RowKit.Below.refl w.heap.size w).alloc (Nat.le_refl _) (.cells (rvC x) 27)).alloc (by simp) (.cells (rvC y) 27)
  have h1 := fun W (hb : Below w.heap.size w W) => same_any x.A y.A x.ca y.ca x.ls y.ls W (hx.la.below hb) (hy.la.below hb) hl1 hm1
  have h2 := fun W (hb : Below w.heap.size w W) => eqe_any x.B y.B x.cb y.cb x.ps y.ps W (hx.lb.below hb) (hy.lb.below hb) hl2 hm2
  obtain ⟨R, hR⟩ : ∃ R, R = sameR x.p y.p := ⟨_, rfl⟩
  rw [← hR]
  have hR2 : R = (decide (x.kd = y.kd) && (decide (x.r = y.r) && (decide (x.ls = y.ls) && decide (x.ps = y.ps)))) := hR
  have HB := Lib.hid hb; have H1 := Lib.hid h1; have H2 := Lib.hid h2
  clear hb h1 h2 hx hy hR hl1 hl2 hm1 hm2
  obtain ⟨kd, r, A, ca, ls, B, cb, ps⟩ := x
  obtain ⟨kd', r', A', ca', ls', B', cb', ps'⟩ := y
  unfold rvC at *
  simp only at *
  by_cases g1 : kd = kd'
  · subst g1
    rw [decide_eq_true rfl, Bool.true_and] at hR2
    by_cases g2 : r = r'
    · subst g2
      rw [decide_eq_true rfl, Bool.true_and] at hR2
      generalize decide (ls = ls') = q at H1 hR2
      generalize decide (ps = ps') = q2 at H2 hR2
      cases q with
      | true =>
        rw [Bool.true_and] at hR2
        subst hR2
        go_enter Tryd.func24, Tryd.ntmps24
        go_wp2_with fail
        refine (H1.out _ HB.out).mono ?_
        rintro e w1 ⟨rfl, n, rfl⟩
        have HB1 := Lib.hid (below_drewN HB.out n)
        go_wp2_with fail
        refine (H2.out _ HB1.out).mono ?_
        rintro e w1 ⟨rfl, n2, rfl⟩
        have HB2 := Lib.hid (below_drewN HB1.out n2)
        go_wp2
        go_ret
        exact ⟨by simp, by have h := HB2.out; rw [World.drewN_drewN] at h; exact h⟩
      | false =>
        rw [Bool.false_and] at hR2
        subst hR2
        go_enter Tryd.func24, Tryd.ntmps24
        go_wp2_with fail
        refine (H1.out _ HB.out).mono ?_
        rintro e w1 ⟨rfl, n, rfl⟩
        have HB1 := Lib.hid (below_drewN HB.out n)
        go_wp2
        go_ret
        exact ⟨rfl, HB1.out⟩
    · rw [decide_eq_false g2, Bool.false_and] at hR2
      subst hR2
      have g3 : ((r : Int) == (r' : Int)) = false := by rw [beq_eq_false_iff_ne]; omega
      clear g2
      go_enter Tryd.func24, Tryd.ntmps24
      go_wp2
      go_ret
      exact ⟨rfl, HB.out⟩
  · rw [decide_eq_false g1, Bool.false_and] at hR2
    subst hR2
    have g3 : (kd == kd') = false := by rw [beq_eq_false_iff_ne]; omega
    clear g1
    go_enter Tryd.func24, Tryd.ntmps24
    go_wp2
    go_ret
    exact ⟨rfl, HB.out⟩
end
end Go.Proofs.YtgogpngobdafaaaDoor
