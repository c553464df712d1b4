/-
  What is wrong with a record, and whether two are the same: the plain answers' own.
-/
import Derived.Test.YtgogpngobdafaaaDoorJc
import Derived.Test.YtgogpngobdafaaaDoorJg
import Derived.Test.YtgogpngobdafaaaDoorRr2
namespace Go.Proofs.YtgogpngobdafaaaDoor
set_option linter.unusedVariables false
set_option linter.unusedSimpArgs false
open Go.RowKit
section
set_option maxHeartbeats 1600000
set_option maxRecDepth 100000
theorem rcheck_any (x : Rv) (w : World) (hx : RvIs w x) (hf : Few x.ls) (hl : x.ps.length ≤ 1000000) :
    Calls Tryd.prog 19 #[.agg (rvC x)] w fun e w' => e = .returned (.int .i64 (checkR x.p : Nat)) ∧ Below w.heap.size w w' := by
  have hr := fun W (hb : Below w.heap.size w W) => rright_any x.A x.ca x.ls W (hx.la.below hb) hf
  have hb := (RowKit.Below.refl w.heap.size w).alloc (Nat.le_refl _) (.cells (rvC x) 27)
  have HB := Lib.hid hb; clear hb
  obtain ⟨R, hR⟩ : ∃ R, R = checkR x.p := ⟨_, rfl⟩
  rw [← hR]
  unfold checkR Rv.p at hR
  simp only at hR
  change R = (if x.kd = 1 then _ else if x.kd = 2 then (if 0 < x.r ∨ 0 < x.ls.length then 1 else if x.ps.length = 0 then 1 else if 256 < x.ps.length then 3 else if x.ps.any noE then 1 else 0) else 130) at hR
  have hxb := hx.lb
  obtain ⟨kd, r, A, ca, ls, B, cb, ps⟩ := x
  unfold rvC at *
  simp only at *
  have HR := Lib.hid hr; have HX := Lib.hid hxb
  clear hr hx hf hxb
  by_cases h1 : kd = 1
  · subst h1
    rw [if_pos rfl] at hR
    by_cases h2 : r = 0
    · subst h2
      rw [if_pos (.inl rfl)] at hR
      subst hR
      go_enter Tryd.func19, Tryd.ntmps19
      go_wp2
      go_ret
      exact ⟨rfl, HB.out⟩
    · have g1 : ((r : Int) == 0) = false := by simp; omega
      by_cases h3 : 0 < ps.length
      · have g2 : (0 : Int) < (ps.length : Int) := by omega
        rw [if_pos (.inr h3)] at hR
        subst hR
        clear h2
        go_enter Tryd.func19, Tryd.ntmps19
        go_wp2
        go_ret
        exact ⟨rfl, HB.out⟩
      · have g2 : ¬ (0 : Int) < (ps.length : Int) := by omega
        rw [if_neg (by omega)] at hR
        clear h2
        have HRR := Lib.hid hR; clear hR
        go_enter Tryd.func19, Tryd.ntmps19
        go_wp2_with fail
        refine (HR.out _ HB.out).mono ?_
        rintro e w1 ⟨rfl, hb1⟩
        have HB1 := Lib.hid (HB.out.trans (hb1.mono HB.out.size)); clear hb1
        go_wp2
        go_ret
        exact ⟨by rw [HRR.out]; rfl, HB1.out⟩
  · have g1 : (kd == 1) = false := by simp [h1]
    rw [if_neg h1] at hR
    by_cases h2 : kd = 2
    · subst h2
      rw [if_pos rfl] at hR
      clear HR h1
      by_cases h3 : 0 < r
      · have g3 : ((r : Int) != 0) = true := by rw [bne_iff_ne]; omega
        rw [if_pos (.inl h3)] at hR
        subst hR
        go_enter Tryd.func19, Tryd.ntmps19
        go_wp2
        go_ret
        exact ⟨rfl, HB.out⟩
      · obtain rfl : r = 0 := by omega
        clear h3
        by_cases h4 : 0 < ls.length
        · have g4 : (0 : Int) < (ls.length : Int) := by omega
          rw [if_pos (.inr h4)] at hR
          subst hR
          go_enter Tryd.func19, Tryd.ntmps19
          go_wp2
          go_ret
          exact ⟨rfl, HB.out⟩
        · have g4 : ¬ (0 : Int) < (ls.length : Int) := by omega
          rw [if_neg (by omega)] at hR
          by_cases h5 : ps.length = 0
          · have g5 : ((ps.length : Int) == 0) = true := by rw [h5]; rfl
            rw [if_pos h5] at hR
            subst hR
            clear h5
            go_enter Tryd.func19, Tryd.ntmps19
            go_wp2
            go_ret
            exact ⟨rfl, HB.out⟩
          · have g5 : ((ps.length : Int) == 0) = false := by rw [beq_eq_false_iff_ne]; omega
            rw [if_neg h5] at hR
            clear h5
            by_cases h6 : 256 < ps.length
            · have g6 : (256 : Int) < (ps.length : Int) := by omega
              rw [if_pos h6] at hR
              subst hR
              go_enter Tryd.func19, Tryd.ntmps19
              go_wp2
              go_ret
              exact ⟨rfl, HB.out⟩
            · have g6 : ¬ (256 : Int) < (ps.length : Int) := by omega
              rw [if_neg h6] at hR
              have HRR := Lib.hid hR; clear hR
              go_enter Tryd.func19, Tryd.ntmps19
              go_wp2
              go_loopw [45] (fun s45 wr => ∃ k : Nat, k ≤ ps.length ∧ s45 = .int .i64 k ∧ Aside (Below w.heap.size w wr) ∧ Aside (R = if (ps.drop k).any noE then 1 else 0)) (fun s45 _ => ps.length - (intOf s45).toNat)
              case atStart => exact ⟨0, Nat.zero_le _, rfl, HB.out, (show R = _ from by rw [HRR.out, List.drop_zero])⟩
              case round =>
                obtain ⟨k, hk, rfl, BW, E⟩ := hrel
                by_cases hlt : k < ps.length
                · obtain ⟨b, off, rfl, c0, c1, c2, c3⟩ := en_at (HX.out.below BW.out) (List.getElem?_eq_getElem hlt)
                  have hE := E.out
                  rw [List.drop_eq_getElem_cons hlt, List.any_cons] at hE
                  generalize ps[k] = y at c0 c1 c2 c3 hE
                  obtain ⟨y1, y2, y3, y4⟩ := y
                  simp only at c0 c1 c2 c3
                  have k0 : (0 : Int) ≤ (k : Int) := by omega
                  have k1 : (k : Int) < (ps.length : Int) := by omega
                  have HBW := Lib.hid (BW.out.alloc BW.out.size (.cells #[.int .u32 (y1 : Nat), .int .i64 y2, .int .u64 (y3 : Nat), .int .u64 (y4 : Nat)] 47))
                  clear E BW
                  by_cases q1 : y1 = 0
                  · subst q1
                    have hr : R = 1 := by rw [hE]; simp [noE]
                    subst hr
                    clear hE
                    go_wp2
                    go_ret
                    exact ⟨rfl, HBW.out⟩
                  · have e1 : ((y1 : Int) == 0) = false := by simp; omega
                    by_cases q2 : y4 = 0
                    · subst q2
                      have hr : R = 1 := by rw [hE]; simp [noE]
                      subst hr
                      clear hE q1
                      go_wp2
                      go_ret
                      exact ⟨rfl, HBW.out⟩
                    · have e2 : ((y4 : Int) == 0) = false := by simp; omega
                      have hn : noE (y1, y2, y3, y4) = false := by simp [noE, q1, q2]
                      rw [hn, Bool.false_or] at hE
                      have HE := Lib.hid hE
                      clear hE q1 q2 hn
                      go_wp2
                      go_roundw
                      case rel => exact ⟨k + 1, by omega, by go_num, (show Aside _ from HBW.out), (show Aside _ from HE.out)⟩
                      case measure => simp [intOf]; omega
                · obtain rfl : k = ps.length := by omega
                  have hr : R = 0 := by rw [E.out, List.drop_length]; rfl
                  subst hr
                  go_wp2
                  go_ret
                  exact ⟨rfl, BW.out⟩
    · have g2 : (kd == 2) = false := by simp [h2]
      rw [if_neg h2] at hR
      subst hR
      clear HR h1 h2
      go_enter Tryd.func19, Tryd.ntmps19
      go_wp2
      go_ret
      exact ⟨rfl, HB.out⟩
theorem rsame13_any (x y : Rv) (w : World) (hx : RvIs w x) (hy : RvIs w y) (hl1 : x.ls.length ≤ 1000000) (hl2 : x.ps.length ≤ 1000000) (hm1 : y.ls.length ≤ 1000000) (hm2 : y.ps.length ≤ 1000000) :
    Calls Tryd.prog 23 #[.agg (rvC x), .agg (rvC y)] w fun e w' => e = .returned (.bool (sameR x.p y.p)) ∧ Below w.heap.size w w' := by
  have hb := ((RowKit.Below.refl w.heap.size w).alloc (Nat.le_refl _) (.cells (rvC x) 27)).alloc (by simp) (.cells (rvC y) 27)
  have h1 := fun W (hb : Below w.heap.size w W) => rsame_any x.A y.A x.ca y.ca x.ls y.ls W (hx.la.below hb) (hy.la.below hb) hl1 hm1
  have hbx : ((w.alloc (.cells (rvC x) 27)).alloc (.cells (rvC y) 27)).heap[w.heap.size]? = some (.cells (rvC x) 27 (0, 0)) := (Below.heap_alloc _ _ _ (by simp)).trans (heap_alloc_new w _)
  have hby : ((w.alloc (.cells (rvC x) 27)).alloc (.cells (rvC y) 27)).heap[w.heap.size + 1]? = some (.cells (rvC y) 27 (0, 0)) := heap_alloc_new2 w _ _
  obtain ⟨R, hR⟩ : ∃ R, R = sameR x.p y.p := ⟨_, rfl⟩
  rw [← hR]
  have hR2 : R = (decide (x.kd = y.kd) && (decide (x.r = y.r) && (decide (x.ls = y.ls) && decide (x.ps = y.ps)))) := hR
  have hxb := hx.lb; have hyb := hy.lb
  have HB := Lib.hid hb; have H1 := Lib.hid h1; have HXB := Lib.hid hxb; have HYB := Lib.hid hyb; have HBX := Lib.hid hbx; have HBY := Lib.hid hby
  clear hb h1 hx hy hR hl1 hm1 hxb hyb hbx hby
  obtain ⟨kd, r, A, ca, ls, B, cb, ps⟩ := x
  obtain ⟨kd', r', A', ca', ls', B', cb', ps'⟩ := y
  unfold rvC at *
  simp only at *
  by_cases g1 : kd = kd'
  · subst g1
    rw [decide_eq_true rfl, Bool.true_and] at hR2
    have g1' : (kd != kd) = false := by simp
    by_cases g2 : r = r'
    · subst g2
      rw [decide_eq_true rfl, Bool.true_and] at hR2
      have g2' : ((r : Int) != (r : Int)) = false := by simp
      generalize decide (ls = ls') = q at H1 hR2
      cases q with
      | true =>
        rw [Bool.true_and] at hR2
        by_cases hlen : ps.length = ps'.length
        · have g0 : ((ps.length : Int) != (ps'.length : Int)) = false := by rw [hlen]; simp
          have HLEN := Lib.hid hlen
          have HR := Lib.hid hR2
          clear hR2 hlen
          go_enter Tryd.func23, Tryd.ntmps23
          go_wp2_with fail
          refine (H1.out _ HB.out).mono ?_
          rintro e w1 ⟨rfl, n0, hw1⟩
          have HB1 := Lib.hid (show Below w.heap.size w w1 by rw [hw1]; exact below_drewN HB.out n0)
          have hbx1 : w1.heap[w.heap.size]? = some (.cells #[.int .i64 kd, .int .u32 (r : Nat), .slice A ls.length ca, .slice B ps.length cb] 27 (0, 0)) := by rw [hw1]; exact HBX.out
          have hby1 : w1.heap[w.heap.size + 1]? = some (.cells #[.int .i64 kd, .int .u32 (r : Nat), .slice A' ls'.length ca', .slice B' ps'.length cb'] 27 (0, 0)) := by rw [hw1]; exact HBY.out
          have p2 := cell_blk hbx1 2; have p3 := cell_blk hbx1 3
          have q2 := cell_blk hby1 2; have q3 := cell_blk hby1 3
          simp only [List.getElem?_toArray, List.getElem?_cons_zero, List.getElem?_cons_succ] at p2 p3 q2 q3
          have HP1 := Lib.hid hbx1; have HQ1 := Lib.hid hby1
          clear hbx1 hby1 hw1
          go_wp2
          clear p2 p3 q2 q3
          go_loopw [38] (fun s38 wr => ∃ k n : Nat, s38 = .int .i64 k ∧ k ≤ ps.length ∧ wr = w1.drewN n ∧ Aside (ps.take k = ps'.take k)) (fun s38 _ => ps.length - (intOf s38).toNat)
          case atStart => exact ⟨0, 0, rfl, by omega, rfl, rfl⟩
          case round =>
            obtain ⟨k, n, rfl, hk, rfl, E⟩ := hrel
            have k0 : (0 : Int) ≤ (k : Int) := by omega
            have HBn := Lib.hid (below_drewN HB1.out n)
            by_cases hlt : k < ps.length
            · have hlt2 : k < ps'.length := by have := HLEN.out; omega
              have k1 : (k : Int) < (ps.length : Int) := by omega
              have k2 : (k : Int) < (ps'.length : Int) := by omega
              have hnn : ∀ q, (w1.drewN n).drewN q = w1.drewN (n + q) := fun q => World.drewN_drewN _ _ _
              obtain ⟨b, off, rfl, c0, c1, c2, c3⟩ := en_at (HXB.out.below HBn.out) (List.getElem?_eq_getElem hlt)
              obtain ⟨b', off', rfl, d0, d1, d2, d3⟩ := en_at (HYB.out.below HBn.out) (List.getElem?_eq_getElem hlt2)
              have p3 : (w1.drewN n).cell? ⟨w.heap.size, 3, none⟩ = some (.slice (some ⟨b, off, none⟩) ps.length cb) := cell_blk (w := w1.drewN n) HP1.out 3
              have q3 : (w1.drewN n).cell? ⟨w.heap.size + 1, 3, none⟩ = some (.slice (some ⟨b', off', none⟩) ps'.length cb') := cell_blk (w := w1.drewN n) HQ1.out 3
              have HNN := Lib.hid hnn; clear hnn
              generalize hW : w1.drewN n = W at c0 c1 c2 c3 d0 d1 d2 d3 p3 q3 HNN HBn
              have HW := Lib.hid hW; clear hW
              have hneq := fun u => neqEn ps[k] ps'[k] u
              have hgd := fun op a b u => guardEn op a b ps[k] ps'[k] u
              have hfin : R = true → ps[k] = ps'[k] := fun h => by
                have := HR.out; rw [h] at this; have := of_decide_eq_true this.symm; subst this; rfl
              have hstep : ps[k] = ps'[k] → ps.take (k + 1) = ps'.take (k + 1) := fun h => by
                rw [List.take_succ_eq_append_getElem hlt, List.take_succ_eq_append_getElem hlt2, E.out, h]
              have HF := Lib.hid hfin; clear hfin
              have HS := Lib.hid hstep; clear hstep
              generalize ps[k] = x at c0 c1 c2 c3 hneq hgd HF HS
              generalize ps'[k] = y at d0 d1 d2 d3 hneq hgd HF HS
              by_cases he : x = y
              · simp only [he, decide_true, Bool.not_true] at hneq
                have HST := Lib.hid (HS.out he)
                subst he
                obtain ⟨x1, x2, x3, x4⟩ := x
                unfold aggEn boxEn at hneq hgd
                simp only at c0 c1 c2 c3 d0 d1 d2 d3 hneq hgd
                clear HF HS
                go_wp2_with fail
                go_quiet (fail)
                go_wp2
                go_roundw
                case rel => exact ⟨k + 1, n + nq, by go_num, by omega, by rw [HNN.out], (show Aside _ from HST.out)⟩
                case measure => simp [intOf]; omega
              · have hr : R = false := by cases hh : R with | false => rfl | true => exact absurd (HF.out hh) he
                subst hr
                simp only [he, decide_false, Bool.not_false] at hneq
                obtain ⟨x1, x2, x3, x4⟩ := x
                obtain ⟨y1, y2, y3, y4⟩ := y
                unfold aggEn boxEn at hneq hgd
                simp only at c0 c1 c2 c3 d0 d1 d2 d3 hneq hgd
                clear HF HS he
                go_wp2_with fail
                go_quiet (fail)
                go_wp2
                go_ret
                exact ⟨rfl, below_drewN HBn.out nq⟩
            · obtain rfl : k = ps.length := by omega
              have hr : R = true := by
                rw [HR.out]
                have := E.out
                rw [List.take_of_length_le (Nat.le_refl _), HLEN.out, List.take_of_length_le (Nat.le_refl _)] at this
                exact decide_eq_true this
              subst hr
              go_wp2
              go_ret
              exact ⟨rfl, HBn.out⟩
        · have hr : R = false := by rw [hR2]; exact decide_eq_false (fun e => hlen (by rw [e]))
          subst hr
          have g0 : ((ps.length : Int) != (ps'.length : Int)) = true := by rw [bne_iff_ne]; omega
          clear hR2 hlen
          go_enter Tryd.func23, Tryd.ntmps23
          go_wp2_with fail
          refine (H1.out _ HB.out).mono ?_
          rintro e w1 ⟨rfl, n0, hw1⟩
          have HB1 := Lib.hid (show Below w.heap.size w w1 by rw [hw1]; exact below_drewN HB.out n0)
          have hbx1 : w1.heap[w.heap.size]? = some (.cells #[.int .i64 kd, .int .u32 (r : Nat), .slice A ls.length ca, .slice B ps.length cb] 27 (0, 0)) := by rw [hw1]; exact HBX.out
          have hby1 : w1.heap[w.heap.size + 1]? = some (.cells #[.int .i64 kd, .int .u32 (r : Nat), .slice A' ls'.length ca', .slice B' ps'.length cb'] 27 (0, 0)) := by rw [hw1]; exact HBY.out
          have p3 := cell_blk hbx1 3
          have q3 := cell_blk hby1 3
          simp only [List.getElem?_toArray, List.getElem?_cons_zero, List.getElem?_cons_succ] at p3 q3
          clear hbx1 hby1 hw1
          go_wp2
          go_ret
          exact ⟨rfl, HB1.out⟩
      | false =>
        rw [Bool.false_and] at hR2
        subst hR2
        go_enter Tryd.func23, Tryd.ntmps23
        go_wp2_with fail
        refine (H1.out _ HB.out).mono ?_
        rintro e w1 ⟨rfl, n, rfl⟩
        have HB1 := Lib.hid (below_drewN HB.out n)
        go_wp2
        go_ret
        exact ⟨rfl, HB1.out⟩
    · rw [decide_eq_false g2, Bool.false_and] at hR2
      subst hR2
      have g3 : ((r : Int) != (r' : Int)) = true := by rw [bne_iff_ne]; omega
      clear g2
      go_enter Tryd.func23, Tryd.ntmps23
      go_wp2
      go_ret
      exact ⟨rfl, HB.out⟩
  · rw [decide_eq_false g1, Bool.false_and] at hR2
    subst hR2
    have g3 : (kd != kd') = true := by rw [bne_iff_ne]; omega
    clear g1
    go_enter Tryd.func23, Tryd.ntmps23
    go_wp2
    go_ret
    exact ⟨rfl, HB.out⟩
end
end Go.Proofs.YtgogpngobdafaaaDoor
