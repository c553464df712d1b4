/-
  Right: the program's own.
-/
import Derived.Lib.SliceRun
import Derived.OwnWalk
import Derived.Test.YtgogpngobdafaaaDoorLg
namespace Go.Proofs.YtgogpngobdafaaaDoor
set_option linter.unusedVariables false
set_option linter.unusedSimpArgs false
open Go.RowKit
theorem less_bytes : ∀ a b : Bs, Op.bytesLess a b = decide (a < b)
  | [], [] => by simp [Op.bytesLess]
  | _ :: _, [] => by simp [Op.bytesLess]
  | [], _ :: _ => by simp [Op.bytesLess]
  | x :: a, y :: b => by
    unfold Op.bytesLess
    rw [less_bytes a b]
    simp only [List.cons_lt_cons_iff]
    by_cases h1 : x < y <;> by_cases h2 : x = y <;> simp [h1, h2]
/-- Is a text no more than another one? -/
theorem leq_text {P : Program} (t : TypeId) (a b : ByteArray) (w : World) : (binOp .leq t (.string a) (.string b)).run P w = .ok (.bool (!decide (bl b < bl a))) w := by
  have e : (Op.bytesLess a.toList b.toList || a.toList == b.toList) = !decide (bl b < bl a) := by
    rw [less_bytes, toList_bl, toList_bl, Bool.beq_eq_decide_eq]
    rcases ltB_total (bl a) (bl b) with h | h | h
    · simp [h, ltB_asymm h]
    · simp [h, ltB_irrefl]
    · have n : ¬ bl a = bl b := fun hh => by rw [hh] at h; exact ltB_irrefl _ h
      simp [h, ltB_asymm h, n]
  simp [binOp, Op.stringOp, e]
theorem rightAt_fault {p : Option ByteArray} {x : Lb} (h : faultP x ≠ 0) : rightAt p x = faultP x := by unfold rightAt; rw [if_pos h]
theorem rightAt_empty {p : Option ByteArray} {x : Lb} (h : faultP x = 0) (hz : x.2.size = 0) : rightAt p x = 51 := by unfold rightAt; rw [if_neg (by omega), if_pos hz]
theorem rightAt_first {x : Lb} (h : faultP x = 0) (hz : ¬ x.2.size = 0) : rightAt none x = 0 := by unfold rightAt; rw [if_neg (by omega), if_neg hz]
theorem rightAt_next {p : ByteArray} {x : Lb} (h : faultP x = 0) (hz : ¬ x.2.size = 0) : rightAt (some p) x = if bl p < bl x.1 then 0 else 53 := by unfold rightAt; rw [if_neg (by omega), if_neg hz]
section
set_option maxHeartbeats 1600000
set_option maxRecDepth 100000
theorem right_any (A : Option Addr) (c : Nat) (l : List Lb) (w : World) (hT : Tabs w) (hx : Rd w A (lcells l)) (hf : Few l) :
    Calls Tryd.prog 73 #[.slice A l.length c] w fun e w' => e = .returned (.int .i64 (rightP l : Nat)) ∧ Below w.heap.size w w' := by
  obtain ⟨R, hR⟩ : ∃ R, R = rightP l := ⟨_, rfl⟩
  rw [← hR]
  unfold rightP at hR
  have HT := Lib.hid hT; clear hT
  have HF := Lib.hid hf
  have hfl := hf.1
  clear hf
  by_cases h16 : 16 < l.length
  · rw [if_pos h16] at hR
    subst hR
    have hz : (16 : Int) < (l.length : Int) := by omega
    go_enter Tryd.func73, Tryd.ntmps73
    go_wp2
    go_ret
    exact ⟨rfl, Below.refl _ _⟩
  · rw [if_neg h16] at hR
    have hz : ¬ (16 : Int) < (l.length : Int) := by omega
    have hst : R = rightGo (prevAt l 0) (l.drop 0) := hR
    have HST := Lib.hid hst; clear hst hR
    go_enter Tryd.func73, Tryd.ntmps73
    go_wp2
    go_loopw [11] (fun s11 wr => ∃ k : Nat, s11 = .int .i64 k ∧ k ≤ l.length ∧ Aside (Below w.heap.size w wr) ∧ Aside (R = rightGo (prevAt l k) (l.drop k))) (fun s11 _ => l.length - (intOf s11).toNat)
    case atStart => exact ⟨0, rfl, by omega, Below.refl _ _, HST.out⟩
    case round =>
      obtain ⟨k, rfl, hk, BW, E⟩ := hrel
      have k0 : (0 : Int) ≤ (k : Int) := by omega
      by_cases hlt : k < l.length
      · have k1 : (k : Int) < (l.length : Int) := by omega
        have hxr := hx.below BW.out
        obtain ⟨b, off, rfl, c0, c1⟩ := lb_at hxr hlt
        have hfx := HF.out.2 l[k] (List.getElem_mem hlt)
        have hE := E.out.trans (rightGo_step hlt)
        have HXR := Lib.hid hxr; clear hxr hx E
        have hprev : ∀ j, k = j + 1 → ∃ p : ByteArray, prevAt l k = some p ∧ wr.cell? ⟨b, off + j * 2, none⟩ = some (.string p) := by
          intro j hj
          subst hj
          have hjl : j < l.length := by omega
          obtain ⟨b', off', e, p0, _⟩ := lb_at HXR.out hjl
          injection e with e; injection e with e1 e2 _; subst e1; subst e2
          exact ⟨l[j].1, by simp [prevAt, hjl], p0⟩
        have hprev0 : k = 0 → prevAt l k = none := fun h => by subst h; rfl
        have HPREV := Lib.hid hprev; clear hprev
        have HPREV0 := Lib.hid hprev0; clear hprev0
        generalize l[k] = x at c0 c1 hfx hE
        obtain ⟨x1, x2⟩ := x
        simp only at hfx c0 c1
        obtain ⟨f1, f2⟩ := hfx
        have hbw : Below w.heap.size w (wr.alloc (.cells #[.string x1, .string x2] 68)) := BW.out.alloc BW.out.size _
        have hc := fault_any (x1, x2) (wr.alloc (.cells #[.string x1, .string x2] 68)) (HT.out.below hbw) (by show x1.size ≤ _; omega) (by show x2.size ≤ _; omega)
        have HBW := Lib.hid hbw; clear hbw
        obtain ⟨n, hn⟩ : ∃ n, n = faultP (x1, x2) := ⟨_, rfl⟩
        rw [← hn] at hc
        simp only at hc
        have HC := Lib.hid hc; clear hc
        have F1 := Lib.hid (show n ≠ 0 → R = n from fun h => by
          rw [hn] at h
          rw [hE, rightAt_fault h, if_pos h, hn])
        have F2 := Lib.hid (show n = 0 → x2.size = 0 → R = 51 from fun h hz => by
          rw [hn] at h
          rw [hE, rightAt_empty h hz]; rfl)
        have F3 := Lib.hid (show n = 0 → ¬ x2.size = 0 → prevAt l k = none → R = rightGo (prevAt l (k + 1)) (l.drop (k + 1)) from fun h hz hp => by
          rw [hn] at h
          rw [hE, hp, rightAt_first h hz]; rfl)
        have F4 := Lib.hid (show n = 0 → ¬ x2.size = 0 → ∀ p, prevAt l k = some p → R = if bl p < bl x1 then rightGo (prevAt l (k + 1)) (l.drop (k + 1)) else 53 from fun h hz p hp => by
          rw [hn] at h
          rw [hE, hp, rightAt_next h hz]
          by_cases hh : bl p < bl x1
          · simp [hh]
          · simp [hh])
        clear hE hn
        -- the box behind what is asked of the label
        have hbox : ∀ w1, Below (wr.alloc (.cells #[.string x1, .string x2] 68)).heap.size (wr.alloc (.cells #[.string x1, .string x2] 68)) w1 → w1.cell? ⟨wr.heap.size, 0, none⟩ = some (.string x1) ∧ w1.cell? ⟨wr.heap.size, 1, none⟩ = some (.string x2) := fun w1 hb => by
          have h := (hb.block wr.heap.size (by simp)).trans (heap_alloc_new wr _)
          have h0 := cell_blk h 0
          have h1 := cell_blk h 1
          simp only [List.getElem?_toArray, List.getElem?_cons_zero, List.getElem?_cons_succ] at h0 h1
          exact ⟨h0, h1⟩
        have HBOX := Lib.hid hbox; clear hbox
        have hcell : ∀ w1, Below (wr.alloc (.cells #[.string x1, .string x2] 68)).heap.size (wr.alloc (.cells #[.string x1, .string x2] 68)) w1 → ∀ a v, wr.cell? a = some v → w1.cell? a = some v := fun w1 hb a v h => by
          have hl : a.block < wr.heap.size := World.block_lt_of_cell? wr _ h
          rw [hb.cell (by simp; omega)]
          exact Lib.cell?_alloc_some _ h
        have HCELL := Lib.hid hcell; clear hcell
        have ex2 : x2.size = 0 → x2 = ⟨#[]⟩ := size_zero
        have EX2 := Lib.hid ex2; clear ex2
        by_cases hn0 : n = 0
        · subst hn0
          by_cases hz2 : x2.size = 0
          · obtain rfl := EX2.out hz2
            have hr : R = 51 := F2.out rfl hz2
            subst hr
            go_wp2_with fail
            refine HC.out.mono ?_
            rintro e w1 ⟨rfl, hb⟩
            obtain ⟨b0, b1⟩ := HBOX.out _ hb
            have HB := Lib.hid (HBW.out.trans (hb.mono HBW.out.size)); clear hb
            go_wp2
            go_ret
            exact ⟨rfl, HB.out⟩
          · obtain ⟨e1, e2⟩ := ne_empty hz2
            by_cases hk0 : k = 0
            · have hp := HPREV0.out hk0
              subst hk0
              rw [Nat.zero_mul, Nat.add_zero] at c0 c1
              have HE := Lib.hid (F3.out rfl hz2 hp); clear hp hz2
              go_wp2_with fail
              refine HC.out.mono ?_
              rintro e w1 ⟨rfl, hb⟩
              obtain ⟨b0, b1⟩ := HBOX.out _ hb
              have HB := Lib.hid (HBW.out.trans (hb.mono HBW.out.size)); clear hb
              go_wp2_with fail
              go_quiet (fail)
              go_wp2
              go_roundw
              case rel => exact ⟨1, by go_num, by omega, (show Aside _ from below_drewN HB.out _), (show Aside _ from HE.out)⟩
              case measure => simp [intOf]; omega
            · obtain ⟨j, rfl⟩ : ∃ j, k = j + 1 := ⟨k - 1, by omega⟩
              obtain ⟨p, hp, hpc⟩ := HPREV.out j rfl
              have hle := fun u => leq_text (P := Tryd.prog) 9 x1 p u
              have g0 : (0 : Int) < (j : Int) + 1 := by omega
              have g1 : (j : Int) + 1 < (l.length : Int) := by omega
              have g2 : (0 : Int) ≤ (j : Int) + 1 := by omega
              have g3 : (0 : Int) ≤ (j : Int) := by omega
              have g4 : (j : Int) < (l.length : Int) := by omega
              have g5 : j < l.length := by omega
              have g6 : j + 1 < l.length := by omega
              have hE2 := F4.out rfl hz2 p hp
              clear hz2
              by_cases hlt2 : bl p < bl x1
              · rw [if_pos hlt2] at hE2
                simp only [hlt2, decide_true, Bool.not_true] at hle
                have HE := Lib.hid hE2; clear hE2 hlt2 hp
                have HPC := Lib.hid hpc; clear hpc
                go_wp2_with fail
                refine HC.out.mono ?_
                rintro e w1 ⟨rfl, hb⟩
                obtain ⟨b0, b1⟩ := HBOX.out _ hb
                have p1 := HCELL.out _ hb _ _ HPC.out
                have HB := Lib.hid (HBW.out.trans (hb.mono HBW.out.size)); clear hb
                go_wp2_with fail
                go_quiet (fail)
                go_wp2
                go_roundw
                case rel => exact ⟨j + 1 + 1, by go_num, by omega, (show Aside _ from below_drewN HB.out _), (show Aside _ from HE.out)⟩
                case measure => simp [intOf]; omega
              · rw [if_neg hlt2] at hE2
                simp only [hlt2, decide_false, Bool.not_false] at hle
                subst hE2
                clear hlt2 hp
                have HPC := Lib.hid hpc; clear hpc
                go_wp2_with fail
                refine HC.out.mono ?_
                rintro e w1 ⟨rfl, hb⟩
                obtain ⟨b0, b1⟩ := HBOX.out _ hb
                have p1 := HCELL.out _ hb _ _ HPC.out
                have HB := Lib.hid (HBW.out.trans (hb.mono HBW.out.size)); clear hb
                go_wp2_with fail
                go_quiet (fail)
                go_wp2
                go_ret
                exact ⟨rfl, below_drewN HB.out _⟩
        · have hr : R = n := F1.out hn0
          subst hr
          have hn1 : ((R : Int) != 0) = true := by rw [bne_iff_ne]; omega
          clear hn0
          go_wp2_with fail
          refine HC.out.mono ?_
          rintro e w1 ⟨rfl, hb⟩
          have HB := Lib.hid (HBW.out.trans (hb.mono HBW.out.size)); clear hb
          go_wp2
          go_ret
          exact ⟨rfl, HB.out⟩
      · obtain rfl : k = l.length := by omega
        have hr : R = 0 := by rw [E.out, List.drop_length]; rfl
        subst hr
        go_wp2
        go_ret
        exact ⟨rfl, BW.out⟩
end
end Go.Proofs.YtgogpngobdafaaaDoor
