/-
  Right: the plain answers' own.
-/
import Derived.Test.YtgogpngobdafaaaDoorRg
import Derived.Test.YtgogpngobdafaaaDoorRst
namespace Go.Proofs.YtgogpngobdafaaaDoor
set_option linter.unusedVariables false
set_option linter.unusedSimpArgs false
open Go.RowKit
section
set_option maxHeartbeats 1600000
set_option maxRecDepth 100000
theorem rright_any (A : Option Addr) (c : Nat) (l : List Lb) (w : World) (hx : Rd w A (lcells l)) (hf : Few l) :
    Calls Tryd.prog 48 #[.slice A l.length c] w fun e w' => e = .returned (.int .i64 (rightP l : Nat)) ∧ Below w.heap.size w w' := by
  obtain ⟨R, hR⟩ : ∃ R, R = rightP l := ⟨_, rfl⟩
  rw [← hR]
  unfold rightP at hR
  have HF := Lib.hid hf
  have hfl := hf.1
  clear hf
  by_cases h16 : 16 < l.length
  · rw [if_pos h16] at hR
    subst hR
    have hz : (16 : Int) < (l.length : Int) := by omega
    go_enter Tryd.func48, Tryd.ntmps48
    go_wp2
    go_ret
    exact ⟨rfl, Below.refl _ _⟩
  · rw [if_neg h16] at hR
    have hz : ¬ (16 : Int) < (l.length : Int) := by omega
    have hst : R = rightGo (prevAt l 0) (l.drop 0) := hR
    have HST := Lib.hid hst; clear hst hR
    go_enter Tryd.func48, Tryd.ntmps48
    go_wp2
    go_loopw [10] (fun s10 wr => ∃ k : Nat, s10 = .int .i64 k ∧ k ≤ l.length ∧ Aside (Below w.heap.size w wr) ∧ Aside (R = rightGo (prevAt l k) (l.drop k))) (fun s10 _ => l.length - (intOf s10).toNat)
    case atStart => exact ⟨0, rfl, by omega, Below.refl _ _, HST.out⟩
    case round =>
      obtain ⟨k, rfl, hk, BW, E⟩ := hrel
      have k0 : (0 : Int) ≤ (k : Int) := by omega
      by_cases hlt : k < l.length
      · have k1 : (k : Int) < (l.length : Int) := by omega
        have hxr := hx.below BW.out
        obtain ⟨b, off, rfl, c0, c1⟩ := lb_at hxr hlt
        have hfx := HF.out.2 l[k] (List.getElem_mem hlt)
        have hE := E.out.trans (rightGo_step hlt)
        have HXR := Lib.hid hxr; clear hxr hx E
        have hprev : ∀ j, k = j + 1 → ∃ p : ByteArray, prevAt l k = some p ∧ wr.cell? ⟨b, off + j * 2, none⟩ = some (.string p) := by
          intro j hj
          subst hj
          have hjl : j < l.length := by omega
          obtain ⟨b', off', e, p0, _⟩ := lb_at HXR.out hjl
          injection e with e; injection e with e1 e2 _; subst e1; subst e2
          exact ⟨l[j].1, by simp [prevAt, hjl], p0⟩
        have hprev0 : k = 0 → prevAt l k = none := fun h => by subst h; rfl
        have HPREV := Lib.hid hprev; clear hprev
        have HPREV0 := Lib.hid hprev0; clear hprev0
        generalize l[k] = x at c0 c1 hfx hE
        obtain ⟨x1, x2⟩ := x
        simp only at hfx c0 c1
        obtain ⟨f1, f2⟩ := hfx
        have hbw : Below w.heap.size w (wr.alloc (.cells #[.string x1, .string x2] 68)) := BW.out.alloc BW.out.size _
        have HBW := Lib.hid hbw; clear hbw
        have hn := fun W => rnamed_any x1 W (by omega)
        have hv := fun W => rvalued_any x2 W (by omega)
        -- what each of the two says, and what the scan makes of it
        have F1 := Lib.hid (show namedP (bl x1) = false → R = 50 from fun h => by
          have hq : faultP (x1, x2) = 50 := by unfold faultP; rw [if_pos h]
          rw [hE, rightAt_fault (by omega), if_pos (by omega), hq])
        have F2 := Lib.hid (show namedP (bl x1) = true → valuedP (bl x2) = false → R = 51 from fun h h' => by
          have hq : faultP (x1, x2) = 51 := by unfold faultP; rw [if_neg (by simp [h]), if_pos h']
          rw [hE, rightAt_fault (by omega), if_pos (by omega), hq])
        have hq0 : namedP (bl x1) = true → valuedP (bl x2) = true → faultP (x1, x2) = 0 := fun h h' => by unfold faultP; rw [if_neg (by simp [h]), if_neg (by simp [h'])]
        have F3 := Lib.hid (show namedP (bl x1) = true → valuedP (bl x2) = true → x2.size = 0 → R = 51 from fun h h' hz => by
          rw [hE, rightAt_empty (hq0 h h') hz]; rfl)
        have F4 := Lib.hid (show namedP (bl x1) = true → valuedP (bl x2) = true → ¬ x2.size = 0 → prevAt l k = none → R = rightGo (prevAt l (k + 1)) (l.drop (k + 1)) from fun h h' hz hp => by
          rw [hE, hp, rightAt_first (hq0 h h') hz]; rfl)
        have F5 := Lib.hid (show namedP (bl x1) = true → valuedP (bl x2) = true → ¬ x2.size = 0 → ∀ p, prevAt l k = some p → R = if bl p < bl x1 then rightGo (prevAt l (k + 1)) (l.drop (k + 1)) else 53 from fun h h' hz p hp => by
          rw [hE, hp, rightAt_next (hq0 h h') hz]
          by_cases hh : bl p < bl x1
          · simp [hh]
          · simp [hh])
        clear hE hq0
        generalize namedP (bl x1) = nb at hn F1 F2 F3 F4 F5
        generalize valuedP (bl x2) = vb at hv F2 F3 F4 F5
        have HN := Lib.hid hn; clear hn
        have HV := Lib.hid hv; clear hv
        cases nb with
        | false =>
          have hr : R = 50 := F1.out rfl
          subst hr
          go_wp2_with fail
          refine (HN.out _).mono ?_
          rintro e w1 ⟨rfl, rfl⟩
          go_wp2
          go_ret
          exact ⟨rfl, HBW.out⟩
        | true =>
          cases vb with
          | false =>
            have hr : R = 51 := F2.out rfl rfl
            subst hr
            go_wp2_with fail
            refine (HN.out _).mono ?_
            rintro e w1 ⟨rfl, rfl⟩
            go_wp2_with fail
            refine (HV.out _).mono ?_
            rintro e w1 ⟨rfl, n, rfl⟩
            go_wp2
            go_ret
            exact ⟨rfl, below_drewN HBW.out _⟩
          | true =>
            by_cases hz2 : x2.size = 0
            · have hr : R = 51 := F3.out rfl rfl hz2
              subst hr
              obtain rfl := size_zero hz2
              go_wp2_with fail
              refine (HN.out _).mono ?_
              rintro e w1 ⟨rfl, rfl⟩
              go_wp2_with fail
              refine (HV.out _).mono ?_
              rintro e w1 ⟨rfl, n, rfl⟩
              go_wp2
              go_ret
              exact ⟨rfl, below_drewN HBW.out _⟩
            · obtain ⟨e1, e2⟩ := ne_empty hz2
              by_cases hk0 : k = 0
              · have hp := HPREV0.out hk0
                subst hk0
                rw [Nat.zero_mul, Nat.add_zero] at c0 c1
                have HE := Lib.hid (F4.out rfl rfl hz2 hp); clear hp hz2
                go_wp2_with fail
                refine (HN.out _).mono ?_
                rintro e w1 ⟨rfl, rfl⟩
                go_wp2_with fail
                refine (HV.out _).mono ?_
                rintro e w1 ⟨rfl, n, rfl⟩
                go_wp2_with fail
                go_quiet (fail)
                go_wp2
                go_roundw
                case rel => exact ⟨1, by go_num, by omega, (show Aside _ from below_drewN HBW.out _), (show Aside _ from HE.out)⟩
                case measure => simp [intOf]; omega
              · obtain ⟨j, rfl⟩ : ∃ j, k = j + 1 := ⟨k - 1, by omega⟩
                obtain ⟨p, hp, hpc⟩ := HPREV.out j rfl
                have hle := fun u => leq_text (P := Tryd.prog) 9 x1 p u
                have hpa := Lib.cell?_alloc_some (.cells #[.string x1, .string x2] 68) hpc
                have g0 : (0 : Int) < (j : Int) + 1 := by omega
                have g1 : (j : Int) + 1 < (l.length : Int) := by omega
                have g2 : (0 : Int) ≤ (j : Int) + 1 := by omega
                have g3 : (0 : Int) ≤ (j : Int) := by omega
                have g4 : (j : Int) < (l.length : Int) := by omega
                have g5 : j < l.length := by omega
                have g6 : j + 1 < l.length := by omega
                have hE2 := F5.out rfl rfl hz2 p hp
                have b0 := cell_blk (heap_alloc_new wr (.cells #[.string x1, .string x2] 68)) 0
                simp only [List.getElem?_toArray, List.getElem?_cons_zero] at b0
                clear hz2 hpc hp
                have HB0 := Lib.hid b0; clear b0
                have HPA := Lib.hid hpa; clear hpa
                by_cases hlt2 : bl p < bl x1
                · rw [if_pos hlt2] at hE2
                  simp only [hlt2, decide_true, Bool.not_true] at hle
                  have HE := Lib.hid hE2; clear hE2 hlt2
                  go_wp2_with fail
                  refine (HN.out _).mono ?_
                  rintro e w1 ⟨rfl, rfl⟩
                  go_wp2_with fail
                  refine (HV.out _).mono ?_
                  rintro e w1 ⟨rfl, n, rfl⟩
                  obtain ⟨V, hV⟩ : ∃ V, V = (wr.alloc (.cells #[.string x1, .string x2] 68)).drewN n := ⟨_, rfl⟩
                  have b0 : V.cell? ⟨wr.heap.size, 0, none⟩ = some (.string x1) := by rw [hV]; exact HB0.out
                  have b1 : V.cell? ⟨wr.heap.size, 1, none⟩ = some (.string x2) := by rw [hV]; exact (cell_blk (heap_alloc_new wr (.cells #[.string x1, .string x2] 68)) 1)
                  have p1 : V.cell? ⟨b, off + j * 2, none⟩ = some (.string p) := by rw [hV]; exact HPA.out
                  have HV2 := Lib.hid hV
                  rw [← hV]
                  clear hV
                  go_wp2_with fail
                  go_quiet (fail)
                  go_wp2
                  go_roundw
                  case rel => exact ⟨j + 1 + 1, by go_num, by omega, (show Below w.heap.size w _ from by rw [HV2.out]; exact below_drewN (below_drewN HBW.out _) _), (show Aside _ from HE.out)⟩
                  case measure => simp [intOf]; omega
                · rw [if_neg hlt2] at hE2
                  simp only [hlt2, decide_false, Bool.not_false] at hle
                  subst hE2
                  clear hlt2
                  go_wp2_with fail
                  refine (HN.out _).mono ?_
                  rintro e w1 ⟨rfl, rfl⟩
                  go_wp2_with fail
                  refine (HV.out _).mono ?_
                  rintro e w1 ⟨rfl, n, rfl⟩
                  obtain ⟨V, hV⟩ : ∃ V, V = (wr.alloc (.cells #[.string x1, .string x2] 68)).drewN n := ⟨_, rfl⟩
                  have b0 : V.cell? ⟨wr.heap.size, 0, none⟩ = some (.string x1) := by rw [hV]; exact HB0.out
                  have b1 : V.cell? ⟨wr.heap.size, 1, none⟩ = some (.string x2) := by rw [hV]; exact (cell_blk (heap_alloc_new wr (.cells #[.string x1, .string x2] 68)) 1)
                  have p1 : V.cell? ⟨b, off + j * 2, none⟩ = some (.string p) := by rw [hV]; exact HPA.out
                  have HV2 := Lib.hid hV
                  rw [← hV]
                  clear hV
                  go_wp2_with fail
                  go_quiet (fail)
                  go_wp2
                  go_ret
                  exact ⟨rfl, by rw [HV2.out]; exact below_drewN (below_drewN HBW.out _) _⟩
      · obtain rfl : k = l.length := by omega
        have hr : R = 0 := by rw [E.out, List.drop_length]; rfl
        subst hr
        go_wp2
        go_ret
        exact ⟨rfl, BW.out⟩
end
end Go.Proofs.YtgogpngobdafaaaDoor
