/-
  The labels that bytes begin with: the plain answers' own Take.
-/
import Derived.Test.YtgogpngobdafaaaDoorTa
import Derived.Test.YtgogpngobdafaaaDoorRtk
import Derived.Test.YtgogpngobdafaaaDoorLg
import Derived.Test.YtgogpngobdafaaaDoorRr2
import Derived.Deep.RegionHeld3
namespace Go.Proofs.YtgogpngobdafaaaDoor
set_option linter.unusedVariables false
set_option linter.unusedSimpArgs false
open Go.RowKit
theorem labelAt_first {b : Bs} (h : (textAt b 64).2.2 ≠ 0) : (labelAt b).2.2 = (textAt b 64).2.2 := by unfold labelAt; rw [if_pos h]
theorem labelAt_second {b : Bs} (h : (textAt b 64).2.2 = 0) (h2 : (textAt (b.drop (textAt b 64).2.1) 128).2.2 ≠ 0) : (labelAt b).2.2 = (textAt (b.drop (textAt b 64).2.1) 128).2.2 := by unfold labelAt; rw [if_neg (by omega), if_pos h2]
theorem labelAt_both {b : Bs} (h : (textAt b 64).2.2 = 0) (h2 : (textAt (b.drop (textAt b 64).2.1) 128).2.2 = 0) :
    labelAt b = (((textAt b 64).1, (textAt (b.drop (textAt b 64).2.1) 128).1), (textAt b 64).2.1 + (textAt (b.drop (textAt b 64).2.1) 128).2.1, 0) := by unfold labelAt; rw [if_neg (by omega), if_neg (by omega)]
section
set_option maxHeartbeats 3200000
set_option maxRecDepth 100000
theorem rtake_any (A : Option Addr) (c : Nat) (xs : Bs) (w : World) (hx : Rd w A (xs.map Bv)) (hc : xs.length ≤ c) (hl : xs.length ≤ 1000000) (hcm : c ≤ 9223372036854775807) :
    Calls Tryd.prog 87 #[.slice A xs.length c] w (LabsRes w (takeP xs)) := by
  have hu := ruvarint_any A c xs w hx (by omega)
  have hk := uvS_le' xs
  have hn := uvS_lt' xs
  obtain ⟨R, hR⟩ : ∃ R, R = takeP xs := ⟨_, rfl⟩
  rw [← hR]
  have hgo := @takeP_go xs
  obtain ⟨U, hU⟩ : ∃ U, U = uvS 0 0 xs := ⟨_, rfl⟩
  have hR' := hR
  unfold takeP at hR'
  rw [← hU] at hu hk hn hgo hR'
  clear hU
  obtain ⟨n, k0, e⟩ := U
  simp only at hk hn hgo hR'
  have hut : uvT (n, k0, e) = .tuple #[.int .u64 (n : Int), .int .i64 (k0 : Int), .int .i64 (e : Int)] := rfl
  rw [hut] at hu
  have HU := Lib.hid hu; clear hu hut
  by_cases he : e = 0
  · subst he
    by_cases h16 : 16 < n
    · rw [if_neg (by simp), if_pos h16] at hR'
      subst hR'
      clear hgo hR
      have g1 : (16 : Int) < (n : Int) := by omega
      go_enter Tryd.func87, Tryd.ntmps87
      go_wp2_with fail
      refine HU.out.mono ?_
      rintro e w1 ⟨rfl, rfl⟩
      go_wp2
      go_ret3
      exact ⟨none, 0, rfl, Rd.nil _ _, RowKit.Below.refl _ _⟩
    · have hR2 : R = takeGo [] n k0 (xs.drop k0) := by rw [hR]; exact hgo rfl h16
      clear hR' hgo hR
      have HR := Lib.hid hR2; clear hR2
      have g1 : ¬ (16 : Int) < (n : Int) := by omega
      have hnw : IntKind.i64.wrap (n : Int) = (n : Int) := IntWalk.i64_in _ (by omega)
      obtain ⟨A9, hs9, hv9⟩ := run_slice_all (P := Tryd.prog) 30 5 A xs.length c k0 xs.length (some (.int .i64 (k0 : Nat))) none Tryd.underlying30 (by kernel_rfl) (.inl rfl) (.inr ⟨rfl, rfl⟩) (by omega) (by omega)
      have hv9' : ∀ W, Rd W A (xs.map Bv) → Rd W A9 ((xs.drop k0).map Bv) := fun W hW => by
        have := hv9 W _ (by rw [List.length_map]; exact hc) hW
        rwa [← List.map_drop] at this
      have HV9 := Lib.hid hv9'; clear hv9 hv9'
      go_enter Tryd.func87, Tryd.ntmps87
      go_wp2_with fail
      refine HU.out.mono ?_
      rintro e w1 ⟨rfl, rfl⟩
      go_wp2_with fail
      go_region_held3 (fun _ => True) (exact trivial) (fail)
      all_goals
        go_wp2
        have hown0 : (w.alloc (.cells #[] 68)).drew.ownsRow w.heap.size 68 2 (.slice (some ⟨w.heap.size, 0, none⟩) 0 0) 0 [] := own_whole (l := []) (Nat.le_refl _) (by decide) (heap_alloc_new w _)
        have hb0 : RowKit.Below w.heap.size w (w.alloc (.cells #[] 68)).drew := ((RowKit.Below.refl _ w).alloc (Nat.le_refl _) _).drew
        have HO0 := Lib.hid hown0; have HB0 := Lib.hid hb0; clear hown0 hb0 hs9
        go_loopw [8, 9, 29] (fun s8 s9 s29 wr => ∃ (k at_ : Nat) (acc : List Lb) (B9 : Option Addr) (d9 : Nat), s29 = .int .i64 k ∧ s9 = .slice B9 (xs.length - at_) d9 ∧ k ≤ n ∧ at_ ≤ xs.length ∧ xs.length - at_ ≤ d9 ∧ d9 ≤ 9223372036854775807 ∧ acc.length = k ∧ Aside (Small acc) ∧ Aside (∀ W, Rd W A (xs.map Bv) → Rd W B9 ((xs.drop at_).map Bv)) ∧ Aside (wr.ownsRow w.heap.size 68 2 s8 acc.length (lcells acc)) ∧ Aside (RowKit.Below w.heap.size w wr) ∧ Aside (R = takeGo acc (n - k) at_ (xs.drop at_))) (fun _ _ s29 _ => n - (intOf s29).toNat)
        case atStart => exact ⟨0, k0, [], A9, c - k0, rfl, rfl, by omega, hk, by omega, by omega, rfl, (fun x hx => by cases hx), HV9.out, HO0.out, HB0.out, HR.out⟩
        case round =>
          obtain ⟨k, at_, acc, B9, d9, rfl, rfl, hkn, hat, hd1, hd2, hac, SM, RV, OW, BW, E⟩ := hrel
          obtain ⟨A8, c8, hv8, -⟩ := own_rdL OW.out
          subst hv8
          have k0' : (0 : Int) ≤ (k : Int) := by omega
          have hacl : acc.length ≤ 1000 := by omega
          have HAC := Lib.hid hac; clear hac
          by_cases hlt : k < n
          · have k1 : (k : Int) < (n : Int) := by omega
            obtain ⟨m, hm⟩ : ∃ m, n - k = m + 1 := ⟨n - k - 1, by omega⟩
            have hm2 : m = n - (k + 1) := by omega
            have hE := E.out
            rw [hm, takeGo_step] at hE
            obtain ⟨b, hb⟩ : ∃ b, b = xs.drop at_ := ⟨_, rfl⟩
            have hbl : b.length = xs.length - at_ := by rw [hb, List.length_drop]
            have hrv := RV.out
            rw [← hb] at hE hrv
            have hbd : ∀ q, b.drop q = xs.drop (at_ + q) := fun q => by rw [hb, List.drop_drop]
            have hle1 := (textAt_le b 64).1
            have hsz1 := (textAt_le b 64).2
            have hle2 := (textAt_le (b.drop (textAt b 64).2.1) 128).1
            have hsz2 := (textAt_le (b.drop (textAt b 64).2.1) 128).2
            rw [List.length_drop] at hle2
            have HM2 := Lib.hid hm2; have HBL := Lib.hid hbl; have HRV := Lib.hid hrv; have HBD := Lib.hid hbd; clear hm hm2 hrv hbd hb E RV
            obtain ⟨q0, hq0⟩ : ∃ q0, q0 = wr.heap.size := ⟨_, rfl⟩
            obtain ⟨WA, hWA⟩ : ∃ WA, WA = wr.alloc (.cells #[.string ⟨#[]⟩, .string ⟨#[]⟩] 68) := ⟨_, rfl⟩
            have hbb : RowKit.Below wr.heap.size wr WA := by rw [hWA]; exact (RowKit.Below.refl _ _).alloc (Nat.le_refl _) _
            have hbx : WA.heap[q0]? = some (.cells #[.string ⟨#[]⟩, .string ⟨#[]⟩] 68 (0, 0)) := by rw [hWA, hq0]; exact heap_alloc_new _ _
            have hxA : ∀ W, RowKit.Below wr.heap.size wr W → Rd W A (xs.map Bv) := fun W hW => (hx.below BW.out).below hW
            have HBB := Lib.hid hbb; have HBX := Lib.hid hbx; have HXA := Lib.hid hxA; have HQ := Lib.hid hq0; have HWA := Lib.hid hWA; clear hbb hbx hxA hq0
            by_cases z1 : (textAt b 64).2.2 = 0
            · by_cases z2 : (textAt (b.drop (textAt b 64).2.1) 128).2.2 = 0
              · have hlab := labelAt_both z1 z2
                have HLAB := hlab; clear hlab
                obtain ⟨T1, hT1⟩ : ∃ T1, T1 = textAt b 64 := ⟨_, rfl⟩
                rw [← hT1] at z1 z2 hle1 hsz1 hle2 hsz2 HLAB
                obtain ⟨s1, q1, e1⟩ := T1
                simp only at z1 z2 hle1 hsz1 hle2 hsz2
                subst z1
                have hc1 := took_ok B9 d9 (xs.length - at_) b 64 WA s1 q1 hT1.symm HBL.out (HRV.out _ (HXA.out _ HBB.out)) hd1 (by omega) hd2 (by decide)
                have hsl : xs.length - at_ - q1 = xs.length - (at_ + q1) := by omega
                rw [hsl] at hc1
                have HC1 := Lib.hid hc1; clear hc1 hsl hT1
                obtain ⟨T2, hT2⟩ : ∃ T2, T2 = textAt (b.drop q1) 128 := ⟨_, rfl⟩
                rw [← hT2] at z2 hle2 hsz2 HLAB
                obtain ⟨s2, q2, e2⟩ := T2
                simp only at z2 hle2 hsz2 HLAB
                subst z2
                rw [HLAB] at hE
                simp only at hE
                rw [if_neg (by simp), HBD.out] at hE
                have HE := Lib.hid hE; clear hE HLAB
                go_wp2_with fail
                rw [← HWA.out, ← HQ.out]
                refine HC1.out.mono ?_
                rintro e w3 ⟨A1, c1, rfl, hv1, hcc1, hcc2, j1, rfl⟩
                have hbx1 : (WA.drewN j1).heap[q0]? = some (.cells #[.string ⟨#[]⟩, .string ⟨#[]⟩] 68 (0, 0)) := HBX.out
                have hbb1 := below_drewN HBB.out j1
                generalize WA.drewN j1 = W1 at hbx1 hbb1
                have d0 := cell_blk hbx1 0
                have d1 := cell_blk hbx1 1
                have f0 := free_blk hbx1 0
                have f1 := free_blk hbx1 1
                simp only [List.getElem?_toArray, List.getElem?_cons_zero, List.getElem?_cons_succ] at d0 d1
                have hbx2 := set_blk hbx1 0 (.string s1)
                have hbb2 := hbb1.setCell (p := ⟨q0, 0, none⟩) (by rw [HQ.out]; exact Nat.le_refl _) (.string s1)
                have hrd2 := hv1 _ (HRV.out _ (HXA.out _ hbb2))
                have hlen2 : (b.drop q1).length = xs.length - (at_ + q1) := by rw [List.length_drop, HBL.out]; omega
                obtain ⟨W2, hW2⟩ : ∃ W2, W2 = W1.setCell ⟨q0, 0, none⟩ (.string s1) := ⟨_, rfl⟩
                rw [← hW2] at hbx2 hbb2 hrd2
                have HBX2 := Lib.hid hbx2; have HBB2 := Lib.hid hbb2; have HW2 := Lib.hid hW2; have HV1 := Lib.hid hv1
                have hc2 := took_ok A1 c1 (xs.length - (at_ + q1)) (b.drop q1) 128 W2 s2 q2 hT2.symm hlen2 hrd2 hcc1 (by omega) hcc2 (by decide)
                have hsl : xs.length - (at_ + q1) - q2 = xs.length - (at_ + (q1 + q2)) := by omega
                rw [hsl] at hc2
                have HC2 := Lib.hid hc2; clear hc2 hsl hT2 hbx1 hbx2 hbb1 hbb2 hrd2 hlen2 hW2 hv1
                have hat2 : at_ + (q1 + q2) ≤ xs.length := by have := HBL.out; omega
                have hx63 := hcc2
                clear hcc2 hd2 hcm hx63
                go_wp2_with fail
                rw [← HW2.out]
                refine HC2.out.mono ?_
                rintro e w5 ⟨A2, c2, rfl, hv2, hcc3, hcc4, j2, rfl⟩
                have hbx3 : (W2.drewN j2).heap[q0]? = some (.cells (#[Value.string ⟨#[]⟩, Value.string ⟨#[]⟩].setIfInBounds 0 (.string s1)) 68 (0, 0)) := HBX2.out
                have hbb3 := below_drewN HBB2.out j2
                clear d0 d1 f0 f1
                generalize W2.drewN j2 = W3 at hbx3 hbb3
                have d0 := cell_blk hbx3 0
                have d1 := cell_blk hbx3 1
                have f0 := free_blk hbx3 0
                have f1 := free_blk hbx3 1
                have e0 : (#[Value.string ⟨#[]⟩, Value.string ⟨#[]⟩].setIfInBounds 0 (.string s1))[0]? = some (.string s1) := rfl
                have e1' : (#[Value.string ⟨#[]⟩, Value.string ⟨#[]⟩].setIfInBounds 0 (.string s1))[1]? = some (.string ⟨#[]⟩) := rfl
                rw [e0] at d0
                rw [e1'] at d1
                have hbb4 := hbb3.setCell (p := ⟨q0, 1, none⟩) (by rw [HQ.out]; exact Nat.le_refl _) (.string s2)
                have hbx4 := set_blk hbx3 1 (.string s2)
                have c0 := cell_blk hbx4 0
                have c1' := cell_blk hbx4 1
                have e2 : ((#[Value.string ⟨#[]⟩, Value.string ⟨#[]⟩].setIfInBounds 0 (.string s1)).setIfInBounds 1 (.string s2))[0]? = some (.string s1) := rfl
                have e3 : ((#[Value.string ⟨#[]⟩, Value.string ⟨#[]⟩].setIfInBounds 0 (.string s1)).setIfInBounds 1 (.string s2))[1]? = some (.string s2) := rfl
                rw [e2] at c0
                rw [e3] at c1'
                clear e0 e1' e2 e3 hbx4 hbx3
                have hown4 : (W3.setCell ⟨q0, 1, none⟩ (.string s2)).ownsRow w.heap.size 68 2 (.slice A8 acc.length c8) acc.length (lcells acc) := own_moved OW.out (fun g hg => hbb4.block g (OW.out.lt g hg).2)
                have hb4 : RowKit.Below w.heap.size w (W3.setCell ⟨q0, 1, none⟩ (.string s2)) := BW.out.trans (hbb4.mono BW.out.size)
                have hsz4 : w.heap.size ≤ (W3.setCell ⟨q0, 1, none⟩ (.string s2)).heap.size := hb4.size
                have hrv2 : ∀ W, Rd W A (xs.map Bv) → Rd W A2 ((xs.drop (at_ + (q1 + q2))).map Bv) := fun W hW => by
                  have := hv2 W (HV1.out W (HRV.out W hW))
                  rwa [List.drop_drop, HBD.out] at this
                have HO4 := Lib.hid hown4; have HB4 := Lib.hid hb4; have HRV2 := Lib.hid hrv2; have HS4 := Lib.hid hsz4
                clear hown4 hb4 hrv2 hv2 hbb3 hbb4 hsz4
                have hrd7 := rd_row' (W3.setCell ⟨q0, 1, none⟩ (.string s2)) [.string s1, .string s2] 68
                have hszs : (W3.setCell ⟨q0, 1, none⟩ (.string s2)).heap.size = W3.heap.size := by simp [World.setCell]
                rw [hszs] at hrd7
                have HRD7 := Lib.hid hrd7; clear hrd7 hszs
                go_wp2_with (first
                  | (at_builtin; go_must (refine wpList_append_lb rfl _ _ rfl rfl w.heap.size _ acc rfl (HO4.out.alloc _) _ 1 [(s1, s2)] rfl HRD7.out (by simp; omega) (by rw [World.size_alloc]; have := HS4.out; omega) ?_; intro v6 w6 own6 grow6))
                  | fail)
                have hb6 : RowKit.Below w.heap.size w w6 := (HB4.out.alloc HB4.out.size (.cells #[.string s1, .string s2] 68)).grown grow6 (by rw [World.size_alloc]; have := HS4.out; omega) (fun g hg => (HO4.out.lt g hg).1)
                have hsm : Small (acc ++ [(s1, s2)]) := by
                  intro x hx
                  rcases List.mem_append.1 hx with hx | hx
                  · exact SM.out x hx
                  · rw [List.mem_singleton] at hx; subst hx; exact ⟨hsz1, hsz2⟩
                have hE6 : R = takeGo (acc ++ [(s1, s2)]) (n - (k + 1)) (at_ + (q1 + q2)) (xs.drop (at_ + (q1 + q2))) := by rw [← HM2.out]; exact HE.out
                have HB6 := Lib.hid hb6; have HO6 := Lib.hid own6; have HSM := Lib.hid hsm; have HE6 := Lib.hid hE6; clear hb6 own6 grow6 hsm hE6
                have hacl2 : (acc ++ [(s1, s2)]).length = k + 1 := by rw [List.length_append, HAC.out]; rfl
                go_roundw
                case rel => exact ⟨k + 1, at_ + (q1 + q2), acc ++ [(s1, s2)], A2, c2, by go_num, rfl, by omega, hat2, hcc3, hcc4, hacl2, HSM.out, HRV2.out, HO6.out, HB6.out, HE6.out⟩
                case measure => simp [intOf]; omega
              · have hlab := labelAt_second z1 z2
                have HLAB := hlab; clear hlab
                obtain ⟨T1, hT1⟩ : ∃ T1, T1 = textAt b 64 := ⟨_, rfl⟩
                rw [← hT1] at z1 z2 hle1 hsz1 hle2 hsz2 HLAB
                obtain ⟨s1, q1, e1⟩ := T1
                simp only at z1 z2 hle1 hsz1 hle2 hsz2
                subst z1
                have hc1 := took_ok B9 d9 (xs.length - at_) b 64 WA s1 q1 hT1.symm HBL.out (HRV.out _ (HXA.out _ HBB.out)) hd1 (by omega) hd2 (by decide)
                have hsl : xs.length - at_ - q1 = xs.length - (at_ + q1) := by omega
                rw [hsl] at hc1
                have HC1 := Lib.hid hc1; clear hc1 hsl hT1
                obtain ⟨er, her⟩ : ∃ er, er = (textAt (b.drop q1) 128).2.2 := ⟨_, rfl⟩
                simp only at HLAB
                rw [← her] at z2 HLAB
                rw [HLAB, if_pos z2] at hE
                subst hE
                clear HLAB
                go_wp2_with fail
                rw [← HWA.out, ← HQ.out]
                refine HC1.out.mono ?_
                rintro e w3 ⟨A1, c1, rfl, hv1, hcc1, hcc2, j1, rfl⟩
                have hbx1 : (WA.drewN j1).heap[q0]? = some (.cells #[.string ⟨#[]⟩, .string ⟨#[]⟩] 68 (0, 0)) := HBX.out
                have hbb1 := below_drewN HBB.out j1
                generalize WA.drewN j1 = W1 at hbx1 hbb1
                have d0 := cell_blk hbx1 0
                have d1 := cell_blk hbx1 1
                have f0 := free_blk hbx1 0
                have f1 := free_blk hbx1 1
                simp only [List.getElem?_toArray, List.getElem?_cons_zero, List.getElem?_cons_succ] at d0 d1
                have hbx2 := set_blk hbx1 0 (.string s1)
                have hbb2 := hbb1.setCell (p := ⟨q0, 0, none⟩) (by rw [HQ.out]; exact Nat.le_refl _) (.string s1)
                have hrd2 := hv1 _ (HRV.out _ (HXA.out _ hbb2))
                have hlen2 : (b.drop q1).length = xs.length - (at_ + q1) := by rw [List.length_drop, HBL.out]; omega
                obtain ⟨W2, hW2⟩ : ∃ W2, W2 = W1.setCell ⟨q0, 0, none⟩ (.string s1) := ⟨_, rfl⟩
                rw [← hW2] at hbx2 hbb2 hrd2
                have HBX2 := Lib.hid hbx2; have HBB2 := Lib.hid hbb2; have HW2 := Lib.hid hW2; have HV1 := Lib.hid hv1
                have hc2 := took_bad A1 c1 (xs.length - (at_ + q1)) (b.drop q1) 128 W2 er z2 her.symm hlen2 hrd2 hcc1 (by omega) hcc2 (by decide)
                have HC2 := Lib.hid hc2
                have g0 : ((er : Int) != 0) = true := by rw [bne_iff_ne]; omega
                clear her hc2 hle1 hle2 hsz1 hsz2 hx hcm hd2 hcc2 hbx1 hbx2 hbb1 hbb2 hrd2 hlen2 hW2 hv1
                go_wp2_with fail
                rw [← HW2.out]
                refine HC2.out.mono ?_
                rintro e w5 ⟨rfl, j2, rfl⟩
                have hbx3 : (W2.drewN j2).heap[q0]? = some (.cells (#[Value.string ⟨#[]⟩, Value.string ⟨#[]⟩].setIfInBounds 0 (.string s1)) 68 (0, 0)) := HBX2.out
                have hbb3 := below_drewN HBB2.out j2
                clear d0 d1 f0 f1
                generalize W2.drewN j2 = W3 at hbx3 hbb3
                have d1 := cell_blk hbx3 1
                have f1 := free_blk hbx3 1
                have e1' : (#[Value.string ⟨#[]⟩, Value.string ⟨#[]⟩].setIfInBounds 0 (.string s1))[1]? = some (.string ⟨#[]⟩) := rfl
                rw [e1'] at d1
                have hb5 := BW.out.trans (hbb3.setCell (p := ⟨q0, 1, none⟩) (by rw [HQ.out]; exact Nat.le_refl _) (.string ⟨#[]⟩) |>.mono BW.out.size)
                have HB5 := Lib.hid hb5; clear hb5 hbb3 hbx3 e1'
                go_wp2
                go_ret3
                exact ⟨none, 0, rfl, Rd.nil _ _, HB5.out⟩
            · have hlab := labelAt_first z1
              rw [hlab, if_pos z1] at hE
              obtain ⟨er, her⟩ : ∃ er, er = (textAt b 64).2.2 := ⟨_, rfl⟩
              rw [← her] at hE z1
              subst hE
              have hc := took_bad B9 d9 (xs.length - at_) b 64 WA er z1 her.symm HBL.out (HRV.out _ (HXA.out _ HBB.out)) hd1 (by omega) hd2 (by decide)
              have HC := Lib.hid hc
              have g0 : ((er : Int) != 0) = true := by rw [bne_iff_ne]; omega
              clear hlab her hc hle1 hle2 hsz1 hsz2 hx hcm hd2
              go_wp2_with fail
              rw [← HWA.out, ← HQ.out]
              refine HC.out.mono ?_
              rintro e w3 ⟨rfl, j1, rfl⟩
              have hbx1 : (WA.drewN j1).heap[q0]? = some (.cells #[.string ⟨#[]⟩, .string ⟨#[]⟩] 68 (0, 0)) := HBX.out
              have hbb1 := below_drewN HBB.out j1
              generalize WA.drewN j1 = W1 at hbx1 hbb1
              have d0 := cell_blk hbx1 0
              have d1 := cell_blk hbx1 1
              have f0 := free_blk hbx1 0
              have f1 := free_blk hbx1 1
              simp only [List.getElem?_toArray, List.getElem?_cons_zero, List.getElem?_cons_succ] at d0 d1
              have hb5 := BW.out.trans (hbb1.setCell (p := ⟨q0, 0, none⟩) (by rw [HQ.out]; exact Nat.le_refl _) (.string ⟨#[]⟩) |>.mono BW.out.size)
              have HB5 := Lib.hid hb5; clear hb5 hbb1 hbx1
              go_wp2
              go_ret3
              exact ⟨none, 0, rfl, Rd.nil _ _, HB5.out⟩
          · have hkn2 : k = n := by omega
            have hE := E.out
            rw [hkn2, Nat.sub_self, takeGo_zero] at hE
            obtain ⟨B8, d8, e8, hrd8⟩ := own_rdL OW.out
            have e8' : A8 = B8 := by injection e8
            rw [← e8'] at hrd8
            have hri := rright_any A8 c8 acc wr hrd8 (small_few SM.out (by have := HAC.out; omega))
            have hlen : (xs.length : Int) - ((xs.length - at_ : Nat) : Int) = (at_ : Int) := by omega
            have hlen2 : (xs.length : Int) - ((xs.length : Int) - (at_ : Int)) = (at_ : Int) := by omega
            have HRI := Lib.hid hri; have HRD := Lib.hid hrd8; have HE := Lib.hid hE
            clear hri hrd8 hE E e8 e8' hkn2
            go_wp2_with fail
            refine HRI.out.mono ?_
            rintro e w3 ⟨rfl, hb3⟩
            have hB3 := BW.out.trans (hb3.mono BW.out.size)
            have hrd3 := HRD.out.below hb3
            have hE := HE.out
            by_cases hz : rightP acc = 0
            · rw [if_neg (by omega)] at hE
              subst hE
              rw [hz]
              have HB3 := Lib.hid hB3; have HRD3 := Lib.hid hrd3
              clear hz hB3 hrd3 hb3
              go_wp2
              go_ret3
              exact ⟨A8, c8, rfl, HRD3.out, HB3.out⟩
            · rw [if_pos hz] at hE
              obtain ⟨z, hzz⟩ : ∃ z, z = rightP acc := ⟨_, rfl⟩
              rw [← hzz] at hE hz ⊢
              clear hzz
              subst hE
              have g0 : ((z : Int) != 0) = true := by rw [bne_iff_ne]; omega
              have HB3 := Lib.hid hB3
              clear hB3 hrd3 hb3
              go_wp2
              go_ret3
              exact ⟨none, 0, rfl, Rd.nil _ _, HB3.out⟩
  · rw [if_pos he] at hR'
    subst hR'
    clear hgo hR
    have g0 : ((e : Int) != 0) = true := by rw [bne_iff_ne]; omega
    go_enter Tryd.func87, Tryd.ntmps87
    go_wp2_with fail
    refine HU.out.mono ?_
    rintro e w1 ⟨rfl, rfl⟩
    go_wp2
    go_ret3
    exact ⟨none, 0, rfl, Rd.nil _ _, RowKit.Below.refl _ _⟩
end
end Go.Proofs.YtgogpngobdafaaaDoor
