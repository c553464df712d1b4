/-
  The bytes of a record's points: the program's own, point by point.
-/
import Derived.Test.YtgogpngobdafaaaDoorJd
namespace Go.Proofs.YtgogpngobdafaaaDoor
set_option linter.unusedVariables false
set_option linter.unusedSimpArgs false
open Go.RowKit
/-- A point of a series in a box: its time, its value, its write. -/
def QBox (w : World) (b : Nat) (x : En) : Prop := w.heap[b]? = some (.cells #[.int .i64 x.2.1, .int .u64 (x.2.2.1 : Nat), .int .u64 (x.2.2.2 : Nat)] 45 (0, 0))
theorem QBox.below {w w' : World} {b : Nat} {x : En} (h : QBox w b x) (hb : Below w.heap.size w w') : QBox w' b x := (hb.block _ (blk_lt h)).trans h
theorem QBox.cells {w : World} {b : Nat} {x : En} (h : QBox w b x) : w.cell? ⟨b, 0, none⟩ = some (.int .i64 x.2.1) ∧ w.cell? ⟨b, 1, none⟩ = some (.int .u64 (x.2.2.1 : Nat)) ∧ w.cell? ⟨b, 2, none⟩ = some (.int .u64 (x.2.2.2 : Nat)) := ⟨cell_blk h 0, cell_blk h 1, cell_blk h 2⟩
theorem withJ {F : World → Prop} {X : World} (T : World → Prop) (h1 : T X) (h2 : ∀ w, T w → F w) : F X := h2 X h1
theorem entB_len (p x : En) : (entB p x).length ≤ 38 := by
  have R1 := sd_range (x.1 : Int) (p.1 : Int)
  have R2 := sd_range x.2.1 p.2.1
  have R3 := sd_range (x.2.2.2 : Int) (p.2.2.2 : Int)
  have a1 := pu_len 10 _ (Nat.lt_of_lt_of_le (zigN_lt _ R1.1 R1.2) (by decide))
  have a2 := pu_len 10 _ (Nat.lt_of_lt_of_le (zigN_lt _ R2.1 R2.2) (by decide))
  have a3 := pu_len 10 _ (Nat.lt_of_lt_of_le (zigN_lt _ R3.1 R3.2) (by decide))
  unfold entB
  simp only [List.length_append, bigN_len]
  omega
theorem wrap_sd (a b : Int) : IntKind.i64.wrap (IntKind.u64.wrap (a - b)) = sd a b := by rw [IntKind.wrap_i64, IntKind.wrap_u64]; unfold sd; omega
theorem wrap_sd2 (a b : Int) : IntKind.i64.wrap (IntKind.u64.wrap (IntKind.u64.wrap a - IntKind.u64.wrap b)) = sd a b := by rw [IntKind.wrap_i64, IntKind.wrap_u64, IntKind.wrap_u64, IntKind.wrap_u64]; unfold sd; omega
/-- The first so many of a point's three numbers. -/
def stepsB (d1 d2 d3 : Int) : Nat → Bs
  | 0 => []
  | 1 => pu (zigN d1)
  | 2 => pu (zigN d1) ++ pu (zigN d2)
  | _ => pu (zigN d1) ++ pu (zigN d2) ++ pu (zigN d3)
section
set_option maxHeartbeats 3200000
set_option maxRecDepth 100000
theorem putp_any (A : Option Addr) (c : Nat) (l : List En) (w : World) (hx : Rd w A (ecells l)) (hok : ∀ x ∈ l, EnOk x) (hl : l.length ≤ 1000) :
    Calls Tryd.prog 39 #[.slice A l.length c] w fun e w' => ∃ v, e = .returned v ∧ w'.ownsRow w.heap.size 5 1 v (pu l.length ++ entsB en0 l).length ((pu l.length ++ entsB en0 l).map Bv) ∧ Below w.heap.size w w' := by
  obtain ⟨R, hR⟩ : ∃ R, R = pu l.length ++ entsB en0 l := ⟨_, rfl⟩
  rw [← hR]
  have hp := fun W => pu_any l.length W (by omega)
  have hl10 := pu_len 10 l.length (by omega)
  obtain ⟨i0, hi, hz0, hz1, hz2⟩ := info_parts infoU8
  generalize pu l.length = P at hp hR hl10
  have HP := Lib.hid hp; have HOK := Lib.hid hok; have HRR := Lib.hid hR; clear hp hok hR
  go_enter Tryd.func39, Tryd.ntmps39
  go_wp2_with fail
  refine (HP.out _).mono ?_
  rintro e w1 ⟨v, rfl, hown, hb1⟩
  have hq := heap_alloc_new w1 (.cells #[.int .u32 0, .int .i64 0, .int .u64 0, .int .u64 0] 47)
  have hs1 : w.heap.size ≤ w1.heap.size := hb1.size
  obtain ⟨q, hqq⟩ : ∃ q, q = w1.heap.size := ⟨_, rfl⟩
  have HO := Lib.hid (show (w1.alloc (.cells #[.int .u32 0, .int .i64 0, .int .u64 0, .int .u64 0] 47)).ownsRow w.heap.size 5 1 v P.length (P.map Bv) from hown.alloc _)
  have HB := Lib.hid (show RowKit.Below w.heap.size w (w1.alloc (.cells #[.int .u32 0, .int .i64 0, .int .u64 0, .int .u64 0] 47)) from hb1.alloc hs1 _)
  have HQ := Lib.hid (show EBox (w1.alloc (.cells #[.int .u32 0, .int .i64 0, .int .u64 0, .int .u64 0] 47)) w1.heap.size en0 from hq)
  clear hown hb1 hq
  go_wp2
  rw [← hqq] at HQ ⊢
  have hqw : w.heap.size ≤ q := by omega
  clear hqq
  go_loopw [3, 17] (fun s3 s17 wr => ∃ (k : Nat) (p : En) (acc : Bs), s17 = .int .i64 k ∧ k ≤ l.length ∧ acc.length ≤ 10 + k * 38 ∧ Aside (EnOk p) ∧ Aside (EBox wr q p) ∧ Aside (wr.ownsRow w.heap.size 5 1 s3 acc.length (acc.map Bv)) ∧ Aside (RowKit.Below w.heap.size w wr) ∧ Aside (R = acc ++ entsB p (l.drop k))) (fun _ s17 _ => l.length - (intOf s17).toNat)
  case atStart => exact ⟨0, en0, P, rfl, by omega, by omega, en0_ok, HQ.out, HO.out, HB.out, HRR.out⟩
  case round =>
    obtain ⟨k, p, acc, rfl, hk, hacc, PO, PB, OW, BW, E⟩ := hrel
    by_cases hlt : k < l.length
    · have k0 : (0 : Int) ≤ (k : Int) := by omega
      have k1 : (k : Int) < (l.length : Int) := by omega
      have hE := E.out
      rw [List.drop_eq_getElem_cons hlt] at hE
      obtain ⟨b, off, rfl, c0, c1, c2, c3⟩ := en_at (hx.below BW.out) (List.getElem?_eq_getElem hlt)
      have hxo := HOK.out l[k] (List.getElem_mem hlt)
      generalize l[k] = x at c0 c1 c2 c3 hE hxo
      have hE2 : R = (acc ++ entB p x) ++ entsB x (l.drop (k + 1)) := by rw [hE, entsB, List.append_assoc]
      have hel := entB_len p x
      have hpo := PO.out
      have HXO := Lib.hid hxo
      obtain ⟨x1, x2, x3, x4⟩ := x
      obtain ⟨p1, p2, p3, p4⟩ := p
      have hent : entB (p1, p2, p3, p4) (x1, x2, x3, x4) = stepsB (sd x1 p1) (sd x2 p2) (sd x4 p4) 3 ++ bigN 8 x3 := by
        unfold entB stepsB; simp only [List.append_assoc]
      rw [hent] at hE2 hel
      obtain ⟨o1, o2, o3, o4, o5⟩ := hxo
      obtain ⟨q1, q2, q3, q4, q5⟩ := hpo
      simp only at c0 c1 c2 c3 o1 o2 o3 o4 o5 q1 q2 q3 q4 q5
      have R1 := sd_range (x1 : Int) (p1 : Int)
      have R2 := sd_range x2 p2
      have R3 := sd_range (x4 : Int) (p4 : Int)
      have e1 := wrap_sd (x1 : Int) (p1 : Int)
      have e2 := wrap_sd2 x2 p2
      have e3 := wrap_sd (x4 : Int) (p4 : Int)
      generalize sd (x1 : Int) (p1 : Int) = S1 at *
      generalize sd x2 p2 = S2 at *
      generalize sd (x4 : Int) (p4 : Int) = S3 at *
      generalize hD1 : IntKind.u64.wrap ((x1 : Int) - (p1 : Int)) = D1 at e1
      generalize hT1 : IntKind.u64.wrap x2 = T1 at e2
      generalize hT2 : IntKind.u64.wrap p2 = T2 at e2
      generalize hD2 : IntKind.u64.wrap (T1 - T2) = D2 at e2
      generalize hD3 : IntKind.u64.wrap ((x4 : Int) - (p4 : Int)) = D3 at e3
      have l1 : (stepsB S1 S2 S3 3).length ≤ 30 := by simp only [List.length_append, bigN_len] at hel; omega
      have V1 := Lib.hid (fun W => pv_any S1 W R1.1 R1.2)
      have V2 := Lib.hid (fun W => pv_any S2 W R2.1 R2.2)
      have V3 := Lib.hid (fun W => pv_any S3 W R3.1 R3.2)
      have VV := Lib.hid (fun W => putv_any x3 W o4)
      have HE2 := Lib.hid hE2
      clear hE2 hE hent hel R1 R2 R3 E HRR hx
      obtain ⟨w5, hw5⟩ : ∃ w5, w5 = wr.alloc (.cells #[.int .u32 (x1 : Nat), .int .i64 x2, .int .u64 (x3 : Nat), .int .u64 (x4 : Nat)] 47) := ⟨_, rfl⟩
      have hX5 : EBox w5 wr.heap.size (x1, x2, x3, x4) := by rw [hw5]; exact heap_alloc_new wr _
      have hP5 : EBox w5 q (p1, p2, p3, p4) := by rw [hw5]; exact PB.out.alloc _
      have hB5 : RowKit.Below wr.heap.size wr w5 := by rw [hw5]; exact (RowKit.Below.refl _ _).alloc (Nat.le_refl _) _
      have hs5 : w5.heap.size = wr.heap.size + 1 := by rw [hw5]; simp
      obtain ⟨g6, hg6⟩ : ∃ g, g = wr.heap.size := ⟨_, rfl⟩
      rw [← hg6] at hX5
      have hg5 : g6 < w5.heap.size := by omega
      have hq5 : q < w5.heap.size := blk_lt hP5
      obtain ⟨X0, X1, X2, X3⟩ := hX5.cells
      obtain ⟨Q0, Q1, Q2, Q3⟩ := hP5.cells
      simp only at X0 X1 X2 X3 Q0 Q1 Q2 Q3
      have Z := fun o o' => ((RowKit.Below.refl w5.heap.size w5).alloc (Nat.le_refl _) o).alloc (by simp) o'
      have za := fun o => (EBox.alloc hX5 o).cells
      have zb := fun o => (EBox.alloc hP5 o).cells
      have zc := fun o o' => (EBox.below hX5 (Z o o')).cells
      have zd := fun o o' => (EBox.below hP5 (Z o o')).cells
      simp only at za zb zc zd
      have za1 := fun o => (za o).2.1; have za2 := fun o => (za o).2.2.1; have za3 := fun o => (za o).2.2.2
      have zb1 := fun o => (zb o).2.1; have zb2 := fun o => (zb o).2.2.1; have zb3 := fun o => (zb o).2.2.2
      have zc1 := fun o o' => (zc o o').2.1; have zc2 := fun o o' => (zc o o').2.2.1; have zc3 := fun o o' => (zc o o').2.2.2
      have zd1 := fun o o' => (zd o o').2.1; have zd2 := fun o o' => (zd o o').2.2.1; have zd3 := fun o o' => (zd o o').2.2.2
      have yx : QBox ((w5.alloc (.cells #[.int .i64 x2, .int .u64 (x3 : Nat), .int .u64 (x4 : Nat)] 45)).alloc (.cells #[.int .i64 p2, .int .u64 (p3 : Nat), .int .u64 (p4 : Nat)] 45)) w5.heap.size (x1, x2, x3, x4) := (Below.heap_alloc _ _ _ (by simp)).trans (heap_alloc_new w5 _)
      have yp : QBox ((w5.alloc (.cells #[.int .i64 x2, .int .u64 (x3 : Nat), .int .u64 (x4 : Nat)] 45)).alloc (.cells #[.int .i64 p2, .int .u64 (p3 : Nat), .int .u64 (p4 : Nat)] 45)) (w5.heap.size + 1) (p1, p2, p3, p4) := heap_alloc_new2 w5 _ _
      have xp : QBox ((w5.alloc (.cells #[.int .i64 p2, .int .u64 (p3 : Nat), .int .u64 (p4 : Nat)] 45)).alloc (.cells #[.int .i64 x2, .int .u64 (x3 : Nat), .int .u64 (x4 : Nat)] 45)) w5.heap.size (p1, p2, p3, p4) := (Below.heap_alloc _ _ _ (by simp)).trans (heap_alloc_new w5 _)
      have xx : QBox ((w5.alloc (.cells #[.int .i64 p2, .int .u64 (p3 : Nat), .int .u64 (p4 : Nat)] 45)).alloc (.cells #[.int .i64 x2, .int .u64 (x3 : Nat), .int .u64 (x4 : Nat)] 45)) (w5.heap.size + 1) (x1, x2, x3, x4) := heap_alloc_new2 w5 _ _
      have yb := Z (.cells #[.int .i64 x2, .int .u64 (x3 : Nat), .int .u64 (x4 : Nat)] 45) (.cells #[.int .i64 p2, .int .u64 (p3 : Nat), .int .u64 (p4 : Nat)] 45)
      have xb := Z (.cells #[.int .i64 p2, .int .u64 (p3 : Nat), .int .u64 (p4 : Nat)] 45) (.cells #[.int .i64 x2, .int .u64 (x3 : Nat), .int .u64 (x4 : Nat)] 45)
      have YP := Lib.hid yp; have YX := Lib.hid yx; have XP := Lib.hid xp; have XX := Lib.hid xx; have YB := Lib.hid yb; have XB := Lib.hid xb
      have HX5 := Lib.hid hX5; have HP5 := Lib.hid hP5; have HB5 := Lib.hid hB5; have HS5 := Lib.hid hs5
      clear yp yx xp xx yb xb za zb zc zd Z hX5 hP5 hB5
      have HW5 := Lib.hid hw5; clear hw5 hs5
      go_wp2_with fail
      rw [← hg6]
      rw [← HW5.out]
      clear hg6
      go_region_held3 (fun W' => W'.cell? ⟨g6, 1, none⟩ = some (.int .i64 x2) ∧ W'.cell? ⟨g6, 2, none⟩ = some (.int .u64 (x3 : Nat)) ∧ W'.cell? ⟨g6, 3, none⟩ = some (.int .u64 (x4 : Nat)) ∧ W'.cell? ⟨q, 1, none⟩ = some (.int .i64 p2) ∧ W'.cell? ⟨q, 2, none⟩ = some (.int .u64 (p3 : Nat)) ∧ W'.cell? ⟨q, 3, none⟩ = some (.int .u64 (p4 : Nat))) (first | exact ⟨X1, X2, X3, Q1, Q2, Q3⟩ | exact ⟨za1 _, za2 _, za3 _, zb1 _, zb2 _, zb3 _⟩ | exact ⟨zc1 _ _, zc2 _ _, zc3 _ _, zd1 _ _, zd2 _ _, zd3 _ _⟩) (fail)
      all_goals
        first
          | (refine withJ (fun W6 => QBox W6 w5.heap.size (x1, x2, x3, x4) ∧ QBox W6 (w5.heap.size + 1) (p1, p2, p3, p4) ∧ RowKit.Below w5.heap.size w5 W6) ⟨YX.out, YP.out, by first | exact YB.out | exact below_drewN YB.out 1⟩ ?_
             rintro w6 ⟨hp6, hq6, hb6⟩
             obtain ⟨g8, hg8⟩ : ∃ g, g = w5.heap.size + 1 := ⟨_, rfl⟩
             rw [← hg8] at hq6 ⊢
             obtain ⟨g7, hg7⟩ : ∃ g, g = w5.heap.size := ⟨_, rfl⟩
             rw [← hg7] at hp6 ⊢)
          | (refine withJ (fun W6 => QBox W6 w5.heap.size (p1, p2, p3, p4) ∧ QBox W6 (w5.heap.size + 1) (x1, x2, x3, x4) ∧ RowKit.Below w5.heap.size w5 W6) ⟨XP.out, XX.out, by first | exact XB.out | exact below_drewN XB.out 1⟩ ?_
             rintro w6 ⟨hq6, hp6, hb6⟩
             obtain ⟨g7, hg7⟩ : ∃ g, g = w5.heap.size + 1 := ⟨_, rfl⟩
             rw [← hg7] at hp6 ⊢
             obtain ⟨g8, hg8⟩ : ∃ g, g = w5.heap.size := ⟨_, rfl⟩
             rw [← hg8] at hq6 ⊢)
      all_goals
        clear hg7 hg8 za1 za2 za3 zb1 zb2 zb3 zc1 zc2 zc3 zd1 zd2 zd3 X0 X1 X2 X3 Q0 Q1 Q2 Q3 YP YX XP XX YB XB c0 c1 c2 c3
        have hb6' : RowKit.Below wr.heap.size wr w6 := HB5.out.trans (hb6.mono (by have := HS5.out; omega))
        have hX6 := HX5.out.below hb6
        have hP6 := HP5.out.below hb6
        have hO6 := own_moved OW.out (w' := w6) (fun g hg => hb6'.block g (OW.out.lt g hg).2)
        have hBW6 := BW.out.trans (hb6'.mono BW.out.size)
        obtain ⟨X0, X1, X2, X3⟩ := hX6.cells
        obtain ⟨Q0, Q1, Q2, Q3⟩ := hP6.cells
        obtain ⟨Y0, Y1, Y2⟩ := hp6.cells
        obtain ⟨Z0, Z1, Z2⟩ := hq6.cells
        simp only at X0 X1 X2 X3 Q0 Q1 Q2 Q3 Y0 Y1 Y2 Z0 Z1 Z2
        have hs6 : w.heap.size ≤ w6.heap.size := hBW6.size
        have H6 := Lib.hid (show EBox w6 g6 (x1, x2, x3, x4) ∧ EBox w6 q (p1, p2, p3, p4) ∧ QBox w6 g7 (x1, x2, x3, x4) ∧ w6.ownsRow w.heap.size 5 1 u3 acc.length (acc.map Bv) ∧ RowKit.Below w.heap.size w w6 from ⟨hX6, hP6, hp6, hO6, hBW6⟩)
        clear hX6 hP6 hO6 hBW6 hp6 hq6 hb6 hb6' HX5 HP5 HB5 OW BW PB
        go_wp2
        clear X0 X1 X2 X3 Q0 Q1 Q2 Q3 Y0 Y1 Y2 Z0 Z1 Z2
        go_loopw [3, 45] (fun s3 s45 wi => ∃ (j : Nat) (acc1 : Bs), s45 = .int .i64 j ∧ j ≤ 3 ∧ Aside (acc1 = acc ++ stepsB S1 S2 S3 j) ∧ Aside (EBox wi g6 (x1, x2, x3, x4) ∧ EBox wi q (p1, p2, p3, p4) ∧ QBox wi g7 (x1, x2, x3, x4) ∧ wi.ownsRow w.heap.size 5 1 s3 acc1.length (acc1.map Bv) ∧ RowKit.Below w.heap.size w wi)) (fun _ s45 _ => 3 - (intOf s45).toNat)
        case atStart => exact ⟨0, acc, rfl, by omega, (show acc = acc ++ stepsB S1 S2 S3 0 by simp [stepsB]), H6.out⟩
        case round =>
          obtain ⟨j, acc1, rfl, hj, EA, HI⟩ := hrel
          rcases (show j = 0 ∨ j = 1 ∨ j = 2 ∨ j = 3 by omega) with rfl | rfl | rfl | rfl
          · obtain ⟨HX, HPq, HQ7, HO1, HB1⟩ := HI.out
            have hlen1 : acc1.length ≤ 10 + k * 38 + 30 := by
              rw [EA.out, List.length_append]
              have : (stepsB S1 S2 S3 0).length ≤ (stepsB S1 S2 S3 3).length := by simp only [stepsB, List.length_append, List.length_nil]; omega
              omega
            have hl2 : (pu (zigN S1)).length ≤ 30 := by
              have : (pu (zigN S1)).length ≤ (stepsB S1 S2 S3 3).length := by simp only [stepsB, List.length_append]; omega
              omega
            have hacc : acc1 ++ pu (zigN S1) = acc ++ stepsB S1 S2 S3 1 := by rw [EA.out]; simp [stepsB, List.append_assoc]
            have HACC := Lib.hid hacc; have HS := Lib.hid HB1.size
            have GX := Lib.hid HX; have GP := Lib.hid HPq; have GQ := Lib.hid HQ7; have GO := Lib.hid HO1; have GB := Lib.hid HB1
            clear hacc HX HPq HQ7 HO1 HB1 HI
            generalize pu (zigN S1) = y at V1 HACC hl2
            have hix : ∀ u : World, (Instr.index 101 (.agg #[.int .u64 D1, .int .u64 D2, .int .u64 D3]) (.int .i64 0)).run Tryd.prog u = .ok (.int .u64 D1) u := fun u => run_index_agg (P := Tryd.prog) u 101 43 3 0 #[.int .u64 D1, .int .u64 D2, .int .u64 D3] _ Tryd.underlying101 (by kernel_rfl) (by kernel_rfl) (by kernel_rfl) (by decide) rfl
            go_wp2_with fail
            refine (V1.out _).mono ?_
            rintro e wj ⟨vj, rfl, hownj, hbj⟩
            obtain ⟨Aj, cj, rfl, hrdj, -⟩ := own_rd hownj
            have GO2 := Lib.hid (own_moved GO.out (w' := wj) (fun g hg => hbj.block g (GO.out.lt g hg).2))
            have GX2 := Lib.hid (GX.out.below hbj); have GP2 := Lib.hid (GP.out.below hbj); have GQ2 := Lib.hid (GQ.out.below hbj)
            have GB2 := Lib.hid (GB.out.trans (hbj.mono HS.out))
            have hsj : w.heap.size ≤ wj.heap.size := GB2.out.size
            have HRJ := Lib.hid hrdj
            clear hownj hbj hrdj GX GP GQ GO GB
            go_wp2_with (first
              | (at_builtin; go_must (refine wpList_append_bytes rfl _ _ rfl w.heap.size _ acc1 rfl GO2.out Aj cj _ y rfl rfl HRJ.out (by omega) hsj ?_; intro A9 c9 w9 own9 grow9))
              | fail)
            have GX3 := Lib.hid (show EBox w9 g6 (x1, x2, x3, x4) from kept_other GO2.out grow9 GX2.out (by decide))
            have GP3 := Lib.hid (show EBox w9 q (p1, p2, p3, p4) from kept_other GO2.out grow9 GP2.out (by decide))
            have GQ3 := Lib.hid (show QBox w9 g7 (x1, x2, x3, x4) from kept_other GO2.out grow9 GQ2.out (by decide))
            have GB3 := Lib.hid (GB2.out.grown grow9 hsj (fun k h => (GO2.out.lt k h).1))
            have GO3 := Lib.hid own9
            clear own9 grow9 GX2 GP2 GQ2 GO2 GB2
            go_wp2
            go_roundw
            case rel => exact ⟨1, acc1 ++ y, rfl, by omega, (show Aside _ from HACC.out), (show Aside _ from ⟨GX3.out, GP3.out, GQ3.out, by simpa only [List.length_append] using GO3.out, GB3.out⟩)⟩
            case measure => simp [intOf]
          · obtain ⟨HX, HPq, HQ7, HO1, HB1⟩ := HI.out
            have hlen1 : acc1.length ≤ 10 + k * 38 + 30 := by
              rw [EA.out, List.length_append]
              have : (stepsB S1 S2 S3 1).length ≤ (stepsB S1 S2 S3 3).length := by simp only [stepsB, List.length_append, List.length_nil]; omega
              omega
            have hl2 : (pu (zigN S2)).length ≤ 30 := by
              have : (pu (zigN S2)).length ≤ (stepsB S1 S2 S3 3).length := by simp only [stepsB, List.length_append]; omega
              omega
            have hacc : acc1 ++ pu (zigN S2) = acc ++ stepsB S1 S2 S3 2 := by rw [EA.out]; simp [stepsB, List.append_assoc]
            have HACC := Lib.hid hacc; have HS := Lib.hid HB1.size
            have GX := Lib.hid HX; have GP := Lib.hid HPq; have GQ := Lib.hid HQ7; have GO := Lib.hid HO1; have GB := Lib.hid HB1
            clear hacc HX HPq HQ7 HO1 HB1 HI
            generalize pu (zigN S2) = y at V2 HACC hl2
            have hix : ∀ u : World, (Instr.index 101 (.agg #[.int .u64 D1, .int .u64 D2, .int .u64 D3]) (.int .i64 1)).run Tryd.prog u = .ok (.int .u64 D2) u := fun u => run_index_agg (P := Tryd.prog) u 101 43 3 1 #[.int .u64 D1, .int .u64 D2, .int .u64 D3] _ Tryd.underlying101 (by kernel_rfl) (by kernel_rfl) (by kernel_rfl) (by decide) rfl
            go_wp2_with fail
            refine (V2.out _).mono ?_
            rintro e wj ⟨vj, rfl, hownj, hbj⟩
            obtain ⟨Aj, cj, rfl, hrdj, -⟩ := own_rd hownj
            have GO2 := Lib.hid (own_moved GO.out (w' := wj) (fun g hg => hbj.block g (GO.out.lt g hg).2))
            have GX2 := Lib.hid (GX.out.below hbj); have GP2 := Lib.hid (GP.out.below hbj); have GQ2 := Lib.hid (GQ.out.below hbj)
            have GB2 := Lib.hid (GB.out.trans (hbj.mono HS.out))
            have hsj : w.heap.size ≤ wj.heap.size := GB2.out.size
            have HRJ := Lib.hid hrdj
            clear hownj hbj hrdj GX GP GQ GO GB
            go_wp2_with (first
              | (at_builtin; go_must (refine wpList_append_bytes rfl _ _ rfl w.heap.size _ acc1 rfl GO2.out Aj cj _ y rfl rfl HRJ.out (by omega) hsj ?_; intro A9 c9 w9 own9 grow9))
              | fail)
            have GX3 := Lib.hid (show EBox w9 g6 (x1, x2, x3, x4) from kept_other GO2.out grow9 GX2.out (by decide))
            have GP3 := Lib.hid (show EBox w9 q (p1, p2, p3, p4) from kept_other GO2.out grow9 GP2.out (by decide))
            have GQ3 := Lib.hid (show QBox w9 g7 (x1, x2, x3, x4) from kept_other GO2.out grow9 GQ2.out (by decide))
            have GB3 := Lib.hid (GB2.out.grown grow9 hsj (fun k h => (GO2.out.lt k h).1))
            have GO3 := Lib.hid own9
            clear own9 grow9 GX2 GP2 GQ2 GO2 GB2
            go_wp2
            go_roundw
            case rel => exact ⟨2, acc1 ++ y, rfl, by omega, (show Aside _ from HACC.out), (show Aside _ from ⟨GX3.out, GP3.out, GQ3.out, by simpa only [List.length_append] using GO3.out, GB3.out⟩)⟩
            case measure => simp [intOf]
          · obtain ⟨HX, HPq, HQ7, HO1, HB1⟩ := HI.out
            have hlen1 : acc1.length ≤ 10 + k * 38 + 30 := by
              rw [EA.out, List.length_append]
              have : (stepsB S1 S2 S3 2).length ≤ (stepsB S1 S2 S3 3).length := by simp only [stepsB, List.length_append, List.length_nil]; omega
              omega
            have hl2 : (pu (zigN S3)).length ≤ 30 := by
              have : (pu (zigN S3)).length ≤ (stepsB S1 S2 S3 3).length := by simp only [stepsB, List.length_append]; omega
              omega
            have hacc : acc1 ++ pu (zigN S3) = acc ++ stepsB S1 S2 S3 3 := by rw [EA.out]; simp [stepsB, List.append_assoc]
            have HACC := Lib.hid hacc; have HS := Lib.hid HB1.size
            have GX := Lib.hid HX; have GP := Lib.hid HPq; have GQ := Lib.hid HQ7; have GO := Lib.hid HO1; have GB := Lib.hid HB1
            clear hacc HX HPq HQ7 HO1 HB1 HI
            generalize pu (zigN S3) = y at V3 HACC hl2
            have hix : ∀ u : World, (Instr.index 101 (.agg #[.int .u64 D1, .int .u64 D2, .int .u64 D3]) (.int .i64 2)).run Tryd.prog u = .ok (.int .u64 D3) u := fun u => run_index_agg (P := Tryd.prog) u 101 43 3 2 #[.int .u64 D1, .int .u64 D2, .int .u64 D3] _ Tryd.underlying101 (by kernel_rfl) (by kernel_rfl) (by kernel_rfl) (by decide) rfl
            go_wp2_with fail
            refine (V3.out _).mono ?_
            rintro e wj ⟨vj, rfl, hownj, hbj⟩
            obtain ⟨Aj, cj, rfl, hrdj, -⟩ := own_rd hownj
            have GO2 := Lib.hid (own_moved GO.out (w' := wj) (fun g hg => hbj.block g (GO.out.lt g hg).2))
            have GX2 := Lib.hid (GX.out.below hbj); have GP2 := Lib.hid (GP.out.below hbj); have GQ2 := Lib.hid (GQ.out.below hbj)
            have GB2 := Lib.hid (GB.out.trans (hbj.mono HS.out))
            have hsj : w.heap.size ≤ wj.heap.size := GB2.out.size
            have HRJ := Lib.hid hrdj
            clear hownj hbj hrdj GX GP GQ GO GB
            go_wp2_with (first
              | (at_builtin; go_must (refine wpList_append_bytes rfl _ _ rfl w.heap.size _ acc1 rfl GO2.out Aj cj _ y rfl rfl HRJ.out (by omega) hsj ?_; intro A9 c9 w9 own9 grow9))
              | fail)
            have GX3 := Lib.hid (show EBox w9 g6 (x1, x2, x3, x4) from kept_other GO2.out grow9 GX2.out (by decide))
            have GP3 := Lib.hid (show EBox w9 q (p1, p2, p3, p4) from kept_other GO2.out grow9 GP2.out (by decide))
            have GQ3 := Lib.hid (show QBox w9 g7 (x1, x2, x3, x4) from kept_other GO2.out grow9 GQ2.out (by decide))
            have GB3 := Lib.hid (GB2.out.grown grow9 hsj (fun k h => (GO2.out.lt k h).1))
            have GO3 := Lib.hid own9
            clear own9 grow9 GX2 GP2 GQ2 GO2 GB2
            go_wp2
            go_roundw
            case rel => exact ⟨3, acc1 ++ y, rfl, by omega, (show Aside _ from HACC.out), (show Aside _ from ⟨GX3.out, GP3.out, GQ3.out, by simpa only [List.length_append] using GO3.out, GB3.out⟩)⟩
            case measure => simp [intOf]
          · obtain ⟨HX, HPq, HQ7, HO1, HB1⟩ := HI.out
            have hacc : acc1 = acc ++ stepsB S1 S2 S3 3 := EA.out
            have hlen1 : acc1.length ≤ 10 + k * 38 + 30 := by rw [hacc, List.length_append]; omega
            have HE3 := Lib.hid (show R = (acc1 ++ bigN 8 x3) ++ entsB (x1, x2, x3, x4) (l.drop (k + 1)) by rw [HE2.out, hacc]; simp only [List.append_assoc])
            obtain ⟨Y0, Y1, Y2⟩ := HQ7.cells
            simp only at Y0 Y1 Y2
            have HS := Lib.hid HB1.size
            have GX := Lib.hid HX; have GP := Lib.hid HPq; have GO := Lib.hid HO1; have GB := Lib.hid HB1
            clear hacc HX HPq HQ7 HO1 HB1 HI EA HE2 Y0 Y2
            have hb8 : (bigN 8 x3).length = 8 := bigN_len 8 x3
            generalize bigN 8 x3 = y at VV HE3 hb8
            go_wp2_with fail
            refine (VV.out _).mono ?_
            rintro e wj ⟨rfl, hbv, hbj⟩
            have hrdj : Rd wj (some ⟨wr.heap.size, 0, none⟩) (y.map Bv) := fun i u hu => ⟨wr.heap.size, 0, rfl, by rw [Nat.zero_add, cell_blk hbv, List.getElem?_toArray]; exact hu⟩
            have GO2 := Lib.hid (own_moved GO.out (w' := wj) (fun g hg => hbj.block g (GO.out.lt g hg).2))
            have GX2 := Lib.hid (GX.out.below hbj); have GP2 := Lib.hid (GP.out.below hbj)
            have GB2 := Lib.hid (GB.out.trans (hbj.mono HS.out))
            have hsj : w.heap.size ≤ wj.heap.size := GB2.out.size
            have HRJ := Lib.hid hrdj; have HB8 := Lib.hid hb8
            clear hbv hbj hrdj GX GP GO GB hb8 Y1
            go_wp2_with (first
              | (at_builtin; go_must (refine wpList_append_bytes rfl _ _ rfl w.heap.size _ acc1 rfl GO2.out (some ⟨wr.heap.size, 0, none⟩) 8 8 y rfl HB8.out HRJ.out (by have := HB8.out; omega) hsj ?_; intro A9 c9 w9 own9 grow9; have GX3 : EBox w9 g6 (x1, x2, x3, x4) := kept_other GO2.out grow9 GX2.out (by decide); have GP3 : EBox w9 q (p1, p2, p3, p4) := kept_other GO2.out grow9 GP2.out (by decide); have GB3 := Lib.hid (GB2.out.grown grow9 hsj (fun k h => (GO2.out.lt k h).1)); have GO3 := Lib.hid own9; obtain ⟨X0, X1, X2, X3⟩ := GX3.cells; simp only at X0 X1 X2 X3; have HP3 := Lib.hid GP3; clear own9 grow9 GX2 GP2 GO2 GB2 GX3 GP3))
              | (refine wpList_store_agg (o := ⟨none, _, _, _, _, _⟩) ?_ 47 (.tmp 4) (.tmp 59) ?_ q 0 [.int .u32 (x1 : Nat), .int .i64 x2, .int .u64 (x3 : Nat), .int .u64 (x4 : Nat)] ?_ ?_ 47 _ HP3.out (by kernel_rfl) (by show 0 + 4 ≤ 4; decide) (by intro v hv; simp at hv; rcases hv with rfl | rfl | rfl | rfl <;> rfl) ?_; rfl; rfl; rfl; rfl; intro w10 hg10 hmv10 hs10)
              | fail)
            have hPn : EBox w10 q (x1, x2, x3, x4) := hg10
            have hne : (Value.slice A9 (acc1 ++ y).length c9).ownBlock ≠ some q := own_blk GO3.out HP3.out (by decide)
            have hOn := own_moved GO3.out (w' := w10) (fun g hg => hmv10.block g (GO3.out.lt g hg).2 (fun e => hne (by rw [← e]; exact hg)))
            have hBn : RowKit.Below w.heap.size w w10 := GB3.out.trans (hmv10.belowB GB3.out.size (fun i hi e => by omega))
            have HPn := Lib.hid hPn; have HOn := Lib.hid hOn; have HBn := Lib.hid hBn
            clear hPn hOn hBn hne X0 X1 X2 X3 hg10 hmv10 hs10
            go_roundw
            case rel => exact ⟨k + 1, (x1, x2, x3, x4), acc1 ++ y, by go_num, by omega, by rw [List.length_append, HB8.out]; omega, (show Aside _ from HXO.out), (show Aside _ from HPn.out), (show Aside _ from (by have h := HOn.out; rw [List.length_append] at h ⊢; exact h : World.ownsRow w10 w.heap.size 5 1 (.slice A9 (acc1.length + y.length) c9) (acc1 ++ y).length ((acc1 ++ y).map Bv))), (show Aside _ from HBn.out), (show Aside _ from HE3.out)⟩
            case measure => simp [intOf]; omega
    · obtain rfl : k = l.length := by omega
      have hE := E.out
      rw [List.drop_length] at hE
      simp only [entsB, List.append_nil] at hE
      subst hE
      go_wp2
      go_ret
      exact ⟨_, rfl, OW.out, BW.out⟩
end
end Go.Proofs.YtgogpngobdafaaaDoor
