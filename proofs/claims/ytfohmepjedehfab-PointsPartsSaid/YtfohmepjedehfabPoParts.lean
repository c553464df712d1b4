/-
  PointsParts (P9.4): the points of some times, of writes up to one, of a window, and its last one, of any list, are the plain answers'. No condition.
-/
import Derived.Deep.RegionHeld3
import Derived.Test.YtfohmepjedehfabPw
import Derived.Test.YtfohmepjedehfabPt8
import Derived.Test.YtfohmepjedehfabPtc
import Derived.Test.YtfohmepjedehfabPte
namespace Go.Proofs.Ytfohmepjedehfab
set_option linter.unusedVariables false
set_option linter.unusedSimpArgs false
open Go.ChangeShapes Go.WideShapes Go.ChangeAt Go.RowKit

section
set_option maxHeartbeats 3200000
set_option maxRecDepth 100000
theorem pointsParts_walk (A : Option Addr) (c : Nat) (l : List Pt) (x : Ak) (w : World) (hA : Rd w A (pcells l)) :
    Calls Try.prog 4 #[.slice A l.length c, .agg #[.int .i64 x.lo, .int .i64 x.hi, .int .i64 x.t, .int .u64 x.width, .int .u64 x.back, .int .u64 x.seq]] w fun e w' => e = .returned (.bool true) ∧ RowKit.Below w.heap.size w w' := by
  obtain ⟨W, hW⟩ : ∃ W, W = w.alloc (.cells (boxAk x) 37) := ⟨_, rfl⟩
  have hbw : RowKit.Below w.heap.size w W := by rw [hW]; exact (RowKit.Below.refl _ w).alloc (Nat.le_refl _) _
  have hbx : W.heap[w.heap.size]? = some (.cells (boxAk x) 37 (0, 0)) := by rw [hW]; exact heap_alloc_new _ _
  have hsW := hbw.size
  have HA := Lib.hid (hA.below hbw); have HBW := Lib.hid hbw; have HBX := Lib.hid hbx
  have HX := Lib.hid (show ∀ W', RowKit.Below W.heap.size W W' → W'.heap[w.heap.size]? = some (.cells (boxAk x) 37 (0, 0)) from fun W' hb => (hb.block _ (blk_lt HBX.out)).trans HBX.out)
  have HLV := Lib.hid live_any
  have HFA := Lib.hid (fun w => few_any A c l w)
  unfold boxAk at hW
  have HW := Lib.hid hW
  clear hA hbw hbx hW
  by_cases la : l.length ≤ 400
  · rw [decide_eq_true la] at HFA
    have HAT := Lib.hid (fun (W' : World) (hb : RowKit.Below W.heap.size W W') => at_any A c l x.t x.back W' (HA.out.below hb) (by omega))
    have HRT := Lib.hid (fun (W' : World) (hb : RowKit.Below W.heap.size W W') => rat_any A c l x.t x.back W' (HA.out.below hb) (by omega))
    generalize lastP l (nearB x.t x.back) = res at HAT HRT
    obtain ⟨⟨q1, q2, q3⟩, is⟩ := res
    unfold aggPt at HAT HRT
    simp only at HAT HRT
    have HRA := Lib.hid (fun (W' : World) (hb : RowKit.Below W.heap.size W W') => range_any A c l x.lo x.hi W' (HA.out.below hb) (by omega))
    have HRB := Lib.hid (fun (W' : World) (hb : RowKit.Below W.heap.size W W') => rrange_any A c l x.lo x.hi W' (HA.out.below hb) (by omega))
    have lR := List.length_filter_le (rangeB x.lo x.hi) l
    generalize l.filter (rangeB x.lo x.hi) = mR at HRA HRB lR
    have HUA := Lib.hid (fun (W' : World) (hb : RowKit.Below W.heap.size W W') => upto_any A c l x.seq W' (HA.out.below hb) (by omega))
    have HUB := Lib.hid (fun (W' : World) (hb : RowKit.Below W.heap.size W W') => rupto_any A c l x.seq W' (HA.out.below hb) (by omega))
    have lU := List.length_filter_le (uptoB x.seq) l
    generalize l.filter (uptoB x.seq) = mU at HUA HUB lU
    have HNA := Lib.hid (fun (W' : World) (hb : RowKit.Below W.heap.size W W') => win_any A c l x.t x.width W' (HA.out.below hb) (by omega))
    have HNB := Lib.hid (fun (W' : World) (hb : RowKit.Below W.heap.size W W') => rwin_any A c l x.t x.width W' (HA.out.below hb) (by omega))
    have lN := List.length_filter_le (nearB x.t x.width) l
    generalize l.filter (nearB x.t x.width) = mN at HNA HNB lN
    have ee := show (is == is) = true by simp
    go_enter Try.func4, Try.ntmps4
    go_wp2_with fail
    rw [← HW.out]
    go_wp2_with fail
    refine (HLV.out _).mono ?_
    rintro e w1 ⟨rfl, hb1⟩
    go_wp2_with fail
    refine (HFA.out _).mono ?_
    rintro e w2 ⟨rfl, rfl⟩
    have h0 := HX.out _ hb1
    have i2 := cell_blk h0 2; have i4 := cell_blk h0 4
    simp only [boxAk, List.getElem?_toArray, List.getElem?_cons_succ, List.getElem?_cons_zero] at i2 i4
    clear h0
    go_wp2_with fail
    refine (HAT.out _ hb1).mono ?_
    rintro e w3 ⟨rfl, hb3⟩
    have hb4 := (hb1.trans (hb3.mono hb1.size)).alloc (Nat.le_trans hb1.size hb3.size) (.cells (boxPt (q1, q2, q3)) 25)
    have hp4 := PBox.new w3 (q1, q2, q3)
    obtain ⟨g5, hg5⟩ : ∃ g, g = w3.heap.size := ⟨_, rfl⟩
    obtain ⟨W4, hW4⟩ : ∃ W, W = w3.alloc (.cells (boxPt (q1, q2, q3)) 25) := ⟨_, rfl⟩
    rw [← hW4] at hb4 hp4
    unfold boxPt at hW4
    simp only at hW4
    rw [← hg5] at hp4
    have h0 := HX.out _ hb4
    have i2 := cell_blk h0 2; have i4 := cell_blk h0 4
    simp only [boxAk, List.getElem?_toArray, List.getElem?_cons_succ, List.getElem?_cons_zero] at i2 i4
    rw [hW4] at i2 i4
    have HB4 := Lib.hid hb4; have HP4 := Lib.hid hp4; have HW4 := Lib.hid hW4; have HG5 := Lib.hid hg5
    clear h0 hb1 hb3 hb4 hp4 hW4 hg5
    go_wp2_with fail
    rw [← HW4.out, ← HG5.out]
    refine (HRT.out _ HB4.out).mono ?_
    rintro e w5 ⟨rfl, hb5⟩
    have hb6 := (HB4.out.trans (hb5.mono HB4.out.size)).alloc (Nat.le_trans HB4.out.size hb5.size) (.cells (boxPt (q1, q2, q3)) 25)
    have hp5 := (HP4.out.below hb5).alloc (.cells (boxPt (q1, q2, q3)) 25)
    have hp6 := PBox.new w5 (q1, q2, q3)
    obtain ⟨g7, hg7⟩ : ∃ g, g = w5.heap.size := ⟨_, rfl⟩
    obtain ⟨W6, hW6⟩ : ∃ W, W = w5.alloc (.cells (boxPt (q1, q2, q3)) 25) := ⟨_, rfl⟩
    rw [← hW6] at hb6 hp5 hp6
    unfold boxPt at hW6
    simp only at hW6
    rw [← hg7] at hp6
    have HB6 := Lib.hid hb6; have HP5 := Lib.hid hp5; have HP6 := Lib.hid hp6; have HW6 := Lib.hid hW6; have HG7 := Lib.hid hg7
    clear hb5 hb6 hp5 hp6 hW6 hg7 i2 i4
    have HS6 := Lib.hid (show ∀ W', RowKit.Below W6.heap.size W6 W' → W'.cell? ⟨w.heap.size, 0, none⟩ = some (.int .i64 x.lo) ∧ W'.cell? ⟨w.heap.size, 1, none⟩ = some (.int .i64 x.hi) ∧ W'.cell? ⟨w.heap.size, 2, none⟩ = some (.int .i64 x.t) ∧ W'.cell? ⟨w.heap.size, 3, none⟩ = some (.int .u64 x.width) ∧ W'.cell? ⟨w.heap.size, 5, none⟩ = some (.int .u64 x.seq) ∧ W'.cell? ⟨g5, 0, none⟩ = some (.int .i64 q1) ∧ W'.cell? ⟨g5, 1, none⟩ = some (.int .u64 q2) ∧ W'.cell? ⟨g5, 2, none⟩ = some (.int .u64 q3) ∧ W'.cell? ⟨g7, 0, none⟩ = some (.int .i64 q1) ∧ W'.cell? ⟨g7, 1, none⟩ = some (.int .u64 q2) ∧ W'.cell? ⟨g7, 2, none⟩ = some (.int .u64 q3) from fun W' hb => by
      have h := HX.out W' (HB6.out.trans (hb.mono HB6.out.size))
      obtain ⟨e0, e1, e2⟩ := (HP5.out.below hb).cells
      obtain ⟨f0, f1, f2⟩ := (HP6.out.below hb).cells
      exact ⟨cell_blk h 0, cell_blk h 1, cell_blk h 2, cell_blk h 3, cell_blk h 5, e0, e1, e2, f0, f1, f2⟩)
    have HBc := Lib.hid (RowKit.Below.refl W6.heap.size W6)
    go_wp2_with fail
    rw [← HW6.out, ← HG7.out]
    go_region_held3 (fun W' => W'.cell? ⟨w.heap.size, 0, none⟩ = some (.int .i64 x.lo) ∧ W'.cell? ⟨w.heap.size, 1, none⟩ = some (.int .i64 x.hi) ∧ W'.cell? ⟨w.heap.size, 2, none⟩ = some (.int .i64 x.t) ∧ W'.cell? ⟨w.heap.size, 3, none⟩ = some (.int .u64 x.width) ∧ W'.cell? ⟨w.heap.size, 5, none⟩ = some (.int .u64 x.seq) ∧ W'.cell? ⟨g5, 0, none⟩ = some (.int .i64 q1) ∧ W'.cell? ⟨g5, 1, none⟩ = some (.int .u64 q2) ∧ W'.cell? ⟨g5, 2, none⟩ = some (.int .u64 q3) ∧ W'.cell? ⟨g7, 0, none⟩ = some (.int .i64 q1) ∧ W'.cell? ⟨g7, 1, none⟩ = some (.int .u64 q2) ∧ W'.cell? ⟨g7, 2, none⟩ = some (.int .u64 q3)) (first | exact HS6.out _ HBc.out | exact HS6.out _ (below_drewN HBc.out _)) (first
      | (go_at_call 16; (with_reducible refine (HRA.out _ ?_).mono ?_); (focus (first | exact HB6.out.trans (HBc.out.mono HB6.out.size) | exact HB6.out.trans ((below_drewN HBc.out _).mono HB6.out.size))); go_must (rintro e wq ⟨AA, cA, rfl, ho, hbq⟩; have hq0 := ho.lower (Nat.le_trans HB6.out.size HBc.out.size); (try (have hq1 := undrewQ hbq; clear hbq; have hbq := hq1; clear hq1)); (try (have hq1 := own_below_pt OA.out hbq; have OA := Lib.hid hq1; clear hq1)); (try (have hq1 := own_below_pt OB.out hbq; have OB := Lib.hid hq1; clear hq1)); (try (have hq1 := own_below_pt OC.out hbq; have OC := Lib.hid hq1; clear hq1)); (try (have hq1 := own_below_pt OD.out hbq; have OD := Lib.hid hq1; clear hq1)); (try (have hq1 := own_below_pt OE.out hbq; have OE := Lib.hid hq1; clear hq1)); (try (have hq1 := own_below_pt OF.out hbq; have OF := Lib.hid hq1; clear hq1)); have hq1 := HBc.out.trans (hbq.mono HBc.out.size); have HBc := Lib.hid hq1; clear hq1 hbq; have OA := Lib.hid hq0; clear hq0 ho))
      | (go_at_call 17; (with_reducible refine (HRB.out _ ?_).mono ?_); (focus (first | exact HB6.out.trans (HBc.out.mono HB6.out.size) | exact HB6.out.trans ((below_drewN HBc.out _).mono HB6.out.size))); go_must (rintro e wq ⟨AB, cB, rfl, ho, hbq⟩; have hq0 := ho.lower (Nat.le_trans HB6.out.size HBc.out.size); (try (have hq1 := undrewQ hbq; clear hbq; have hbq := hq1; clear hq1)); (try (have hq1 := own_below_pt OA.out hbq; have OA := Lib.hid hq1; clear hq1)); (try (have hq1 := own_below_pt OB.out hbq; have OB := Lib.hid hq1; clear hq1)); (try (have hq1 := own_below_pt OC.out hbq; have OC := Lib.hid hq1; clear hq1)); (try (have hq1 := own_below_pt OD.out hbq; have OD := Lib.hid hq1; clear hq1)); (try (have hq1 := own_below_pt OE.out hbq; have OE := Lib.hid hq1; clear hq1)); (try (have hq1 := own_below_pt OF.out hbq; have OF := Lib.hid hq1; clear hq1)); have hq1 := HBc.out.trans (hbq.mono HBc.out.size); have HBc := Lib.hid hq1; clear hq1 hbq; have OB := Lib.hid hq0; clear hq0 ho))
      | (go_at_call 10; (with_reducible refine (same_any AA AB cA cB mR mR _ ?_ ?_ ?_ ?_).mono ?_); (focus (exact own_rd_of OA.out rfl)); (focus (exact own_rd_of OB.out rfl)); (focus omega); (focus omega); go_must (rintro e wq ⟨rfl, hbq⟩; rw [decide_eq_true rfl]; (try (have hq1 := undrewQ hbq; clear hbq; have hbq := hq1; clear hq1)); (try (have hq1 := own_below_pt OA.out hbq; have OA := Lib.hid hq1; clear hq1)); (try (have hq1 := own_below_pt OB.out hbq; have OB := Lib.hid hq1; clear hq1)); (try (have hq1 := own_below_pt OC.out hbq; have OC := Lib.hid hq1; clear hq1)); (try (have hq1 := own_below_pt OD.out hbq; have OD := Lib.hid hq1; clear hq1)); (try (have hq1 := own_below_pt OE.out hbq; have OE := Lib.hid hq1; clear hq1)); (try (have hq1 := own_below_pt OF.out hbq; have OF := Lib.hid hq1; clear hq1)); have hq1 := HBc.out.trans (hbq.mono HBc.out.size); have HBc := Lib.hid hq1; clear hq1 hbq))
      | (go_at_call 18; (with_reducible refine (HUA.out _ ?_).mono ?_); (focus (first | exact HB6.out.trans (HBc.out.mono HB6.out.size) | exact HB6.out.trans ((below_drewN HBc.out _).mono HB6.out.size))); go_must (rintro e wq ⟨AC, cC, rfl, ho, hbq⟩; have hq0 := ho.lower (Nat.le_trans HB6.out.size HBc.out.size); (try (have hq1 := undrewQ hbq; clear hbq; have hbq := hq1; clear hq1)); (try (have hq1 := own_below_pt OA.out hbq; have OA := Lib.hid hq1; clear hq1)); (try (have hq1 := own_below_pt OB.out hbq; have OB := Lib.hid hq1; clear hq1)); (try (have hq1 := own_below_pt OC.out hbq; have OC := Lib.hid hq1; clear hq1)); (try (have hq1 := own_below_pt OD.out hbq; have OD := Lib.hid hq1; clear hq1)); (try (have hq1 := own_below_pt OE.out hbq; have OE := Lib.hid hq1; clear hq1)); (try (have hq1 := own_below_pt OF.out hbq; have OF := Lib.hid hq1; clear hq1)); have hq1 := HBc.out.trans (hbq.mono HBc.out.size); have HBc := Lib.hid hq1; clear hq1 hbq; have OC := Lib.hid hq0; clear hq0 ho))
      | (go_at_call 19; (with_reducible refine (HUB.out _ ?_).mono ?_); (focus (first | exact HB6.out.trans (HBc.out.mono HB6.out.size) | exact HB6.out.trans ((below_drewN HBc.out _).mono HB6.out.size))); go_must (rintro e wq ⟨AD, cD, rfl, ho, hbq⟩; have hq0 := ho.lower (Nat.le_trans HB6.out.size HBc.out.size); (try (have hq1 := undrewQ hbq; clear hbq; have hbq := hq1; clear hq1)); (try (have hq1 := own_below_pt OA.out hbq; have OA := Lib.hid hq1; clear hq1)); (try (have hq1 := own_below_pt OB.out hbq; have OB := Lib.hid hq1; clear hq1)); (try (have hq1 := own_below_pt OC.out hbq; have OC := Lib.hid hq1; clear hq1)); (try (have hq1 := own_below_pt OD.out hbq; have OD := Lib.hid hq1; clear hq1)); (try (have hq1 := own_below_pt OE.out hbq; have OE := Lib.hid hq1; clear hq1)); (try (have hq1 := own_below_pt OF.out hbq; have OF := Lib.hid hq1; clear hq1)); have hq1 := HBc.out.trans (hbq.mono HBc.out.size); have HBc := Lib.hid hq1; clear hq1 hbq; have OD := Lib.hid hq0; clear hq0 ho))
      | (go_at_call 10; (with_reducible refine (same_any AC AD cC cD mU mU _ ?_ ?_ ?_ ?_).mono ?_); (focus (exact own_rd_of OC.out rfl)); (focus (exact own_rd_of OD.out rfl)); (focus omega); (focus omega); go_must (rintro e wq ⟨rfl, hbq⟩; rw [decide_eq_true rfl]; (try (have hq1 := undrewQ hbq; clear hbq; have hbq := hq1; clear hq1)); (try (have hq1 := own_below_pt OA.out hbq; have OA := Lib.hid hq1; clear hq1)); (try (have hq1 := own_below_pt OB.out hbq; have OB := Lib.hid hq1; clear hq1)); (try (have hq1 := own_below_pt OC.out hbq; have OC := Lib.hid hq1; clear hq1)); (try (have hq1 := own_below_pt OD.out hbq; have OD := Lib.hid hq1; clear hq1)); (try (have hq1 := own_below_pt OE.out hbq; have OE := Lib.hid hq1; clear hq1)); (try (have hq1 := own_below_pt OF.out hbq; have OF := Lib.hid hq1; clear hq1)); have hq1 := HBc.out.trans (hbq.mono HBc.out.size); have HBc := Lib.hid hq1; clear hq1 hbq))
      | (go_at_call 20; (with_reducible refine (HNA.out _ ?_).mono ?_); (focus (first | exact HB6.out.trans (HBc.out.mono HB6.out.size) | exact HB6.out.trans ((below_drewN HBc.out _).mono HB6.out.size))); go_must (rintro e wq ⟨AE, cE, rfl, ho, hbq⟩; have hq0 := ho.lower (Nat.le_trans HB6.out.size HBc.out.size); (try (have hq1 := undrewQ hbq; clear hbq; have hbq := hq1; clear hq1)); (try (have hq1 := own_below_pt OA.out hbq; have OA := Lib.hid hq1; clear hq1)); (try (have hq1 := own_below_pt OB.out hbq; have OB := Lib.hid hq1; clear hq1)); (try (have hq1 := own_below_pt OC.out hbq; have OC := Lib.hid hq1; clear hq1)); (try (have hq1 := own_below_pt OD.out hbq; have OD := Lib.hid hq1; clear hq1)); (try (have hq1 := own_below_pt OE.out hbq; have OE := Lib.hid hq1; clear hq1)); (try (have hq1 := own_below_pt OF.out hbq; have OF := Lib.hid hq1; clear hq1)); have hq1 := HBc.out.trans (hbq.mono HBc.out.size); have HBc := Lib.hid hq1; clear hq1 hbq; have OE := Lib.hid hq0; clear hq0 ho))
      | (go_at_call 21; (with_reducible refine (HNB.out _ ?_).mono ?_); (focus (first | exact HB6.out.trans (HBc.out.mono HB6.out.size) | exact HB6.out.trans ((below_drewN HBc.out _).mono HB6.out.size))); go_must (rintro e wq ⟨AF, cF, rfl, ho, hbq⟩; have hq0 := ho.lower (Nat.le_trans HB6.out.size HBc.out.size); (try (have hq1 := undrewQ hbq; clear hbq; have hbq := hq1; clear hq1)); (try (have hq1 := own_below_pt OA.out hbq; have OA := Lib.hid hq1; clear hq1)); (try (have hq1 := own_below_pt OB.out hbq; have OB := Lib.hid hq1; clear hq1)); (try (have hq1 := own_below_pt OC.out hbq; have OC := Lib.hid hq1; clear hq1)); (try (have hq1 := own_below_pt OD.out hbq; have OD := Lib.hid hq1; clear hq1)); (try (have hq1 := own_below_pt OE.out hbq; have OE := Lib.hid hq1; clear hq1)); (try (have hq1 := own_below_pt OF.out hbq; have OF := Lib.hid hq1; clear hq1)); have hq1 := HBc.out.trans (hbq.mono HBc.out.size); have HBc := Lib.hid hq1; clear hq1 hbq; have OF := Lib.hid hq0; clear hq0 ho))
      | (go_at_call 10; (with_reducible refine (same_any AE AF cE cF mN mN _ ?_ ?_ ?_ ?_).mono ?_); (focus (exact own_rd_of OE.out rfl)); (focus (exact own_rd_of OF.out rfl)); (focus omega); (focus omega); go_must (rintro e wq ⟨rfl, hbq⟩; rw [decide_eq_true rfl]; (try (have hq1 := undrewQ hbq; clear hbq; have hbq := hq1; clear hq1)); (try (have hq1 := own_below_pt OA.out hbq; have OA := Lib.hid hq1; clear hq1)); (try (have hq1 := own_below_pt OB.out hbq; have OB := Lib.hid hq1; clear hq1)); (try (have hq1 := own_below_pt OC.out hbq; have OC := Lib.hid hq1; clear hq1)); (try (have hq1 := own_below_pt OD.out hbq; have OD := Lib.hid hq1; clear hq1)); (try (have hq1 := own_below_pt OE.out hbq; have OE := Lib.hid hq1; clear hq1)); (try (have hq1 := own_below_pt OF.out hbq; have OF := Lib.hid hq1; clear hq1)); have hq1 := HBc.out.trans (hbq.mono HBc.out.size); have HBc := Lib.hid hq1; clear hq1 hbq))
      | fail)
    all_goals
      cases is
      all_goals
        go_wp2
        go_ret
        exact ⟨rfl, by first | exact HBW.out.trans ((HB6.out.trans (HBc.out.mono HB6.out.size)).mono hsW) | exact below_drewN (HBW.out.trans ((HB6.out.trans (HBc.out.mono HB6.out.size)).mono hsW)) _⟩
  · rw [decide_eq_false la] at HFA
    go_enter Try.func4, Try.ntmps4
    go_wp2_with fail
    rw [← HW.out]
    go_wp2_with fail
    refine (HLV.out _).mono ?_
    rintro e w1 ⟨rfl, hb1⟩
    go_wp2_with fail
    refine (HFA.out _).mono ?_
    rintro e w2 ⟨rfl, rfl⟩
    go_wp2_with fail
    refine (HLV.out _).mono ?_
    rintro e w3 ⟨rfl, hb3⟩
    go_wp2
    go_ret
    exact ⟨rfl, HBW.out.trans ((hb1.trans (hb3.mono hb1.size)).mono hsW)⟩
end

set_option maxRecDepth 100000 in
theorem pointsParts_lifted (os : Os) (started : os.Started) (H : Type) (enc : TypeId × Value → H) :
    ReturnsInHanded {} Try.checked os 4 .any (Rows.pointsPartsSpec.pre6 enc Try.prog Try.f4 Rows.pointsPartsRow.domain false) (Rows.pointsPartsSpec.post enc Try.prog Try.f4 false true false false) := by
  refine returnsInHanded_of_change (C := Try.checked) ownKn started (by kernel_rfl) Try.func4
    (ChangeSpec.witness6 (enc := enc) (C := Try.checked) false ⟨#[], #[.slice none 0 0, .agg #[.int .i64 0, .int .i64 0, .int .i64 0, .int .u64 0, .int .u64 0, .int .u64 0]], []⟩ 8 (by kernel_rfl) (by kernel_rfl) (by kernel_rfl) (by kernel_rfl)) ?_
  intro W base args ds gs before hval0 hW hcnd _
  have hval : ∀ (j : Nat) t v, Try.f4.params[j]? = some t → args[j]? = some v → Value.okWide Try.prog W .any base t v := hval0
  have hW' := hW
  obtain ⟨p, q, hA0, hV, rfl, hfz, hnd⟩ := hW
  have hA : DataW.TrodAll enc Try.prog W 0 (fun _ => true) true Try.f4.params.toList args.toList ds p := hA0
  rw [Try.params4] at hA hval
  obtain ⟨v0, vs0, d0, ds0, p0, q0, hargs, rfl, rfl, h0, r0⟩ := trodAll_cons hA
  obtain ⟨v1, vs1, d1, ds1, p1, q1, rfl, rfl, rfl, h1, r1⟩ := trodAll_cons r0
  obtain ⟨rfl, rfl, rfl⟩ := trodAll_nil r1
  obtain rfl : args = #[v0, v1] := by cases args; simp_all
  obtain ⟨rfl, rfl⟩ := trodVars_none hV
  obtain ⟨A0, c0, l0, rfl, hm0, hx0⟩ := open_points (hval 0 22 v0 rfl rfl) h0
  obtain ⟨x1, rfl⟩ := open_ask (hval 1 37 v1 rfl rfl) h1
  clear hA0 hval0 hA
  unfold maxLen at hm0
  refine (pointsParts_walk A0 c0 l0 x1 W hx0).mono fun e W' ⟨he, hg⟩ => ?_
  subst he
  exact ⟨_, rfl, law_end laidOut (by kernel_rfl) (by kernel_rfl) Try.underlying4 rfl hW' ⟨rfl, rfl, rfl⟩ hg⟩

theorem pointsParts_holds : Rows.PointsPartsSaid :=
  OpenClaim.holds_of_wide 4 Try.f4 rfl rfl rfl rfl rfl rfl rfl ⟨rfl, rfl, rfl, rfl, rfl⟩ rfl rfl rfl rfl rfl (by kernel_rfl) Try.func4 (by kernel_rfl)
    (of_decide_eq_true (by kernel_rfl)) (by unfold Func.isWrapper; first | (rw [if_pos (by decide +kernel)]; kernel_rfl) | (rw [if_neg (by decide +kernel)]; exact ⟨rfl, rfl⟩))
    (fun os started H enc _ => pointsParts_lifted os started H enc)
#print axioms pointsParts_holds

end Go.Proofs.Ytfohmepjedehfab
