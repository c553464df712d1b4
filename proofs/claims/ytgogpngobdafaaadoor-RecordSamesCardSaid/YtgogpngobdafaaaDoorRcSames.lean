/-
  RecordSames (P13.1): for all records, whether they are the same is what the plain answers say. The condition is the library's two tables': they hold what their initialisers lay, which the card ties to the program's text.
-/
import Derived.Deep.RegionHeld3
import Derived.Test.YtgogpngobdafaaaDoorJl
import Derived.Test.YtgogpngobdafaaaDoorJh
namespace Go.Proofs.YtgogpngobdafaaaDoor
set_option linter.unusedVariables false
set_option linter.unusedSimpArgs false
open Go.ChangeShapes Go.WideShapes Go.ChangeAt Go.RowKit
theorem undrewJ2 {w w' : World} (h : RowKit.Below w.drew.heap.size w.drew w') : RowKit.Below w.heap.size w w' := ⟨h.os, h.tape, h.output, h.size, h.block⟩
theorem below_drewJ2 {B : Nat} {w w' : World} (h : RowKit.Below B w w') : RowKit.Below B w w'.drew := ⟨h.os, h.tape, h.output, h.size, h.block⟩
section
set_option maxHeartbeats 3200000
set_option maxRecDepth 100000
theorem rsames_walk (x y : Rv) (w : World) (hT : Tabs w) (hx : RvIn w x) (hy : RvIn w y) :
    Calls Tryd.prog 5 #[.agg (rvC x), .agg (rvC y)] w fun e w' => e = .returned (.bool true) ∧ Below w.heap.size w w' := by
  obtain ⟨w0, hw0⟩ : ∃ w0, w0 = (w.alloc (.cells (rvC x) 27)).alloc (.cells (rvC y) 27) := ⟨_, rfl⟩
  have hb0 : Below w.heap.size w w0 := by rw [hw0]; exact ((RowKit.Below.refl w.heap.size w).alloc (Nat.le_refl _) _).alloc (by simp) _
  have hbx : w0.heap[w.heap.size]? = some (.cells (rvC x) 27 (0, 0)) := by rw [hw0]; exact (Below.heap_alloc _ _ _ (by simp)).trans (heap_alloc_new w _)
  have hby : w0.heap[w.heap.size + 1]? = some (.cells (rvC y) 27 (0, 0)) := by rw [hw0]; exact heap_alloc_new2 w _ _
  have up : ∀ W, Below w0.heap.size w0 W → Below w.heap.size w W := fun W hb => hb0.trans (hb.mono hb0.size)
  have hlv := fun W (hb : Below w0.heap.size w0 W) => liveJ_any W (hT.below (up W hb))
  have hfa := fun W (hb : Below w0.heap.size w0 W) => fewJ_any x W (hx.is.below (up W hb)) hx.la.1
  have hfb := fun W (hb : Below w0.heap.size w0 W) => fewJ_any y W (hy.is.below (up W hb)) hy.la.1
  have hfta := @fewR_of x.p
  have hftb := @fewR_of y.p
  have hsb := fun (h1 : x.ls.length ≤ 1000000) h2 h3 h4 W (hb : Below w0.heap.size w0 W) => same13_any x y W (hx.is.below (up W hb)) (hy.is.below (up W hb)) h1 h2 h3 h4
  have hsa := fun (h1 : x.ls.length ≤ 1000000) h2 W (hb : Below w0.heap.size w0 W) => same13_any x x W (hx.is.below (up W hb)) (hx.is.below (up W hb)) h1 h2 h1 h2
  have hrs := fun (h1 : x.ls.length ≤ 1000000) h2 h3 h4 W (hb : Below w0.heap.size w0 W) => rsame13_any x y W (hx.is.below (up W hb)) (hy.is.below (up W hb)) h1 h2 h3 h4
  have hce : ∀ W, Below w0.heap.size w0 W → W.heap[w.heap.size]? = some (.cells (rvC x) 27 (0, 0)) ∧ W.heap[w.heap.size + 1]? = some (.cells (rvC y) 27 (0, 0)) := fun W hb => ⟨(hb.block _ (blk_lt hbx)).trans hbx, (hb.block _ (blk_lt hby)).trans hby⟩
  rw [(same_iff _ _).2 rfl] at hsa
  generalize sameR x.p y.p = s at hsb hrs
  generalize fewR x.p = qa at hfa hfta
  generalize fewR y.p = qb at hfb hftb
  obtain ⟨kd, r, A, ca, ls, B, cb, ps⟩ := x
  obtain ⟨kd', r', A', ca', ls', B', cb', ps'⟩ := y
  unfold rvC at *
  simp only at *
  have hce2 := fun W (hb : Below w0.heap.size w0 W) => show W.cell? ⟨w.heap.size, 0, none⟩ = some (.int .i64 kd) ∧ W.cell? ⟨w.heap.size, 1, none⟩ = some (.int .u32 (r : Nat)) ∧ W.cell? ⟨w.heap.size, 2, none⟩ = some (.slice A ls.length ca) ∧ W.cell? ⟨w.heap.size, 3, none⟩ = some (.slice B ps.length cb) ∧ W.cell? ⟨w.heap.size + 1, 0, none⟩ = some (.int .i64 kd') ∧ W.cell? ⟨w.heap.size + 1, 1, none⟩ = some (.int .u32 (r' : Nat)) ∧ W.cell? ⟨w.heap.size + 1, 2, none⟩ = some (.slice A' ls'.length ca') ∧ W.cell? ⟨w.heap.size + 1, 3, none⟩ = some (.slice B' ps'.length cb') from
    ⟨cell_blk (hce W hb).1 0, cell_blk (hce W hb).1 1, cell_blk (hce W hb).1 2, cell_blk (hce W hb).1 3, cell_blk (hce W hb).2 0, cell_blk (hce W hb).2 1, cell_blk (hce W hb).2 2, cell_blk (hce W hb).2 3⟩
  have HLV := Lib.hid hlv; have HFA := Lib.hid hfa; have HFB := Lib.hid hfb; have HSB0 := Lib.hid hsb; have HSA0 := Lib.hid hsa; have HRS0 := Lib.hid hrs; have HCE := Lib.hid hce2; have HFTA := Lib.hid hfta; have HFTB := Lib.hid hftb
  have HB0 := Lib.hid hb0; have HB := Lib.hid (RowKit.Below.refl w0.heap.size w0); have HW0 := Lib.hid hw0
  clear hlv hfa hfb hsb hsa hrs hce hce2 hfta hftb hb0 hw0 up hbx hby hx hy hT
  cases qa with
  | false =>
    clear HSB0 HSA0 HRS0 HFTA HFTB
    go_enter Tryd.func5, Tryd.ntmps5
    go_wp2_with fail
    rw [← HW0.out]
    refine wp_region_noPanic ?_
    refine wp_region_held_drew (S := fun W' => W'.cell? ⟨w.heap.size, 0, none⟩ = some (.int .i64 kd) ∧ W'.cell? ⟨w.heap.size, 1, none⟩ = some (.int .u32 (r : Nat)) ∧ W'.cell? ⟨w.heap.size, 2, none⟩ = some (.slice A ls.length ca) ∧ W'.cell? ⟨w.heap.size, 3, none⟩ = some (.slice B ps.length cb) ∧ W'.cell? ⟨w.heap.size + 1, 0, none⟩ = some (.int .i64 kd') ∧ W'.cell? ⟨w.heap.size + 1, 1, none⟩ = some (.int .u32 (r' : Nat)) ∧ W'.cell? ⟨w.heap.size + 1, 2, none⟩ = some (.slice A' ls'.length ca') ∧ W'.cell? ⟨w.heap.size + 1, 3, none⟩ = some (.slice B' ps'.length cb')) (by kernel_rfl) ?_ (fun hHeld => ?_)
    · try dsimp only
      (first | exact HCE.out _ HB.out | exact HCE.out _ (below_drewJ2 HB.out))
    refine wpAnyH_ready (rs := [0]) (by kernel_rfl) (by simp) ?_
    refine AllReadyH.cons (o := ⟨_, _, _, _, _, _⟩) rfl (fun K hK => ?_) AllReadyH.nil
    go_simp
    go_at_call 13; (with_reducible refine (HLV.out _ (by first | exact HB.out | exact below_drewJ2 HB.out)).mono ?_); rintro e wq ⟨rfl, hbq⟩; (try (have hq1 := undrewJ2 hbq; clear hbq; have hbq := hq1; clear hq1)); have hq2 := HB.out.trans (hbq.mono HB.out.size); have HB := Lib.hid hq2; clear hq2 hbq
    try (go_wp2_with fail)
    refine hK.out _ _ ?_ (fun hHeld => ?_)
    · try dsimp only
      (first | exact HCE.out _ HB.out | exact HCE.out _ (below_drewJ2 HB.out))
    clear hK K
    try simp only [Act.put, List.setIfInBounds_toArray, List.set_cons_zero, List.set_cons_succ]
    refine wpAnyH_take (i := 1) (oi := ⟨_, _, _, _, _, _⟩) (v := ?_) rfl (by kernel_rfl) (by kernel_rfl) (by kernel_rfl) (fun _ _ _ h => h) (Or.inl ⟨by rfl, ?_⟩) (by assumption) ?_
    rotate_left
    · intro w hSw; (try dsimp only at hSw); go_simp; try with_reducible rfl
    try simp only [Act.put, List.setIfInBounds_toArray, List.set_cons_zero, List.set_cons_succ]
    refine wpAnyH_take (i := 2) (oi := ⟨_, _, _, _, _, _⟩) (v := ?_) rfl (by kernel_rfl) (by kernel_rfl) (by kernel_rfl) (fun _ _ _ h => h) (Or.inl ⟨by rfl, ?_⟩) (by assumption) ?_
    rotate_left
    · intro w hSw; (try dsimp only at hSw); go_simp; try with_reducible rfl
    try simp only [Act.put, List.setIfInBounds_toArray, List.set_cons_zero, List.set_cons_succ]
    refine wpAnyH_ready (rs := [3]) (by kernel_rfl) (by simp) ?_
    refine AllReadyH.cons (o := ⟨_, _, _, _, _, _⟩) rfl (fun K hK => ?_) AllReadyH.nil
    go_simp
    go_at_call 14; (with_reducible refine (HFA.out _ (by first | exact HB.out | exact below_drewJ2 HB.out)).mono ?_); rintro e wq ⟨rfl, hbq⟩; (try (have hq1 := undrewJ2 hbq; clear hbq; have hbq := hq1; clear hq1)); have hq2 := HB.out.trans (hbq.mono HB.out.size); have HB := Lib.hid hq2; clear hq2 hbq
    try (go_wp2_with fail)
    refine hK.out _ _ ?_ (fun hHeld => ?_)
    · try dsimp only
      (first | exact HCE.out _ HB.out | exact HCE.out _ (below_drewJ2 HB.out))
    clear hK K
    try simp only [Act.put, List.setIfInBounds_toArray, List.set_cons_zero, List.set_cons_succ]
    refine wpAnyH_take (i := 4) (oi := ⟨_, _, _, _, _, _⟩) (v := ?_) rfl (by kernel_rfl) (by kernel_rfl) (by kernel_rfl) (fun _ _ _ h => h) (Or.inl ⟨by rfl, ?_⟩) (by assumption) ?_
    rotate_left
    · intro w hSw; (try dsimp only at hSw); go_simp; try with_reducible rfl
    try simp only [Act.put, List.setIfInBounds_toArray, List.set_cons_zero, List.set_cons_succ]
    refine wpAnyH_take (i := 5) (oi := ⟨_, _, _, _, _, _⟩) (v := ?_) rfl (by kernel_rfl) (by kernel_rfl) (by kernel_rfl) (fun _ _ _ h => h) (Or.inl ⟨by rfl, ?_⟩) (by assumption) ?_
    rotate_left
    · intro w hSw; (try dsimp only at hSw); go_simp; try with_reducible rfl
    try simp only [Act.put, List.setIfInBounds_toArray, List.set_cons_zero, List.set_cons_succ]
    refine wpAnyH_take (i := 6) (oi := ⟨_, _, _, _, _, _⟩) rfl (by kernel_rfl) (by kernel_rfl) (by kernel_rfl) (fun _ _ _ h => h) (Or.inr ⟨by rfl, rfl⟩) (by assumption) ?_
    try simp only [Act.put, List.setIfInBounds_toArray, List.set_cons_zero, List.set_cons_succ]
    refine wpAnyH_take (i := 7) (oi := ⟨_, _, _, _, _, _⟩) rfl (by kernel_rfl) (by kernel_rfl) (by kernel_rfl) (fun _ _ _ h => h) (Or.inr ⟨by rfl, rfl⟩) (by assumption) ?_
    try simp only [Act.put, List.setIfInBounds_toArray, List.set_cons_zero, List.set_cons_succ]
    refine wpAnyH_take (i := 8) (oi := ⟨_, _, _, _, _, _⟩) rfl (by kernel_rfl) (by kernel_rfl) (by kernel_rfl) (fun _ _ _ h => h) (Or.inr ⟨by rfl, rfl⟩) (by assumption) ?_
    try simp only [Act.put, List.setIfInBounds_toArray, List.set_cons_zero, List.set_cons_succ]
    refine wpAnyH_take (i := 9) (oi := ⟨_, _, _, _, _, _⟩) (v := ?_) rfl (by kernel_rfl) (by kernel_rfl) (by kernel_rfl) (fun _ _ _ h => h) (Or.inl ⟨by rfl, ?_⟩) (by assumption) ?_
    rotate_left
    · intro w hSw; (try dsimp only at hSw); go_simp; try with_reducible rfl
    try simp only [Act.put, List.setIfInBounds_toArray, List.set_cons_zero, List.set_cons_succ]
    refine wpAnyH_take (i := 10) (oi := ⟨_, _, _, _, _, _⟩) (v := ?_) rfl (by kernel_rfl) (by kernel_rfl) (by kernel_rfl) (fun _ _ _ h => h) (Or.inl ⟨by rfl, ?_⟩) (by assumption) ?_
    rotate_left
    · intro w hSw; (try dsimp only at hSw); go_simp; try with_reducible rfl
    try simp only [Act.put, List.setIfInBounds_toArray, List.set_cons_zero, List.set_cons_succ]
    refine wpAnyH_take (i := 11) (oi := ⟨_, _, _, _, _, _⟩) rfl (by kernel_rfl) (by kernel_rfl) (by kernel_rfl) (fun _ _ _ h => h) (Or.inr ⟨by rfl, rfl⟩) (by assumption) ?_
    try simp only [Act.put, List.setIfInBounds_toArray, List.set_cons_zero, List.set_cons_succ]
    refine wpAnyH_take (i := 12) (oi := ⟨_, _, _, _, _, _⟩) rfl (by kernel_rfl) (by kernel_rfl) (by kernel_rfl) (fun _ _ _ h => h) (Or.inr ⟨by rfl, rfl⟩) (by assumption) ?_
    try simp only [Act.put, List.setIfInBounds_toArray, List.set_cons_zero, List.set_cons_succ]
    refine wpAnyH_take (i := 13) (oi := ⟨_, _, _, _, _, _⟩) rfl (by kernel_rfl) (by kernel_rfl) (by kernel_rfl) (fun _ _ _ h => h) (Or.inr ⟨by rfl, rfl⟩) (by assumption) ?_
    try simp only [Act.put, List.setIfInBounds_toArray, List.set_cons_zero, List.set_cons_succ]
    refine wpAnyH_take (i := 14) (oi := ⟨_, _, _, _, _, _⟩) rfl (by kernel_rfl) (by kernel_rfl) (by kernel_rfl) (fun _ _ _ h => h) (Or.inr ⟨by rfl, rfl⟩) (by assumption) ?_
    try simp only [Act.put, List.setIfInBounds_toArray, List.set_cons_zero, List.set_cons_succ]
    refine wpAnyH_take (i := 15) (oi := ⟨_, _, _, _, _, _⟩) rfl (by kernel_rfl) (by kernel_rfl) (by kernel_rfl) (fun _ _ _ h => h) (Or.inr ⟨by rfl, rfl⟩) (by assumption) ?_
    try simp only [Act.put, List.setIfInBounds_toArray, List.set_cons_zero, List.set_cons_succ]
    refine wpAnyH_take (i := 16) (oi := ⟨_, _, _, _, _, _⟩) rfl (by kernel_rfl) (by kernel_rfl) (by kernel_rfl) (fun _ _ _ h => h) (Or.inr ⟨by rfl, rfl⟩) (by assumption) ?_
    try simp only [Act.put, List.setIfInBounds_toArray, List.set_cons_zero, List.set_cons_succ]
    refine wpAnyH_take (i := 17) (oi := ⟨_, _, _, _, _, _⟩) rfl (by kernel_rfl) (by kernel_rfl) (by kernel_rfl) (fun _ _ _ h => h) (Or.inr ⟨by rfl, rfl⟩) (by assumption) ?_
    try simp only [Act.put, List.setIfInBounds_toArray, List.set_cons_zero, List.set_cons_succ]
    refine wpAnyH_take (i := 18) (oi := ⟨_, _, _, _, _, _⟩) rfl (by kernel_rfl) (by kernel_rfl) (by kernel_rfl) (fun _ _ _ h => h) (Or.inr ⟨by rfl, rfl⟩) (by assumption) ?_
    try simp only [Act.put, List.setIfInBounds_toArray, List.set_cons_zero, List.set_cons_succ]
    refine wpAnyH_take (i := 19) (oi := ⟨_, _, _, _, _, _⟩) rfl (by kernel_rfl) (by kernel_rfl) (by kernel_rfl) (fun _ _ _ h => h) (Or.inr ⟨by rfl, rfl⟩) (by assumption) ?_
    try simp only [Act.put, List.setIfInBounds_toArray, List.set_cons_zero, List.set_cons_succ]
    refine wpAnyH_take (i := 20) (oi := ⟨_, _, _, _, _, _⟩) rfl (by kernel_rfl) (by kernel_rfl) (by kernel_rfl) (fun _ _ _ h => h) (Or.inr ⟨by rfl, rfl⟩) (by assumption) ?_
    try simp only [Act.put, List.setIfInBounds_toArray, List.set_cons_zero, List.set_cons_succ]
    refine wpAnyH_take (i := 21) (oi := ⟨_, _, _, _, _, _⟩) rfl (by kernel_rfl) (by kernel_rfl) (by kernel_rfl) (fun _ _ _ h => h) (Or.inr ⟨by rfl, rfl⟩) (by assumption) ?_
    try simp only [Act.put, List.setIfInBounds_toArray, List.set_cons_zero, List.set_cons_succ]
    refine wpAnyH_take (i := 22) (oi := ⟨_, _, _, _, _, _⟩) rfl (by kernel_rfl) (by kernel_rfl) (by kernel_rfl) (fun _ _ _ h => h) (Or.inr ⟨by rfl, rfl⟩) (by assumption) ?_
    try simp only [Act.put, List.setIfInBounds_toArray, List.set_cons_zero, List.set_cons_succ]
    refine wpAnyH_take (i := 23) (oi := ⟨_, _, _, _, _, _⟩) (v := ?_) rfl (by kernel_rfl) (by kernel_rfl) (by kernel_rfl) (fun _ _ _ h => h) (Or.inl ⟨by rfl, ?_⟩) (by assumption) ?_
    rotate_left
    · intro w hSw; (try dsimp only at hSw); go_simp; try with_reducible rfl
    try simp only [Act.put, List.setIfInBounds_toArray, List.set_cons_zero, List.set_cons_succ]
    refine wpAnyH_take (i := 24) (oi := ⟨_, _, _, _, _, _⟩) (v := ?_) rfl (by kernel_rfl) (by kernel_rfl) (by kernel_rfl) (fun _ _ _ h => h) (Or.inl ⟨by rfl, ?_⟩) (by assumption) ?_
    rotate_left
    · intro w hSw; (try dsimp only at hSw); go_simp; try with_reducible rfl
    try simp only [Act.put, List.setIfInBounds_toArray, List.set_cons_zero, List.set_cons_succ]
    refine wpAnyH_ready (rs := [25]) (by kernel_rfl) (by simp) ?_
    refine AllReadyH.cons (o := ⟨_, _, _, _, _, _⟩) rfl (fun K hK => ?_) AllReadyH.nil
    go_simp
    refine hK.out _ _ ?_ (fun hHeld => ?_)
    · try dsimp only
      (first | exact HCE.out _ HB.out | exact HCE.out _ (below_drewJ2 HB.out))
    clear hK K
    try simp only [Act.put, List.setIfInBounds_toArray, List.set_cons_zero, List.set_cons_succ]
    refine wpAnyH_done (by kernel_rfl) ?_ _
    refine NoPanic.normal ?_
    all_goals
      go_wp2
      go_ret
      first
        | exact ⟨by simp, HB0.out.trans (HB.out.mono HB0.out.size)⟩
        | exact ⟨rfl, HB0.out.trans (HB.out.mono HB0.out.size)⟩
        | exact ⟨rfl, HB0.out.trans ((below_drewJ2 HB.out).mono HB0.out.size)⟩
  | true =>
    obtain ⟨-, a1, a2⟩ := HFTA.out rfl
    cases qb with
    | false =>
      clear HSB0 HSA0 HRS0 HFTA HFTB
      go_enter Tryd.func5, Tryd.ntmps5
      go_wp2_with fail
      rw [← HW0.out]
      refine wp_region_noPanic ?_
      refine wp_region_held_drew (S := fun W' => W'.cell? ⟨w.heap.size, 0, none⟩ = some (.int .i64 kd) ∧ W'.cell? ⟨w.heap.size, 1, none⟩ = some (.int .u32 (r : Nat)) ∧ W'.cell? ⟨w.heap.size, 2, none⟩ = some (.slice A ls.length ca) ∧ W'.cell? ⟨w.heap.size, 3, none⟩ = some (.slice B ps.length cb) ∧ W'.cell? ⟨w.heap.size + 1, 0, none⟩ = some (.int .i64 kd') ∧ W'.cell? ⟨w.heap.size + 1, 1, none⟩ = some (.int .u32 (r' : Nat)) ∧ W'.cell? ⟨w.heap.size + 1, 2, none⟩ = some (.slice A' ls'.length ca') ∧ W'.cell? ⟨w.heap.size + 1, 3, none⟩ = some (.slice B' ps'.length cb')) (by kernel_rfl) ?_ (fun hHeld => ?_)
      · try dsimp only
        (first | exact HCE.out _ HB.out | exact HCE.out _ (below_drewJ2 HB.out))
      refine wpAnyH_ready (rs := [0]) (by kernel_rfl) (by simp) ?_
      refine AllReadyH.cons (o := ⟨_, _, _, _, _, _⟩) rfl (fun K hK => ?_) AllReadyH.nil
      go_simp
      go_at_call 13; (with_reducible refine (HLV.out _ (by first | exact HB.out | exact below_drewJ2 HB.out)).mono ?_); rintro e wq ⟨rfl, hbq⟩; (try (have hq1 := undrewJ2 hbq; clear hbq; have hbq := hq1; clear hq1)); have hq2 := HB.out.trans (hbq.mono HB.out.size); have HB := Lib.hid hq2; clear hq2 hbq
      try (go_wp2_with fail)
      refine hK.out _ _ ?_ (fun hHeld => ?_)
      · try dsimp only
        (first | exact HCE.out _ HB.out | exact HCE.out _ (below_drewJ2 HB.out))
      clear hK K
      try simp only [Act.put, List.setIfInBounds_toArray, List.set_cons_zero, List.set_cons_succ]
      refine wpAnyH_take (i := 1) (oi := ⟨_, _, _, _, _, _⟩) (v := ?_) rfl (by kernel_rfl) (by kernel_rfl) (by kernel_rfl) (fun _ _ _ h => h) (Or.inl ⟨by rfl, ?_⟩) (by assumption) ?_
      rotate_left
      · intro w hSw; (try dsimp only at hSw); go_simp; try with_reducible rfl
      try simp only [Act.put, List.setIfInBounds_toArray, List.set_cons_zero, List.set_cons_succ]
      refine wpAnyH_take (i := 2) (oi := ⟨_, _, _, _, _, _⟩) (v := ?_) rfl (by kernel_rfl) (by kernel_rfl) (by kernel_rfl) (fun _ _ _ h => h) (Or.inl ⟨by rfl, ?_⟩) (by assumption) ?_
      rotate_left
      · intro w hSw; (try dsimp only at hSw); go_simp; try with_reducible rfl
      try simp only [Act.put, List.setIfInBounds_toArray, List.set_cons_zero, List.set_cons_succ]
      refine wpAnyH_ready (rs := [3]) (by kernel_rfl) (by simp) ?_
      refine AllReadyH.cons (o := ⟨_, _, _, _, _, _⟩) rfl (fun K hK => ?_) AllReadyH.nil
      go_simp
      go_at_call 14; (with_reducible refine (HFA.out _ (by first | exact HB.out | exact below_drewJ2 HB.out)).mono ?_); rintro e wq ⟨rfl, hbq⟩; (try (have hq1 := undrewJ2 hbq; clear hbq; have hbq := hq1; clear hq1)); have hq2 := HB.out.trans (hbq.mono HB.out.size); have HB := Lib.hid hq2; clear hq2 hbq
      try (go_wp2_with fail)
      refine hK.out _ _ ?_ (fun hHeld => ?_)
      · try dsimp only
        (first | exact HCE.out _ HB.out | exact HCE.out _ (below_drewJ2 HB.out))
      clear hK K
      try simp only [Act.put, List.setIfInBounds_toArray, List.set_cons_zero, List.set_cons_succ]
      refine wpAnyH_take (i := 4) (oi := ⟨_, _, _, _, _, _⟩) (v := ?_) rfl (by kernel_rfl) (by kernel_rfl) (by kernel_rfl) (fun _ _ _ h => h) (Or.inl ⟨by rfl, ?_⟩) (by assumption) ?_
      rotate_left
      · intro w hSw; (try dsimp only at hSw); go_simp; try with_reducible rfl
      try simp only [Act.put, List.setIfInBounds_toArray, List.set_cons_zero, List.set_cons_succ]
      refine wpAnyH_take (i := 5) (oi := ⟨_, _, _, _, _, _⟩) (v := ?_) rfl (by kernel_rfl) (by kernel_rfl) (by kernel_rfl) (fun _ _ _ h => h) (Or.inl ⟨by rfl, ?_⟩) (by assumption) ?_
      rotate_left
      · intro w hSw; (try dsimp only at hSw); go_simp; try with_reducible rfl
      try simp only [Act.put, List.setIfInBounds_toArray, List.set_cons_zero, List.set_cons_succ]
      refine wpAnyH_take (i := 6) (oi := ⟨_, _, _, _, _, _⟩) (v := ?_) rfl (by kernel_rfl) (by kernel_rfl) (by kernel_rfl) (fun _ _ _ h => h) (Or.inl ⟨by rfl, ?_⟩) (by assumption) ?_
      rotate_left
      · intro w hSw; (try dsimp only at hSw); go_simp; try with_reducible rfl
      try simp only [Act.put, List.setIfInBounds_toArray, List.set_cons_zero, List.set_cons_succ]
      refine wpAnyH_ready (rs := [7]) (by kernel_rfl) (by simp) ?_
      refine AllReadyH.cons (o := ⟨_, _, _, _, _, _⟩) rfl (fun K hK => ?_) AllReadyH.nil
      go_simp
      go_at_call 14; (with_reducible refine (HFB.out _ (by first | exact HB.out | exact below_drewJ2 HB.out)).mono ?_); rintro e wq ⟨rfl, hbq⟩; (try (have hq1 := undrewJ2 hbq; clear hbq; have hbq := hq1; clear hq1)); have hq2 := HB.out.trans (hbq.mono HB.out.size); have HB := Lib.hid hq2; clear hq2 hbq
      try (go_wp2_with fail)
      refine hK.out _ _ ?_ (fun hHeld => ?_)
      · try dsimp only
        (first | exact HCE.out _ HB.out | exact HCE.out _ (below_drewJ2 HB.out))
      clear hK K
      try simp only [Act.put, List.setIfInBounds_toArray, List.set_cons_zero, List.set_cons_succ]
      refine wpAnyH_take (i := 8) (oi := ⟨_, _, _, _, _, _⟩) (v := ?_) rfl (by kernel_rfl) (by kernel_rfl) (by kernel_rfl) (fun _ _ _ h => h) (Or.inl ⟨by rfl, ?_⟩) (by assumption) ?_
      rotate_left
      · intro w hSw; (try dsimp only at hSw); go_simp; try with_reducible rfl
      try simp only [Act.put, List.setIfInBounds_toArray, List.set_cons_zero, List.set_cons_succ]
      refine wpAnyH_take (i := 9) (oi := ⟨_, _, _, _, _, _⟩) (v := ?_) rfl (by kernel_rfl) (by kernel_rfl) (by kernel_rfl) (fun _ _ _ h => h) (Or.inl ⟨by rfl, ?_⟩) (by assumption) ?_
      rotate_left
      · intro w hSw; (try dsimp only at hSw); go_simp; try with_reducible rfl
      try simp only [Act.put, List.setIfInBounds_toArray, List.set_cons_zero, List.set_cons_succ]
      refine wpAnyH_take (i := 10) (oi := ⟨_, _, _, _, _, _⟩) (v := ?_) rfl (by kernel_rfl) (by kernel_rfl) (by kernel_rfl) (fun _ _ _ h => h) (Or.inl ⟨by rfl, ?_⟩) (by assumption) ?_
      rotate_left
      · intro w hSw; (try dsimp only at hSw); go_simp; try with_reducible rfl
      try simp only [Act.put, List.setIfInBounds_toArray, List.set_cons_zero, List.set_cons_succ]
      refine wpAnyH_take (i := 11) (oi := ⟨_, _, _, _, _, _⟩) rfl (by kernel_rfl) (by kernel_rfl) (by kernel_rfl) (fun _ _ _ h => h) (Or.inr ⟨by rfl, rfl⟩) (by assumption) ?_
      try simp only [Act.put, List.setIfInBounds_toArray, List.set_cons_zero, List.set_cons_succ]
      refine wpAnyH_take (i := 12) (oi := ⟨_, _, _, _, _, _⟩) rfl (by kernel_rfl) (by kernel_rfl) (by kernel_rfl) (fun _ _ _ h => h) (Or.inr ⟨by rfl, rfl⟩) (by assumption) ?_
      try simp only [Act.put, List.setIfInBounds_toArray, List.set_cons_zero, List.set_cons_succ]
      refine wpAnyH_take (i := 13) (oi := ⟨_, _, _, _, _, _⟩) rfl (by kernel_rfl) (by kernel_rfl) (by kernel_rfl) (fun _ _ _ h => h) (Or.inr ⟨by rfl, rfl⟩) (by assumption) ?_
      try simp only [Act.put, List.setIfInBounds_toArray, List.set_cons_zero, List.set_cons_succ]
      refine wpAnyH_take (i := 14) (oi := ⟨_, _, _, _, _, _⟩) rfl (by kernel_rfl) (by kernel_rfl) (by kernel_rfl) (fun _ _ _ h => h) (Or.inr ⟨by rfl, rfl⟩) (by assumption) ?_
      try simp only [Act.put, List.setIfInBounds_toArray, List.set_cons_zero, List.set_cons_succ]
      refine wpAnyH_take (i := 15) (oi := ⟨_, _, _, _, _, _⟩) rfl (by kernel_rfl) (by kernel_rfl) (by kernel_rfl) (fun _ _ _ h => h) (Or.inr ⟨by rfl, rfl⟩) (by assumption) ?_
      try simp only [Act.put, List.setIfInBounds_toArray, List.set_cons_zero, List.set_cons_succ]
      refine wpAnyH_take (i := 16) (oi := ⟨_, _, _, _, _, _⟩) rfl (by kernel_rfl) (by kernel_rfl) (by kernel_rfl) (fun _ _ _ h => h) (Or.inr ⟨by rfl, rfl⟩) (by assumption) ?_
      try simp only [Act.put, List.setIfInBounds_toArray, List.set_cons_zero, List.set_cons_succ]
      refine wpAnyH_take (i := 17) (oi := ⟨_, _, _, _, _, _⟩) rfl (by kernel_rfl) (by kernel_rfl) (by kernel_rfl) (fun _ _ _ h => h) (Or.inr ⟨by rfl, rfl⟩) (by assumption) ?_
      try simp only [Act.put, List.setIfInBounds_toArray, List.set_cons_zero, List.set_cons_succ]
      refine wpAnyH_take (i := 18) (oi := ⟨_, _, _, _, _, _⟩) rfl (by kernel_rfl) (by kernel_rfl) (by kernel_rfl) (fun _ _ _ h => h) (Or.inr ⟨by rfl, rfl⟩) (by assumption) ?_
      try simp only [Act.put, List.setIfInBounds_toArray, List.set_cons_zero, List.set_cons_succ]
      refine wpAnyH_take (i := 19) (oi := ⟨_, _, _, _, _, _⟩) rfl (by kernel_rfl) (by kernel_rfl) (by kernel_rfl) (fun _ _ _ h => h) (Or.inr ⟨by rfl, rfl⟩) (by assumption) ?_
      try simp only [Act.put, List.setIfInBounds_toArray, List.set_cons_zero, List.set_cons_succ]
      refine wpAnyH_take (i := 20) (oi := ⟨_, _, _, _, _, _⟩) rfl (by kernel_rfl) (by kernel_rfl) (by kernel_rfl) (fun _ _ _ h => h) (Or.inr ⟨by rfl, rfl⟩) (by assumption) ?_
      try simp only [Act.put, List.setIfInBounds_toArray, List.set_cons_zero, List.set_cons_succ]
      refine wpAnyH_take (i := 21) (oi := ⟨_, _, _, _, _, _⟩) rfl (by kernel_rfl) (by kernel_rfl) (by kernel_rfl) (fun _ _ _ h => h) (Or.inr ⟨by rfl, rfl⟩) (by assumption) ?_
      try simp only [Act.put, List.setIfInBounds_toArray, List.set_cons_zero, List.set_cons_succ]
      refine wpAnyH_take (i := 22) (oi := ⟨_, _, _, _, _, _⟩) rfl (by kernel_rfl) (by kernel_rfl) (by kernel_rfl) (fun _ _ _ h => h) (Or.inr ⟨by rfl, rfl⟩) (by assumption) ?_
      try simp only [Act.put, List.setIfInBounds_toArray, List.set_cons_zero, List.set_cons_succ]
      refine wpAnyH_take (i := 23) (oi := ⟨_, _, _, _, _, _⟩) (v := ?_) rfl (by kernel_rfl) (by kernel_rfl) (by kernel_rfl) (fun _ _ _ h => h) (Or.inl ⟨by rfl, ?_⟩) (by assumption) ?_
      rotate_left
      · intro w hSw; (try dsimp only at hSw); go_simp; try with_reducible rfl
      try simp only [Act.put, List.setIfInBounds_toArray, List.set_cons_zero, List.set_cons_succ]
      refine wpAnyH_take (i := 24) (oi := ⟨_, _, _, _, _, _⟩) (v := ?_) rfl (by kernel_rfl) (by kernel_rfl) (by kernel_rfl) (fun _ _ _ h => h) (Or.inl ⟨by rfl, ?_⟩) (by assumption) ?_
      rotate_left
      · intro w hSw; (try dsimp only at hSw); go_simp; try with_reducible rfl
      try simp only [Act.put, List.setIfInBounds_toArray, List.set_cons_zero, List.set_cons_succ]
      refine wpAnyH_ready (rs := [25]) (by kernel_rfl) (by simp) ?_
      refine AllReadyH.cons (o := ⟨_, _, _, _, _, _⟩) rfl (fun K hK => ?_) AllReadyH.nil
      go_simp
      refine hK.out _ _ ?_ (fun hHeld => ?_)
      · try dsimp only
        (first | exact HCE.out _ HB.out | exact HCE.out _ (below_drewJ2 HB.out))
      clear hK K
      try simp only [Act.put, List.setIfInBounds_toArray, List.set_cons_zero, List.set_cons_succ]
      refine wpAnyH_done (by kernel_rfl) ?_ _
      refine NoPanic.normal ?_
      all_goals
        go_wp2
        go_ret
        first
          | exact ⟨by simp, HB0.out.trans (HB.out.mono HB0.out.size)⟩
          | exact ⟨rfl, HB0.out.trans (HB.out.mono HB0.out.size)⟩
          | exact ⟨rfl, HB0.out.trans ((below_drewJ2 HB.out).mono HB0.out.size)⟩
    | true =>
      obtain ⟨-, b1, b2⟩ := HFTB.out rfl
      have a1' : ls.length ≤ 1000000 := by have : ls.length ≤ 40 := a1; omega
      have a2' : ps.length ≤ 1000000 := by have : ps.length ≤ 400 := a2; omega
      have b1' : ls'.length ≤ 1000000 := by have : ls'.length ≤ 40 := b1; omega
      have b2' : ps'.length ≤ 1000000 := by have : ps'.length ≤ 400 := b2; omega
      have HSB := Lib.hid (HSB0.out a1' a2' b1' b2'); have HSA := Lib.hid (HSA0.out a1' a2'); have HRS := Lib.hid (HRS0.out a1' a2' b1' b2')
      clear HSB0 HSA0 HRS0 HFTA HFTB a1 a2 b1 b2 a1' a2' b1' b2'
      cases s
      all_goals
        go_enter Tryd.func5, Tryd.ntmps5
        go_wp2_with fail
        rw [← HW0.out]
        go_region_held3 (fun W' => W'.cell? ⟨w.heap.size, 0, none⟩ = some (.int .i64 kd) ∧ W'.cell? ⟨w.heap.size, 1, none⟩ = some (.int .u32 (r : Nat)) ∧ W'.cell? ⟨w.heap.size, 2, none⟩ = some (.slice A ls.length ca) ∧ W'.cell? ⟨w.heap.size, 3, none⟩ = some (.slice B ps.length cb) ∧ W'.cell? ⟨w.heap.size + 1, 0, none⟩ = some (.int .i64 kd') ∧ W'.cell? ⟨w.heap.size + 1, 1, none⟩ = some (.int .u32 (r' : Nat)) ∧ W'.cell? ⟨w.heap.size + 1, 2, none⟩ = some (.slice A' ls'.length ca') ∧ W'.cell? ⟨w.heap.size + 1, 3, none⟩ = some (.slice B' ps'.length cb')) (first | exact HCE.out _ HB.out | exact HCE.out _ (below_drewJ2 HB.out)) (first
                  | (go_at_call 13; first
                      | ((with_reducible refine (HLV.out _ (by first | exact HB.out | exact below_drewJ2 HB.out)).mono ?_); rintro e wq ⟨rfl, hbq⟩; (try (have hq1 := undrewJ2 hbq; clear hbq; have hbq := hq1; clear hq1)); have hq2 := HB.out.trans (hbq.mono HB.out.size); have HB := Lib.hid hq2; clear hq2 hbq)
                      | fail)
                  | (go_at_call 14; first
                      | ((with_reducible refine (HFA.out _ (by first | exact HB.out | exact below_drewJ2 HB.out)).mono ?_); rintro e wq ⟨rfl, hbq⟩; (try (have hq1 := undrewJ2 hbq; clear hbq; have hbq := hq1; clear hq1)); have hq2 := HB.out.trans (hbq.mono HB.out.size); have HB := Lib.hid hq2; clear hq2 hbq)
                      | ((with_reducible refine (HFB.out _ (by first | exact HB.out | exact below_drewJ2 HB.out)).mono ?_); rintro e wq ⟨rfl, hbq⟩; (try (have hq1 := undrewJ2 hbq; clear hbq; have hbq := hq1; clear hq1)); have hq2 := HB.out.trans (hbq.mono HB.out.size); have HB := Lib.hid hq2; clear hq2 hbq)
                      | fail)
                  | (go_at_call 24; first
                      | ((with_reducible refine (HSB.out _ (by first | exact HB.out | exact below_drewJ2 HB.out)).mono ?_); rintro e wq ⟨rfl, hbq⟩; (try (have hq1 := undrewJ2 hbq; clear hbq; have hbq := hq1; clear hq1)); have hq2 := HB.out.trans (hbq.mono HB.out.size); have HB := Lib.hid hq2; clear hq2 hbq)
                      | ((with_reducible refine (HSA.out _ (by first | exact HB.out | exact below_drewJ2 HB.out)).mono ?_); rintro e wq ⟨rfl, hbq⟩; (try (have hq1 := undrewJ2 hbq; clear hbq; have hbq := hq1; clear hq1)); have hq2 := HB.out.trans (hbq.mono HB.out.size); have HB := Lib.hid hq2; clear hq2 hbq)
                      | fail)
                  | (go_at_call 23; first
                      | ((with_reducible refine (HRS.out _ (by first | exact HB.out | exact below_drewJ2 HB.out)).mono ?_); rintro e wq ⟨rfl, hbq⟩; (try (have hq1 := undrewJ2 hbq; clear hbq; have hbq := hq1; clear hq1)); have hq2 := HB.out.trans (hbq.mono HB.out.size); have HB := Lib.hid hq2; clear hq2 hbq)
                      | fail)
                  | fail)
        all_goals
          go_wp2
          go_ret
          first
            | exact ⟨by simp, HB0.out.trans (HB.out.mono HB0.out.size)⟩
            | exact ⟨rfl, HB0.out.trans (HB.out.mono HB0.out.size)⟩
            | exact ⟨rfl, HB0.out.trans ((below_drewJ2 HB.out).mono HB0.out.size)⟩
end

set_option maxRecDepth 100000 in
theorem recordSames_contract (H : Type) (enc : TypeId × Value → H) (W : World) (base : Nat) (args : Array Value) (ds gs : List (DataW H)) (before : List MemPlace)
    (hval : ∀ (j : Nat) t v, Tryd.f5.params[j]? = some t → args[j]? = some v → Value.okWide Tryd.prog W .any base t v)
    (hW : DataW.Whole enc Tryd.prog Tryd.f5.params.toList Rows.recordSamesSpec.vars false W args.toList ds gs before) (hL : laidMetH Tryd.prog Rows.recordSamesRow.laid W) :
    Calls Tryd.prog 5 args W fun e W' => ∃ v, e = .returned v ∧ Rows.recordSamesSpec.post enc Tryd.prog Tryd.f5 false true false false W args v W' := by
  have hW' := hW
  obtain ⟨p, q, hA0, hV, rfl, hfz, hnd⟩ := hW
  have hA : DataW.TrodAll enc Tryd.prog W 0 (fun _ => true) true Tryd.f5.params.toList args.toList ds p := hA0
  rw [Tryd.params5] at hA hval
  obtain ⟨v0, vs0, d0, ds0, p0, q0, hargs, rfl, rfl, h0, r0⟩ := trodAll_cons hA
  obtain ⟨v1, vs1, d1, ds1, p1, q1, rfl, rfl, rfl, h1, r1⟩ := trodAll_cons r0
  obtain ⟨rfl, rfl, rfl⟩ := trodAll_nil r1
  obtain rfl : args = #[v0, v1] := by cases args; simp_all
  obtain ⟨rfl, rfl⟩ := trodVars_none hV
  obtain ⟨x0, rfl, hx0⟩ := open_record (hval 0 27 v0 rfl rfl) h0
  obtain ⟨x1, rfl, hx1⟩ := open_record (hval 1 27 v1 rfl rfl) h1
  clear hA0 hA
  refine (rsames_walk x0 x1 W (tabs hL) hx0 hx1).mono fun e W' ⟨he, hg⟩ => ?_
  subst he
  exact ⟨_, rfl, law_end laidOut (by kernel_rfl) (by kernel_rfl) Tryd.underlying4 rfl hW' ⟨rfl, rfl, rfl⟩ hg⟩

theorem recordSames_met (os : Os) : laidMet Tryd.prog Rows.recordSamesRow.laid ((laidWorld os).forCall (fun _ _ => 0) ⟨#[], #[.agg #[.int .i64 0, .int .u32 0, .slice none 0 0, .slice none 0 0], .agg #[.int .i64 0, .int .u32 0, .slice none 0 0, .slice none 0 0]], []⟩).memory :=
  laid_met os _
theorem recordSames_reads (os : Os) {H : Type} (enc : TypeId × Value → H) : ∃ places, DataW.whole enc Tryd.prog ((laidWorld os).forCall (fun _ _ => 0) ⟨#[], #[.agg #[.int .i64 0, .int .u32 0, .slice none 0 0, .slice none 0 0], .agg #[.int .i64 0, .int .u32 0, .slice none 0 0, .slice none 0 0]], []⟩).memory Tryd.f5.params.toList Rows.recordSamesSpec.vars false (#[.agg #[.int .i64 0, .int .u32 0, .slice none 0 0, .slice none 0 0], .agg #[.int .i64 0, .int .u32 0, .slice none 0 0, .slice none 0 0]] : Array Value).toList 8 = some ([.agg [.lit (.int .i64 0), .lit (.int .u32 0), .nil, .nil], .agg [.lit (.int .i64 0), .lit (.int .u32 0), .nil, .nil]], [], places) :=
  ⟨[], by kernel_rfl⟩

set_option maxRecDepth 100000 in
theorem recordSames_lifted (os : Os) (started : os.Started) (H : Type) (enc : TypeId × Value → H) (F : Stop.Interp) :
    ReturnsInHanded {} Tryd.checked os 5 .any ((OpenSpec.ofChange Rows.recordSamesSpec).preRow enc Tryd.prog Tryd.f5 Rows.recordSamesRow.domain false Rows.recordSamesRow.laid) (((OpenSpec.ofChange Rows.recordSamesSpec).at F).post enc Tryd.prog Tryd.f5 false true false false) := by
  obtain ⟨places, hx⟩ := recordSames_reads os enc
  refine returnsInHanded_of_row (C := Tryd.checked) (s := OpenSpec.ofChange Rows.recordSamesSpec) ownKn started (by kernel_rfl) Tryd.func5
    (witness_row_at (enc := enc) (C := Tryd.checked) false (laidWorld os) #[.agg #[.int .i64 0, .int .u32 0, .slice none 0 0, .slice none 0 0], .agg #[.int .i64 0, .int .u32 0, .slice none 0 0, .slice none 0 0]] rfl (by kernel_rfl) (by kernel_rfl) (by kernel_rfl)
      (OpenSpec.preRow_of_cond 8 hx (by kernel_rfl) (fun k hk => by cases hk) (by kernel_rfl) (recordSames_met os))) ?_
  intro W base args ds gs before hval hW _ _ _ hL _ _
  exact recordSames_contract H enc W base args ds gs before hval hW hL

theorem recordSames_said : Rows.RecordSamesSaid :=
  OpenClaim.holds_of_cond 5 Tryd.f5 rfl rfl rfl rfl rfl rfl rfl ⟨rfl, rfl, rfl, rfl, rfl⟩ rfl rfl rfl rfl rfl (by kernel_rfl) Tryd.func5 (by kernel_rfl)
    (of_decide_eq_true (by kernel_rfl)) (by unfold Func.isWrapper; first | (rw [if_pos (by decide +kernel)]; kernel_rfl) | (rw [if_neg (by decide +kernel)]; exact ⟨rfl, rfl⟩))
    (fun os started H enc _ F => by rw [OpenClaim.pre_eq_preRow]; exact recordSames_lifted os started H enc F)

theorem recordSames_plain (f : FuncId) (fn : Func) (hf : Tryd.pinned.checked.prog.funcNamed "manometer/manometerlaw13.RecordSames" = some f) (hfn : Tryd.pinned.checked.prog.funcs[f]? = some fn) :
    false = Tryd.pinned.checked.prog.looks [] ∧ ∀ (j : Nat) t, fn.params[j]? = some t → Tryd.pinned.checked.prog.wantsStandIn t = false := by
  obtain rfl : f = 5 := Option.some.inj ((show Tryd.prog.funcNamed "manometer/manometerlaw13.RecordSames" = some 5 by kernel_rfl).symm.trans hf) |>.symm
  obtain rfl : fn = Tryd.f5 := (Option.some.inj (Tryd.func5.symm.trans hfn)).symm
  refine ⟨by kernel_rfl, fun j t ht => ?_⟩
  rw [Tryd.params5] at ht
  have hm : t = 27 ∨ t = 27 := by simpa using Array.mem_of_getElem? ht
  rcases hm with rfl | rfl
  · exact (show Tryd.prog.wantsStandIn 27 = false by kernel_rfl)
  · exact (show Tryd.prog.wantsStandIn 27 = false by kernel_rfl)

theorem recordSames_card : Rows.RecordSamesCardSaid :=
  Claim7.holds_tied_plain_at .later [] _ _ _ _ recordSames_said (fun _ h => by cases h) (by kernel_rfl) (fun _ h => by cases h) recordSames_row_tie rfl ⟨rfl, rfl⟩ (by kernel_rfl) rfl recordSames_plain (by kernel_rfl)
#print axioms recordSames_card
end Go.Proofs.YtgogpngobdafaaaDoor
