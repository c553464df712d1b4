/-
  PointsRights (P9.1): whether any list is right, and which of any two points counts, is the plain answers'. No condition.
-/
import Derived.Deep.RegionHeld3
import Derived.Test.YtfohmepjedehfaaPv
import Derived.Test.YtfohmepjedehfaaPt8
namespace Go.Proofs.Ytfohmepjedehfaa
set_option linter.unusedVariables false
set_option linter.unusedSimpArgs false
open Go.ChangeShapes Go.WideShapes Go.ChangeAt Go.RowKit

section
set_option maxHeartbeats 1600000
set_option maxRecDepth 100000
theorem pointsRights_walk (A : Option Addr) (c : Nat) (l : List Pt) (p q : Pt) (w : World) (hx : Rd w A (pcells l)) :
    Calls Try.prog 3 #[.slice A l.length c, .agg #[.int .i64 p.1, .int .u64 p.2.1, .int .u64 p.2.2], .agg #[.int .i64 q.1, .int .u64 q.2.1, .int .u64 q.2.2]] w fun e w' => e = .returned (.bool true) ∧ RowKit.Below w.heap.size w w' := by
  obtain ⟨W, hW⟩ : ∃ W, W = (w.alloc (.cells (boxPt p) 25)).alloc (.cells (boxPt q) 25) := ⟨_, rfl⟩
  have hbw : RowKit.Below w.heap.size w W := by rw [hW]; exact ((RowKit.Below.refl _ w).alloc (Nat.le_refl _) _).alloc (by simp) _
  have hbp : PBox W w.heap.size p := by rw [hW]; exact (PBox.new w p).alloc _
  have hbq : PBox W (w.heap.size + 1) q := by rw [hW]; have := PBox.new (w.alloc (.cells (boxPt p) 25)) q; rwa [World.size_alloc] at this
  have HX := Lib.hid (hx.below hbw); have HBW := Lib.hid hbw; have HBP := Lib.hid hbp; have HBQ := Lib.hid hbq
  unfold boxPt at hW
  have HW := Lib.hid hW; clear hx hbw hbp hbq hW
  have hsW := HBW.out.size
  have HF := Lib.hid (fun w => few_any A c l w)
  have HAH := Lib.hid (fun W' => ahead_any p q W')
  have HRAH := Lib.hid (fun W' => rahead_any p q W')
  generalize aheadB p q = ah at HAH HRAH
  obtain ⟨p1, p2, p3⟩ := p
  obtain ⟨q1, q2, q3⟩ := q
  unfold aggPt at HAH HRAH
  simp only at HAH HRAH HW ⊢
  have HS6 := Lib.hid (show ∀ W', RowKit.Below W.heap.size W W' → W'.cell? ⟨w.heap.size, 0, none⟩ = some (.int .i64 p1) ∧ W'.cell? ⟨w.heap.size, 1, none⟩ = some (.int .u64 p2) ∧ W'.cell? ⟨w.heap.size, 2, none⟩ = some (.int .u64 p3) ∧ W'.cell? ⟨w.heap.size + 1, 0, none⟩ = some (.int .i64 q1) ∧ W'.cell? ⟨w.heap.size + 1, 1, none⟩ = some (.int .u64 q2) ∧ W'.cell? ⟨w.heap.size + 1, 2, none⟩ = some (.int .u64 q3) from fun W' hW => by
    obtain ⟨e0, e1, e2⟩ := (HBP.out.below hW).cells
    obtain ⟨g0, g1, g2⟩ := (HBQ.out.below hW).cells
    exact ⟨e0, e1, e2, g0, g1, g2⟩)
  have HBc := Lib.hid (RowKit.Below.refl W.heap.size W)
  have HLV := Lib.hid live_any
  by_cases h : l.length ≤ 400
  · rw [decide_eq_true h] at HF
    have HR := Lib.hid (fun (W' : World) (hb : RowKit.Below W.heap.size W W') => right_any A c l W' (HX.out.below hb) (by omega))
    have HRR := Lib.hid (fun (W' : World) (hb : RowKit.Below W.heap.size W W') => rright_any A c l W' (HX.out.below hb) (by omega))
    generalize rightB l = rb at HR HRR
    have ra : ∀ b : Bool, (b == b) = true := fun b => by simp
    have e1 := ra rb; have e2 := ra ah
    clear ra
    cases rb
    all_goals cases ah
    all_goals
      go_enter Try.func3, Try.ntmps3
      go_wp2_with fail
      rw [← HW.out]
      go_region_held3 (fun W' => W'.cell? ⟨w.heap.size, 0, none⟩ = some (.int .i64 p1) ∧ W'.cell? ⟨w.heap.size, 1, none⟩ = some (.int .u64 p2) ∧ W'.cell? ⟨w.heap.size, 2, none⟩ = some (.int .u64 p3) ∧ W'.cell? ⟨w.heap.size + 1, 0, none⟩ = some (.int .i64 q1) ∧ W'.cell? ⟨w.heap.size + 1, 1, none⟩ = some (.int .u64 q2) ∧ W'.cell? ⟨w.heap.size + 1, 2, none⟩ = some (.int .u64 q3)) (first | exact HS6.out _ HBc.out | exact HS6.out _ (below_drewN HBc.out _)) (first
        | (go_at_call 9; go_must (refine (HLV.out _).mono ?_; rintro e wq ⟨rfl, hbq⟩; (try (have hq1 := undrewQ hbq; clear hbq; have hbq := hq1; clear hq1)); have hq1 := HBc.out.trans (hbq.mono HBc.out.size); have HBc := Lib.hid hq1; clear hq1 hbq))
        | (go_at_call 10; go_must (refine (HF.out _).mono ?_; rintro e wq ⟨rfl, rfl⟩))
        | (go_at_call 11; go_must (refine (HR.out _ (by first | exact HBc.out | exact below_drewN HBc.out _)).mono ?_; rintro e wq ⟨rfl, hbq⟩; (try (have hq1 := undrewQ hbq; clear hbq; have hbq := hq1; clear hq1)); have hq1 := HBc.out.trans (hbq.mono HBc.out.size); have HBc := Lib.hid hq1; clear hq1 hbq))
        | (go_at_call 12; go_must (refine (HRR.out _ (by first | exact HBc.out | exact below_drewN HBc.out _)).mono ?_; rintro e wq ⟨rfl, hbq⟩; (try (have hq1 := undrewQ hbq; clear hbq; have hbq := hq1; clear hq1)); have hq1 := HBc.out.trans (hbq.mono HBc.out.size); have HBc := Lib.hid hq1; clear hq1 hbq))
        | (go_at_call 13; go_must (refine (HAH.out _).mono ?_; rintro e wq ⟨rfl, hbq⟩; (try (have hq1 := undrewQ hbq; clear hbq; have hbq := hq1; clear hq1)); have hq1 := HBc.out.trans (hbq.mono HBc.out.size); have HBc := Lib.hid hq1; clear hq1 hbq))
        | (go_at_call 14; go_must (refine (HRAH.out _).mono ?_; rintro e wq ⟨rfl, hbq⟩; (try (have hq1 := undrewQ hbq; clear hbq; have hbq := hq1; clear hq1)); have hq1 := HBc.out.trans (hbq.mono HBc.out.size); have HBc := Lib.hid hq1; clear hq1 hbq))
        | fail)
      all_goals
        go_wp2
        go_ret
        exact ⟨rfl, by first | exact HBW.out.trans (HBc.out.mono hsW) | exact below_drewN (HBW.out.trans (HBc.out.mono hsW)) _⟩
  · rw [decide_eq_false h] at HF
    go_enter Try.func3, Try.ntmps3
    go_wp2_with fail
    rw [← HW.out]
    refine wp_region_noPanic ?_
    refine wp_region_held_drew (S := fun _ => True) (by kernel_rfl) ?_ (fun hHeld => ?_)
    · try dsimp only
      all_goals trivial
    refine wpAnyH_ready (rs := [0]) (by kernel_rfl) (by simp) ?_
    refine AllReadyH.cons (o := ⟨_, _, _, _, _, _⟩) rfl (fun K hK => ?_) AllReadyH.nil
    go_simp
    go_at_call 9; refine (HLV.out _).mono ?_; rintro e wq ⟨rfl, hbq⟩; (try (have hq1 := undrewQ hbq; clear hbq; have hbq := hq1; clear hq1)); have hq1 := HBc.out.trans (hbq.mono HBc.out.size); have HBc := Lib.hid hq1; clear hq1 hbq
    try (go_wp2_with fail)
    refine hK.out _ _ ?_ (fun hHeld => ?_)
    · try dsimp only
      all_goals trivial
    clear hK K
    try simp only [Act.put, List.setIfInBounds_toArray, List.set_cons_zero, List.set_cons_succ]
    refine wpAnyH_take (i := 1) (oi := ⟨_, _, _, _, _, _⟩) (v := ?_) rfl (by kernel_rfl) (by kernel_rfl) (by kernel_rfl) (fun _ _ _ h => h) (Or.inl ⟨by rfl, ?_⟩) (by assumption) ?_
    rotate_left
    · intro w hSw; (try dsimp only at hSw); go_simp; try with_reducible rfl
    try simp only [Act.put, List.setIfInBounds_toArray, List.set_cons_zero, List.set_cons_succ]
    refine wpAnyH_take (i := 2) (oi := ⟨_, _, _, _, _, _⟩) (v := ?_) rfl (by kernel_rfl) (by kernel_rfl) (by kernel_rfl) (fun _ _ _ h => h) (Or.inl ⟨by rfl, ?_⟩) (by assumption) ?_
    rotate_left
    · intro w hSw; (try dsimp only at hSw); go_simp; try with_reducible rfl
    try simp only [Act.put, List.setIfInBounds_toArray, List.set_cons_zero, List.set_cons_succ]
    refine wpAnyH_ready (rs := [3]) (by kernel_rfl) (by simp) ?_
    refine AllReadyH.cons (o := ⟨_, _, _, _, _, _⟩) rfl (fun K hK => ?_) AllReadyH.nil
    go_simp
    go_at_call 10; refine (HF.out _).mono ?_; rintro e wq ⟨rfl, rfl⟩
    try (go_wp2_with fail)
    refine hK.out _ _ ?_ (fun hHeld => ?_)
    · try dsimp only
      all_goals trivial
    clear hK K
    try simp only [Act.put, List.setIfInBounds_toArray, List.set_cons_zero, List.set_cons_succ]
    refine wpAnyH_take (i := 4) (oi := ⟨_, _, _, _, _, _⟩) (v := ?_) rfl (by kernel_rfl) (by kernel_rfl) (by kernel_rfl) (fun _ _ _ h => h) (Or.inl ⟨by rfl, ?_⟩) (by assumption) ?_
    rotate_left
    · intro w hSw; (try dsimp only at hSw); go_simp; try with_reducible rfl
    try simp only [Act.put, List.setIfInBounds_toArray, List.set_cons_zero, List.set_cons_succ]
    refine wpAnyH_take (i := 5) (oi := ⟨_, _, _, _, _, _⟩) (v := ?_) rfl (by kernel_rfl) (by kernel_rfl) (by kernel_rfl) (fun _ _ _ h => h) (Or.inl ⟨by rfl, ?_⟩) (by assumption) ?_
    rotate_left
    · intro w hSw; (try dsimp only at hSw); go_simp; try with_reducible rfl
    try simp only [Act.put, List.setIfInBounds_toArray, List.set_cons_zero, List.set_cons_succ]
    refine wpAnyH_take (i := 6) (oi := ⟨_, _, _, _, _, _⟩) rfl (by kernel_rfl) (by kernel_rfl) (by kernel_rfl) (fun _ _ _ h => h) (Or.inr ⟨by rfl, rfl⟩) (by assumption) ?_
    try simp only [Act.put, List.setIfInBounds_toArray, List.set_cons_zero, List.set_cons_succ]
    refine wpAnyH_take (i := 7) (oi := ⟨_, _, _, _, _, _⟩) rfl (by kernel_rfl) (by kernel_rfl) (by kernel_rfl) (fun _ _ _ h => h) (Or.inr ⟨by rfl, rfl⟩) (by assumption) ?_
    try simp only [Act.put, List.setIfInBounds_toArray, List.set_cons_zero, List.set_cons_succ]
    refine wpAnyH_take (i := 8) (oi := ⟨_, _, _, _, _, _⟩) rfl (by kernel_rfl) (by kernel_rfl) (by kernel_rfl) (fun _ _ _ h => h) (Or.inr ⟨by rfl, rfl⟩) (by assumption) ?_
    try simp only [Act.put, List.setIfInBounds_toArray, List.set_cons_zero, List.set_cons_succ]
    refine wpAnyH_take (i := 9) (oi := ⟨_, _, _, _, _, _⟩) rfl (by kernel_rfl) (by kernel_rfl) (by kernel_rfl) (fun _ _ _ h => h) (Or.inr ⟨by rfl, rfl⟩) (by assumption) ?_
    try simp only [Act.put, List.setIfInBounds_toArray, List.set_cons_zero, List.set_cons_succ]
    refine wpAnyH_take (i := 10) (oi := ⟨_, _, _, _, _, _⟩) rfl (by kernel_rfl) (by kernel_rfl) (by kernel_rfl) (fun _ _ _ h => h) (Or.inr ⟨by rfl, rfl⟩) (by assumption) ?_
    try simp only [Act.put, List.setIfInBounds_toArray, List.set_cons_zero, List.set_cons_succ]
    refine wpAnyH_take (i := 11) (oi := ⟨_, _, _, _, _, _⟩) rfl (by kernel_rfl) (by kernel_rfl) (by kernel_rfl) (fun _ _ _ h => h) (Or.inr ⟨by rfl, rfl⟩) (by assumption) ?_
    try simp only [Act.put, List.setIfInBounds_toArray, List.set_cons_zero, List.set_cons_succ]
    refine wpAnyH_take (i := 12) (oi := ⟨_, _, _, _, _, _⟩) rfl (by kernel_rfl) (by kernel_rfl) (by kernel_rfl) (fun _ _ _ h => h) (Or.inr ⟨by rfl, rfl⟩) (by assumption) ?_
    try simp only [Act.put, List.setIfInBounds_toArray, List.set_cons_zero, List.set_cons_succ]
    refine wpAnyH_take (i := 13) (oi := ⟨_, _, _, _, _, _⟩) rfl (by kernel_rfl) (by kernel_rfl) (by kernel_rfl) (fun _ _ _ h => h) (Or.inr ⟨by rfl, rfl⟩) (by assumption) ?_
    try simp only [Act.put, List.setIfInBounds_toArray, List.set_cons_zero, List.set_cons_succ]
    refine wpAnyH_take (i := 14) (oi := ⟨_, _, _, _, _, _⟩) rfl (by kernel_rfl) (by kernel_rfl) (by kernel_rfl) (fun _ _ _ h => h) (Or.inr ⟨by rfl, rfl⟩) (by assumption) ?_
    try simp only [Act.put, List.setIfInBounds_toArray, List.set_cons_zero, List.set_cons_succ]
    refine wpAnyH_take (i := 15) (oi := ⟨_, _, _, _, _, _⟩) rfl (by kernel_rfl) (by kernel_rfl) (by kernel_rfl) (fun _ _ _ h => h) (Or.inr ⟨by rfl, rfl⟩) (by assumption) ?_
    try simp only [Act.put, List.setIfInBounds_toArray, List.set_cons_zero, List.set_cons_succ]
    refine wpAnyH_take (i := 16) (oi := ⟨_, _, _, _, _, _⟩) rfl (by kernel_rfl) (by kernel_rfl) (by kernel_rfl) (fun _ _ _ h => h) (Or.inr ⟨by rfl, rfl⟩) (by assumption) ?_
    try simp only [Act.put, List.setIfInBounds_toArray, List.set_cons_zero, List.set_cons_succ]
    refine wpAnyH_take (i := 17) (oi := ⟨_, _, _, _, _, _⟩) rfl (by kernel_rfl) (by kernel_rfl) (by kernel_rfl) (fun _ _ _ h => h) (Or.inr ⟨by rfl, rfl⟩) (by assumption) ?_
    try simp only [Act.put, List.setIfInBounds_toArray, List.set_cons_zero, List.set_cons_succ]
    refine wpAnyH_take (i := 18) (oi := ⟨_, _, _, _, _, _⟩) rfl (by kernel_rfl) (by kernel_rfl) (by kernel_rfl) (fun _ _ _ h => h) (Or.inr ⟨by rfl, rfl⟩) (by assumption) ?_
    try simp only [Act.put, List.setIfInBounds_toArray, List.set_cons_zero, List.set_cons_succ]
    refine wpAnyH_take (i := 19) (oi := ⟨_, _, _, _, _, _⟩) rfl (by kernel_rfl) (by kernel_rfl) (by kernel_rfl) (fun _ _ _ h => h) (Or.inr ⟨by rfl, rfl⟩) (by assumption) ?_
    try simp only [Act.put, List.setIfInBounds_toArray, List.set_cons_zero, List.set_cons_succ]
    refine wpAnyH_take (i := 20) (oi := ⟨_, _, _, _, _, _⟩) (v := ?_) rfl (by kernel_rfl) (by kernel_rfl) (by kernel_rfl) (fun _ _ _ h => h) (Or.inl ⟨by rfl, ?_⟩) (by assumption) ?_
    rotate_left
    · intro w hSw; (try dsimp only at hSw); go_simp; try with_reducible rfl
    try simp only [Act.put, List.setIfInBounds_toArray, List.set_cons_zero, List.set_cons_succ]
    refine wpAnyH_take (i := 21) (oi := ⟨_, _, _, _, _, _⟩) (v := ?_) rfl (by kernel_rfl) (by kernel_rfl) (by kernel_rfl) (fun _ _ _ h => h) (Or.inl ⟨by rfl, ?_⟩) (by assumption) ?_
    rotate_left
    · intro w hSw; (try dsimp only at hSw); go_simp; try with_reducible rfl
    try simp only [Act.put, List.setIfInBounds_toArray, List.set_cons_zero, List.set_cons_succ]
    refine wpAnyH_take (i := 22) (oi := ⟨_, _, _, _, _, _⟩) (v := ?_) rfl (by kernel_rfl) (by kernel_rfl) (by kernel_rfl) (fun _ _ _ h => h) (Or.inl ⟨by rfl, ?_⟩) (by assumption) ?_
    rotate_left
    · intro w hSw; (try dsimp only at hSw); go_simp; try with_reducible rfl
    try simp only [Act.put, List.setIfInBounds_toArray, List.set_cons_zero, List.set_cons_succ]
    refine wpAnyH_done (by kernel_rfl) ?_ _
    refine NoPanic.normal ?_
    all_goals
      go_wp2
      go_ret
      exact ⟨rfl, by first | exact HBW.out.trans (HBc.out.mono hsW) | exact below_drewN (HBW.out.trans (HBc.out.mono hsW)) _⟩
end

set_option maxRecDepth 100000 in
theorem pointsRights_lifted (os : Os) (started : os.Started) (H : Type) (enc : TypeId × Value → H) :
    ReturnsInHanded {} Try.checked os 3 .any (Rows.pointsRightsSpec.pre6 enc Try.prog Try.f3 Rows.pointsRightsRow.domain false) (Rows.pointsRightsSpec.post enc Try.prog Try.f3 false true false false) := by
  refine returnsInHanded_of_change (C := Try.checked) ownKn started (by kernel_rfl) Try.func3
    (ChangeSpec.witness6 (enc := enc) (C := Try.checked) false ⟨#[], #[.slice none 0 0, .agg #[.int .i64 0, .int .u64 0, .int .u64 0], .agg #[.int .i64 0, .int .u64 0, .int .u64 0]], []⟩ 8 (by kernel_rfl) (by kernel_rfl) (by kernel_rfl) (by kernel_rfl)) ?_
  intro W base args ds gs before hval0 hW hcnd _
  have hval : ∀ (j : Nat) t v, Try.f3.params[j]? = some t → args[j]? = some v → Value.okWide Try.prog W .any base t v := hval0
  have hW' := hW
  obtain ⟨p, q, hA0, hV, rfl, hfz, hnd⟩ := hW
  have hA : DataW.TrodAll enc Try.prog W 0 (fun _ => true) true Try.f3.params.toList args.toList ds p := hA0
  rw [Try.params3] at hA hval
  obtain ⟨v0, vs0, d0, ds0, p0, q0, hargs, rfl, rfl, h0, r0⟩ := trodAll_cons hA
  obtain ⟨v1, vs1, d1, ds1, p1, q1, rfl, rfl, rfl, h1, r1⟩ := trodAll_cons r0
  obtain ⟨v2, vs2, d2, ds2, p2, q2, rfl, rfl, rfl, h2, r2⟩ := trodAll_cons r1
  obtain ⟨rfl, rfl, rfl⟩ := trodAll_nil r2
  obtain rfl : args = #[v0, v1, v2] := by cases args; simp_all
  obtain ⟨rfl, rfl⟩ := trodVars_none hV
  obtain ⟨A0, c0, l0, rfl, hm0, hx0⟩ := open_points (hval 0 22 v0 rfl rfl) h0
  obtain ⟨x1, rfl⟩ := open_point (hval 1 25 v1 rfl rfl) h1
  obtain ⟨x2, rfl⟩ := open_point (hval 2 25 v2 rfl rfl) h2
  clear hA0 hval0 hA
  unfold maxLen at hm0
  refine (pointsRights_walk A0 c0 l0 x1 x2 W hx0).mono fun e W' ⟨he, hg⟩ => ?_
  subst he
  exact ⟨_, rfl, law_end laidOut (by kernel_rfl) (by kernel_rfl) Try.underlying4 rfl hW' ⟨rfl, rfl, rfl⟩ hg⟩

theorem pointsRights_holds : Rows.PointsRightsSaid :=
  OpenClaim.holds_of_wide 3 Try.f3 rfl rfl rfl rfl rfl rfl rfl ⟨rfl, rfl, rfl, rfl, rfl⟩ rfl rfl rfl rfl rfl (by kernel_rfl) Try.func3 (by kernel_rfl)
    (of_decide_eq_true (by kernel_rfl)) (by unfold Func.isWrapper; first | (rw [if_pos (by decide +kernel)]; kernel_rfl) | (rw [if_neg (by decide +kernel)]; exact ⟨rfl, rfl⟩))
    (fun os started H enc _ => pointsRights_lifted os started H enc)
#print axioms pointsRights_holds

end Go.Proofs.Ytfohmepjedehfaa
