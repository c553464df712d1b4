/-
  Either of two parts, the first one matching nothing.
-/
import Derived.Test.YtfohmepjedehfabQb
import Derived.Deep.RegionHeld3
import Derived.Deep.MidRow
namespace Go.Proofs.Ytfohmepjedehfab
set_option linter.unusedVariables false
set_option linter.unusedSimpArgs false
open Go.RowKit
section
set_option maxHeartbeats 3200000
set_option maxRecDepth 100000
theorem either_t (f l : Nat) (b : Prt) (w : World) : Calls Try.prog 77 #[partV ⟨f, l, true⟩, partV b] w fun e w' => e = .returned (partV (eitherP ⟨f, l, true⟩ b)) ∧ RowKit.Below w.heap.size w w' := by
  obtain ⟨f2, l2, em2⟩ := b
  obtain ⟨W, hW⟩ : ∃ W, W = ((w.alloc (.cells #[.int .u64 (wd f 0 : Nat), .int .u64 (wd f 1 : Nat), .int .u64 (wd f 2 : Nat), .int .u64 (wd f 3 : Nat), .int .u64 (wd l 0 : Nat), .int .u64 (wd l 1 : Nat), .int .u64 (wd l 2 : Nat), .int .u64 (wd l 3 : Nat), .bool true] 85)).alloc (.cells #[.int .u64 (wd f2 0 : Nat), .int .u64 (wd f2 1 : Nat), .int .u64 (wd f2 2 : Nat), .int .u64 (wd f2 3 : Nat), .int .u64 (wd l2 0 : Nat), .int .u64 (wd l2 1 : Nat), .int .u64 (wd l2 2 : Nat), .int .u64 (wd l2 3 : Nat), .bool em2] 85)).alloc (.cells #[.int .u64 0, .int .u64 0, .int .u64 0, .int .u64 0, .int .u64 0, .int .u64 0, .int .u64 0, .int .u64 0, .bool false] 85) := ⟨_, rfl⟩
  have hb : RowKit.Below w.heap.size w W := by rw [hW]; exact (((RowKit.Below.refl _ w).alloc (Nat.le_refl _) _).alloc (by simp) _).alloc (by simp; omega) _
  have h2 : W.heap[w.heap.size]? = some (.cells #[.int .u64 (wd f 0 : Nat), .int .u64 (wd f 1 : Nat), .int .u64 (wd f 2 : Nat), .int .u64 (wd f 3 : Nat), .int .u64 (wd l 0 : Nat), .int .u64 (wd l 1 : Nat), .int .u64 (wd l 2 : Nat), .int .u64 (wd l 3 : Nat), .bool true] 85 (0, 0)) := by
    rw [hW, Below.heap_alloc _ _ _ (by simp; omega), Below.heap_alloc _ _ _ (by simp)]; exact heap_alloc_new _ _
  have h3 : W.heap[w.heap.size + 1]? = some (.cells #[.int .u64 (wd f2 0 : Nat), .int .u64 (wd f2 1 : Nat), .int .u64 (wd f2 2 : Nat), .int .u64 (wd f2 3 : Nat), .int .u64 (wd l2 0 : Nat), .int .u64 (wd l2 1 : Nat), .int .u64 (wd l2 2 : Nat), .int .u64 (wd l2 3 : Nat), .bool em2] 85 (0, 0)) := by
    rw [hW, Below.heap_alloc _ _ _ (by simp)]; exact heap_alloc_new2 _ _ _
  have h4 : W.heap[w.heap.size + 1 + 1]? = some (.cells #[.int .u64 0, .int .u64 0, .int .u64 0, .int .u64 0, .int .u64 0, .int .u64 0, .int .u64 0, .int .u64 0, .bool false] 85 (0, 0)) := by
    have := heap_alloc_new ((w.alloc (.cells #[.int .u64 (wd f 0 : Nat), .int .u64 (wd f 1 : Nat), .int .u64 (wd f 2 : Nat), .int .u64 (wd f 3 : Nat), .int .u64 (wd l 0 : Nat), .int .u64 (wd l 1 : Nat), .int .u64 (wd l 2 : Nat), .int .u64 (wd l 3 : Nat), .bool true] 85)).alloc (.cells #[.int .u64 (wd f2 0 : Nat), .int .u64 (wd f2 1 : Nat), .int .u64 (wd f2 2 : Nat), .int .u64 (wd f2 3 : Nat), .int .u64 (wd l2 0 : Nat), .int .u64 (wd l2 1 : Nat), .int .u64 (wd l2 2 : Nat), .int .u64 (wd l2 3 : Nat), .bool em2] 85)) (.cells #[.int .u64 0, .int .u64 0, .int .u64 0, .int .u64 0, .int .u64 0, .int .u64 0, .int .u64 0, .int .u64 0, .bool false] 85)
    rw [hW]; simpa using this
  have hsz : W.heap.size = w.heap.size + 3 := by rw [hW]; simp
  have hs : ∀ W', Mv (fun k => k = w.heap.size + 1 + 1) W W' → W'.cell? ⟨w.heap.size, 0, none⟩ = some (.int .u64 (wd f 0 : Nat)) ∧ W'.cell? ⟨w.heap.size, 1, none⟩ = some (.int .u64 (wd f 1 : Nat)) ∧ W'.cell? ⟨w.heap.size, 2, none⟩ = some (.int .u64 (wd f 2 : Nat)) ∧ W'.cell? ⟨w.heap.size, 3, none⟩ = some (.int .u64 (wd f 3 : Nat)) ∧ W'.cell? ⟨w.heap.size, 4, none⟩ = some (.int .u64 (wd l 0 : Nat)) ∧ W'.cell? ⟨w.heap.size, 5, none⟩ = some (.int .u64 (wd l 1 : Nat)) ∧ W'.cell? ⟨w.heap.size, 6, none⟩ = some (.int .u64 (wd l 2 : Nat)) ∧ W'.cell? ⟨w.heap.size, 7, none⟩ = some (.int .u64 (wd l 3 : Nat)) ∧ W'.cell? ⟨w.heap.size, 8, none⟩ = some (.bool true) ∧ W'.cell? ⟨w.heap.size + 1, 0, none⟩ = some (.int .u64 (wd f2 0 : Nat)) ∧ W'.cell? ⟨w.heap.size + 1, 1, none⟩ = some (.int .u64 (wd f2 1 : Nat)) ∧ W'.cell? ⟨w.heap.size + 1, 2, none⟩ = some (.int .u64 (wd f2 2 : Nat)) ∧ W'.cell? ⟨w.heap.size + 1, 3, none⟩ = some (.int .u64 (wd f2 3 : Nat)) ∧ W'.cell? ⟨w.heap.size + 1, 4, none⟩ = some (.int .u64 (wd l2 0 : Nat)) ∧ W'.cell? ⟨w.heap.size + 1, 5, none⟩ = some (.int .u64 (wd l2 1 : Nat)) ∧ W'.cell? ⟨w.heap.size + 1, 6, none⟩ = some (.int .u64 (wd l2 2 : Nat)) ∧ W'.cell? ⟨w.heap.size + 1, 7, none⟩ = some (.int .u64 (wd l2 3 : Nat)) ∧ W'.cell? ⟨w.heap.size + 1, 8, none⟩ = some (.bool em2) := fun W' hb' => by
    have k2 := (hb'.block _ (by omega) (by omega)).trans h2
    have k3 := (hb'.block _ (by omega) (by omega)).trans h3
    refine ⟨?_, ?_, ?_, ?_, ?_, ?_, ?_, ?_, ?_, ?_, ?_, ?_, ?_, ?_, ?_, ?_, ?_, ?_⟩ <;> first | (rw [cell_blk k2]; rfl) | (rw [cell_blk k3]; rfl)
  have hz : ∀ W', RowKit.Below W.heap.size W W' → W'.cell? ⟨w.heap.size + 1 + 1, 0, none⟩ = some (.int .u64 0) ∧ W'.cell? ⟨w.heap.size + 1 + 1, 1, none⟩ = some (.int .u64 0) ∧ W'.cell? ⟨w.heap.size + 1 + 1, 2, none⟩ = some (.int .u64 0) ∧ W'.cell? ⟨w.heap.size + 1 + 1, 3, none⟩ = some (.int .u64 0) ∧ W'.cell? ⟨w.heap.size + 1 + 1, 4, none⟩ = some (.int .u64 0) ∧ W'.cell? ⟨w.heap.size + 1 + 1, 5, none⟩ = some (.int .u64 0) ∧ W'.cell? ⟨w.heap.size + 1 + 1, 6, none⟩ = some (.int .u64 0) ∧ W'.cell? ⟨w.heap.size + 1 + 1, 7, none⟩ = some (.int .u64 0) ∧ W'.cell? ⟨w.heap.size + 1 + 1, 8, none⟩ = some (.bool false) ∧ ∀ i, W'.frozen? ⟨w.heap.size + 1 + 1, i, none⟩ = false := fun W' hb' => by
    have k4 := (hb'.block _ (by omega)).trans h4
    refine ⟨?_, ?_, ?_, ?_, ?_, ?_, ?_, ?_, ?_, ?_⟩ <;> first | (rw [cell_blk k4]; rfl) | (intro i; exact free_blk k4 i)
  have h4b : ∀ W', RowKit.Below W.heap.size W W' → W'.heap[w.heap.size + 1 + 1]? = some (.cells #[.int .u64 0, .int .u64 0, .int .u64 0, .int .u64 0, .int .u64 0, .int .u64 0, .int .u64 0, .int .u64 0, .bool false] 85 (0, 0)) := fun W' hb' => (hb'.block _ (by omega)).trans h4
  have HB := Lib.hid hb; have HS := Lib.hid hs; have HZ := Lib.hid hz; have H4 := Lib.hid h4b; have HSZ := Lib.hid hsz; have HW := Lib.hid hW
  have HWW := Lib.hid (RowKit.Below.refl W.heap.size W)
  have HMV := Lib.hid (show Qs (w.heap.size + 1 + 1) W W from Mv.refl _ W)
  clear hb h2 h3 h4 hsz hW hs h4b hz
  unfold partV partC
  simp only [eitherP, Bool.true_or, Bool.false_or]
  go_enter Try.func77, Try.ntmps77
  go_wp2
  rw [← HW.out]
  generalize hg : w.heap.size = g at HS H4 HZ HMV ⊢
  have HG := Lib.hid hg; clear hg
  have r0 : ∀ w', Qs (g + 1 + 1) W w' → w'.cell? ⟨g, 0, none⟩ = some (.int .u64 (wd f 0 : Nat)) := fun w' h => (HS.out _ h).1
  have r1 : ∀ w', Qs (g + 1 + 1) W w' → w'.cell? ⟨g, 1, none⟩ = some (.int .u64 (wd f 1 : Nat)) := fun w' h => (HS.out _ h).2.1
  have r2 : ∀ w', Qs (g + 1 + 1) W w' → w'.cell? ⟨g, 2, none⟩ = some (.int .u64 (wd f 2 : Nat)) := fun w' h => (HS.out _ h).2.2.1
  have r3 : ∀ w', Qs (g + 1 + 1) W w' → w'.cell? ⟨g, 3, none⟩ = some (.int .u64 (wd f 3 : Nat)) := fun w' h => (HS.out _ h).2.2.2.1
  have r4 : ∀ w', Qs (g + 1 + 1) W w' → w'.cell? ⟨g, 4, none⟩ = some (.int .u64 (wd l 0 : Nat)) := fun w' h => (HS.out _ h).2.2.2.2.1
  have r5 : ∀ w', Qs (g + 1 + 1) W w' → w'.cell? ⟨g, 5, none⟩ = some (.int .u64 (wd l 1 : Nat)) := fun w' h => (HS.out _ h).2.2.2.2.2.1
  have r6 : ∀ w', Qs (g + 1 + 1) W w' → w'.cell? ⟨g, 6, none⟩ = some (.int .u64 (wd l 2 : Nat)) := fun w' h => (HS.out _ h).2.2.2.2.2.2.1
  have r7 : ∀ w', Qs (g + 1 + 1) W w' → w'.cell? ⟨g, 7, none⟩ = some (.int .u64 (wd l 3 : Nat)) := fun w' h => (HS.out _ h).2.2.2.2.2.2.2.1
  have r8 : ∀ w', Qs (g + 1 + 1) W w' → w'.cell? ⟨g, 8, none⟩ = some (.bool true) := fun w' h => (HS.out _ h).2.2.2.2.2.2.2.2.1
  have r9 : ∀ w', Qs (g + 1 + 1) W w' → w'.cell? ⟨g + 1, 0, none⟩ = some (.int .u64 (wd f2 0 : Nat)) := fun w' h => (HS.out _ h).2.2.2.2.2.2.2.2.2.1
  have r10 : ∀ w', Qs (g + 1 + 1) W w' → w'.cell? ⟨g + 1, 1, none⟩ = some (.int .u64 (wd f2 1 : Nat)) := fun w' h => (HS.out _ h).2.2.2.2.2.2.2.2.2.2.1
  have r11 : ∀ w', Qs (g + 1 + 1) W w' → w'.cell? ⟨g + 1, 2, none⟩ = some (.int .u64 (wd f2 2 : Nat)) := fun w' h => (HS.out _ h).2.2.2.2.2.2.2.2.2.2.2.1
  have r12 : ∀ w', Qs (g + 1 + 1) W w' → w'.cell? ⟨g + 1, 3, none⟩ = some (.int .u64 (wd f2 3 : Nat)) := fun w' h => (HS.out _ h).2.2.2.2.2.2.2.2.2.2.2.2.1
  have r13 : ∀ w', Qs (g + 1 + 1) W w' → w'.cell? ⟨g + 1, 4, none⟩ = some (.int .u64 (wd l2 0 : Nat)) := fun w' h => (HS.out _ h).2.2.2.2.2.2.2.2.2.2.2.2.2.1
  have r14 : ∀ w', Qs (g + 1 + 1) W w' → w'.cell? ⟨g + 1, 5, none⟩ = some (.int .u64 (wd l2 1 : Nat)) := fun w' h => (HS.out _ h).2.2.2.2.2.2.2.2.2.2.2.2.2.2.1
  have r15 : ∀ w', Qs (g + 1 + 1) W w' → w'.cell? ⟨g + 1, 6, none⟩ = some (.int .u64 (wd l2 2 : Nat)) := fun w' h => (HS.out _ h).2.2.2.2.2.2.2.2.2.2.2.2.2.2.2.1
  have r16 : ∀ w', Qs (g + 1 + 1) W w' → w'.cell? ⟨g + 1, 7, none⟩ = some (.int .u64 (wd l2 3 : Nat)) := fun w' h => (HS.out _ h).2.2.2.2.2.2.2.2.2.2.2.2.2.2.2.2.1
  have r17 : ∀ w', Qs (g + 1 + 1) W w' → w'.cell? ⟨g + 1, 8, none⟩ = some (.bool em2) := fun w' h => (HS.out _ h).2.2.2.2.2.2.2.2.2.2.2.2.2.2.2.2.2
  refine wp_region_noPanic ?_
  refine wp_region_held_drew (S := fun w' => Qs (g + 1 + 1) W w') (by kernel_rfl) ?_ (fun hHeld => ?_)
  · try dsimp only
    (first | (with_reducible exact HMV.out) | (with_reducible exact Qs.drew HMV.out) | (repeat (first | (with_reducible exact HMV.out) | (with_reducible refine Qs.setCell ?_ _ _) | (with_reducible refine Qs.drew ?_))))
  refine wpAnyH_take (i := 0) (oi := ⟨_, _, _, _, _, _⟩) (v := ?_) rfl (by kernel_rfl) (by kernel_rfl) (by kernel_rfl) (fun _ _ _ h => h) (Or.inl ⟨by rfl, ?_⟩) (by assumption) ?_
  rotate_left
  · intro w hSw; (try dsimp only at hSw); go_simp; try with_reducible rfl
  try simp only [Act.put, List.setIfInBounds_toArray, List.set_cons_zero, List.set_cons_succ]
  refine wpAnyH_take (i := 1) (oi := ⟨_, _, _, _, _, _⟩) (v := ?_) rfl (by kernel_rfl) (by kernel_rfl) (by kernel_rfl) (fun _ _ _ h => h) (Or.inl ⟨by rfl, ?_⟩) (by assumption) ?_
  rotate_left
  · intro w hSw; (try dsimp only at hSw); go_simp; try with_reducible rfl
  try simp only [Act.put, List.setIfInBounds_toArray, List.set_cons_zero, List.set_cons_succ]
  refine wpAnyH_take (i := 2) (oi := ⟨_, _, _, _, _, _⟩) (v := ?_) rfl (by kernel_rfl) (by kernel_rfl) (by kernel_rfl) (fun _ _ _ h => h) (Or.inl ⟨by rfl, ?_⟩) (by assumption) ?_
  rotate_left
  · intro w hSw; (try dsimp only at hSw); go_simp; try with_reducible rfl
  try simp only [Act.put, List.setIfInBounds_toArray, List.set_cons_zero, List.set_cons_succ]
  refine wpAnyH_take (i := 3) (oi := ⟨_, _, _, _, _, _⟩) (v := ?_) rfl (by kernel_rfl) (by kernel_rfl) (by kernel_rfl) (fun _ _ _ h => h) (Or.inl ⟨by rfl, ?_⟩) (by assumption) ?_
  rotate_left
  · intro w hSw; (try dsimp only at hSw); go_simp; try with_reducible rfl
  try simp only [Act.put, List.setIfInBounds_toArray, List.set_cons_zero, List.set_cons_succ]
  refine wpAnyH_take (i := 5) (oi := ⟨_, _, _, _, _, _⟩) (v := ?_) rfl (by kernel_rfl) (by kernel_rfl) (by kernel_rfl) (fun _ _ _ h => h) (Or.inl ⟨by rfl, ?_⟩) (by assumption) ?_
  rotate_left
  · intro w hSw; (try dsimp only at hSw); go_simp; try with_reducible rfl
  try simp only [Act.put, List.setIfInBounds_toArray, List.set_cons_zero, List.set_cons_succ]
  refine wpAnyH_take (i := 6) (oi := ⟨_, _, _, _, _, _⟩) (v := ?_) rfl (by kernel_rfl) (by kernel_rfl) (by kernel_rfl) (fun _ _ _ h => h) (Or.inl ⟨by rfl, ?_⟩) (by assumption) ?_
  rotate_left
  · intro w hSw; (try dsimp only at hSw); go_simp; try with_reducible rfl
  try simp only [Act.put, List.setIfInBounds_toArray, List.set_cons_zero, List.set_cons_succ]
  refine wpAnyH_take (i := 7) (oi := ⟨_, _, _, _, _, _⟩) (v := ?_) rfl (by kernel_rfl) (by kernel_rfl) (by kernel_rfl) (fun _ _ _ h => h) (Or.inl ⟨by rfl, ?_⟩) (by assumption) ?_
  rotate_left
  · intro w hSw; (try dsimp only at hSw); go_simp; try with_reducible rfl
  try simp only [Act.put, List.setIfInBounds_toArray, List.set_cons_zero, List.set_cons_succ]
  refine wpAnyH_take (i := 8) (oi := ⟨_, _, _, _, _, _⟩) (v := ?_) rfl (by kernel_rfl) (by kernel_rfl) (by kernel_rfl) (fun _ _ _ h => h) (Or.inl ⟨by rfl, ?_⟩) (by assumption) ?_
  rotate_left
  · intro w hSw; (try dsimp only at hSw); go_simp; try with_reducible rfl
  try simp only [Act.put, List.setIfInBounds_toArray, List.set_cons_zero, List.set_cons_succ]
  refine wpAnyH_take (i := 10) (oi := ⟨_, _, _, _, _, _⟩) (v := ?_) rfl (by kernel_rfl) (by kernel_rfl) (by kernel_rfl) (fun _ _ _ h => h) (Or.inl ⟨by rfl, ?_⟩) (by assumption) ?_
  rotate_left
  · intro w hSw; (try dsimp only at hSw); go_simp; try with_reducible rfl
  try simp only [Act.put, List.setIfInBounds_toArray, List.set_cons_zero, List.set_cons_succ]
  refine wpAnyH_take (i := 11) (oi := ⟨_, _, _, _, _, _⟩) (v := ?_) rfl (by kernel_rfl) (by kernel_rfl) (by kernel_rfl) (fun _ _ _ h => h) (Or.inl ⟨by rfl, ?_⟩) (by assumption) ?_
  rotate_left
  · intro w hSw; (try dsimp only at hSw); go_simp; try with_reducible rfl
  try simp only [Act.put, List.setIfInBounds_toArray, List.set_cons_zero, List.set_cons_succ]
  refine wpAnyH_ready (rs := [4]) (by kernel_rfl) (by simp) ?_
  refine AllReadyH.cons (o := ⟨_, _, _, _, _, _⟩) rfl (fun K hK => ?_) AllReadyH.nil
  go_simp
  (go_at_call 67; go_must ((with_reducible refine (with_lit _ _ _).mono ?_); rintro e wq ⟨rfl, hbq⟩; (try (have hq1 := undrew hbq; clear hbq; have hbq := hq1; clear hq1)); have hq1 := HWW.out.trans (hbq.mono HWW.out.size); have HWW := Lib.hid hq1; have hq2 := HZ.out _ hq1; have HMV := Lib.hid (show Qs (g + 1 + 1) W wq from Mv.of_below hq1 _); clear hq1 hbq; obtain ⟨z0, z1, z2, z3, z4, z5, z6, z7, z8, zf⟩ := hq2))
  try (go_wp2_with fail)
  refine hK.out _ _ ?_ (fun hHeld => ?_)
  · try dsimp only
    (first | (with_reducible exact HMV.out) | (with_reducible exact Qs.drew HMV.out) | (repeat (first | (with_reducible exact HMV.out) | (with_reducible refine Qs.setCell ?_ _ _) | (with_reducible refine Qs.drew ?_))))
  clear hK K
  try simp only [Act.put, List.setIfInBounds_toArray, List.set_cons_zero, List.set_cons_succ]
  refine wpAnyH_ready (rs := [9]) (by kernel_rfl) (by simp) ?_
  refine AllReadyH.cons (o := ⟨_, _, _, _, _, _⟩) rfl (fun K hK => ?_) AllReadyH.nil
  go_simp
  (go_at_call 67; go_must ((with_reducible refine (with_lit _ _ _).mono ?_); rintro e wq ⟨rfl, hbq⟩; (try (have hq1 := undrew hbq; clear hbq; have hbq := hq1; clear hq1)); have hq1 := HWW.out.trans (hbq.mono HWW.out.size); have HWW := Lib.hid hq1; have hq2 := HZ.out _ hq1; have HMV := Lib.hid (show Qs (g + 1 + 1) W wq from Mv.of_below hq1 _); clear hq1 hbq; obtain ⟨z0, z1, z2, z3, z4, z5, z6, z7, z8, zf⟩ := hq2))
  try (go_wp2_with fail)
  refine hK.out _ _ ?_ (fun hHeld => ?_)
  · try dsimp only
    (first | (with_reducible exact HMV.out) | (with_reducible exact Qs.drew HMV.out) | (repeat (first | (with_reducible exact HMV.out) | (with_reducible refine Qs.setCell ?_ _ _) | (with_reducible refine Qs.drew ?_))))
  clear hK K
  try simp only [Act.put, List.setIfInBounds_toArray, List.set_cons_zero, List.set_cons_succ]
  refine wpAnyH_take (i := 12) (oi := ⟨_, _, _, _, _, _⟩) (v := ?_) rfl (by kernel_rfl) (by kernel_rfl) (by kernel_rfl) (fun _ _ _ h => h) (Or.inl ⟨by rfl, ?_⟩) (by assumption) ?_
  rotate_left
  · intro w hSw; (try dsimp only at hSw); go_simp; try with_reducible rfl
  try simp only [Act.put, List.setIfInBounds_toArray, List.set_cons_zero, List.set_cons_succ]
  refine wpAnyH_take (i := 13) (oi := ⟨_, _, _, _, _, _⟩) rfl (by kernel_rfl) (by kernel_rfl) (by kernel_rfl) (fun _ _ _ h => h) (Or.inr ⟨by rfl, rfl⟩) (by assumption) ?_
  try simp only [Act.put, List.setIfInBounds_toArray, List.set_cons_zero, List.set_cons_succ]
  refine wpAnyH_take (i := 14) (oi := ⟨_, _, _, _, _, _⟩) rfl (by kernel_rfl) (by kernel_rfl) (by kernel_rfl) (fun _ _ _ h => h) (Or.inr ⟨by rfl, rfl⟩) (by assumption) ?_
  try simp only [Act.put, List.setIfInBounds_toArray, List.set_cons_zero, List.set_cons_succ]
  refine wpAnyH_take (i := 15) (oi := ⟨_, _, _, _, _, _⟩) (v := ?_) rfl (by kernel_rfl) (by kernel_rfl) (by kernel_rfl) (fun _ _ _ h => h) (Or.inl ⟨by rfl, ?_⟩) (by assumption) ?_
  rotate_left
  · intro w hSw; (try dsimp only at hSw); go_simp; try with_reducible rfl
  try simp only [Act.put, List.setIfInBounds_toArray, List.set_cons_zero, List.set_cons_succ]
  refine wpAnyH_take (i := 16) (oi := ⟨_, _, _, _, _, _⟩) (v := ?_) rfl (by kernel_rfl) (by kernel_rfl) (by kernel_rfl) (fun _ _ _ h => h) (Or.inl ⟨by rfl, ?_⟩) (by assumption) ?_
  rotate_left
  · intro w hSw; (try dsimp only at hSw); go_simp; try with_reducible rfl
  try simp only [Act.put, List.setIfInBounds_toArray, List.set_cons_zero, List.set_cons_succ]
  refine wpAnyH_ready (rs := [17]) (by kernel_rfl) (by simp) ?_
  refine AllReadyH.cons (o := ⟨_, _, _, _, _, _⟩) rfl (fun K hK => ?_) AllReadyH.nil
  go_simp
  refine hK.out _ _ ?_ (fun hHeld => ?_)
  · try dsimp only
    (first | (with_reducible exact HMV.out) | (with_reducible exact Qs.drew HMV.out) | (repeat (first | (with_reducible exact HMV.out) | (with_reducible refine Qs.setCell ?_ _ _) | (with_reducible refine Qs.drew ?_))))
  clear hK K
  try simp only [Act.put, List.setIfInBounds_toArray, List.set_cons_zero, List.set_cons_succ]
  refine wpAnyH_done (by kernel_rfl) ?_ _
  refine NoPanic.normal ?_
  go_wp2
  refine bodyPost_cell rfl (g + 1 + 1) 85 #[.int .u64 (wd (f ||| f2) 0 : Nat), .int .u64 (wd (f ||| f2) 1 : Nat), .int .u64 (wd (f ||| f2) 2 : Nat), .int .u64 (wd (f ||| f2) 3 : Nat), .int .u64 (wd (l ||| l2) 0 : Nat), .int .u64 (wd (l ||| l2) 1 : Nat), .int .u64 (wd (l ||| l2) 2 : Nat), .int .u64 (wd (l ||| l2) 3 : Nat), .bool true] rfl (by with_reducible exact stored9 (H4.out _ HWW.out)) (by kernel_rfl) (by kernel_rfl) rfl ⟨rfl, HB.out.trans (Mv.belowB (S := fun k => k = g + 1 + 1) ?_ (by have := HSZ.out; omega) (fun k hk e => by have := HG.out; omega))⟩
  show Qs (g + 1 + 1) W _
  repeat (first | (with_reducible exact HMV.out) | (with_reducible refine Qs.setCell ?_ _ _) | (with_reducible refine Qs.drew ?_))
end
end Go.Proofs.Ytfohmepjedehfab
