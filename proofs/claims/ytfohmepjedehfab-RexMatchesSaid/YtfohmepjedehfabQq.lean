/-
  A part with another one behind it.
-/
import Derived.Test.YtfohmepjedehfabQl
namespace Go.Proofs.Ytfohmepjedehfab
set_option linter.unusedVariables false
set_option linter.unusedSimpArgs false
open Go.RowKit
section
set_option maxHeartbeats 1600000
set_option maxRecDepth 100000
/-- A set of a part turned. -/
theorem stored4 {w : World} {g o : Nat} {t : TypeId} {cs : Array Value} {v0 v1 v2 v3 : Value} (h : w.heap[g]? = some (.cells cs t (0, 0))) : ((((w.setCell ⟨g, o, none⟩ v0).setCell ⟨g, o + 1, none⟩ v1).setCell ⟨g, o + 2, none⟩ v2).setCell ⟨g, o + 3, none⟩ v3).heap[g]? = some (.cells ((((cs.setIfInBounds o v0).setIfInBounds (o + 1) v1).setIfInBounds (o + 2) v2).setIfInBounds (o + 3) v3) t (0, 0)) :=
  set_blk (set_blk (set_blk (set_blk h o v0) (o + 1) v1) (o + 2) v2) (o + 3) v3
theorem below_set4 {w w' : World} {g o : Nat} {v0 v1 v2 v3 : Value} (h : RowKit.Below w.heap.size w w') (hg : w.heap.size ≤ g) : RowKit.Below w.heap.size w ((((w'.setCell ⟨g, o, none⟩ v0).setCell ⟨g, o + 1, none⟩ v1).setCell ⟨g, o + 2, none⟩ v2).setCell ⟨g, o + 3, none⟩ v3) := by
  have m : Mv (fun k => w.heap.size ≤ k) w ((((w'.setCell ⟨g, o, none⟩ v0).setCell ⟨g, o + 1, none⟩ v1).setCell ⟨g, o + 2, none⟩ v2).setCell ⟨g, o + 3, none⟩ v3) := ((((Mv.of_below h (fun k => w.heap.size ≤ k)).setCell (fun _ => hg) v0).setCell (fun _ => hg) v1).setCell (fun _ => hg) v2).setCell (fun _ => hg) v3
  exact m.belowB (Nat.le_refl _) fun k hk h => by omega
theorem follow_lit (p : Nat) (l : List Pc) (v : Value) (us : List Value) (L : List Atm) (a b : Nat) (w : World) (h : PIs w p l v us L) :
    Calls Try.prog 96 #[.pointer (some ⟨p, 0, none⟩), .agg #[.int .u64 (wd a 0 : Nat), .int .u64 (wd a 1 : Nat), .int .u64 (wd a 2 : Nat), .int .u64 (wd a 3 : Nat)], .agg #[.int .u64 (wd b 0 : Nat), .int .u64 (wd b 1 : Nat), .int .u64 (wd b 2 : Nat), .int .u64 (wd b 3 : Nat)]] w fun e w' => e = .returned (.tuple #[]) ∧ PIs w' p l v us (followP a b L) ∧ Mv (fun k => v.ownBlock = some k) w w' := follow_any p l v us L a b w h
theorem join_any (p : Nat) (l : List Pc) (v : Value) (us : List Value) (L : List Atm) (a b : Prt) (w : World) (h : PIs w p l v us L) :
    Calls Try.prog 89 #[.pointer (some ⟨p, 0, none⟩), partV a, partV b] w fun e w' => e = .returned (partV (joinP a b)) ∧ PIs w' p l v us (followP a.last b.first L) ∧ Mv (fun k => v.ownBlock = some k) w w' := by
  obtain ⟨f, la, em⟩ := a
  obtain ⟨f2, la2, em2⟩ := b
  obtain ⟨W, hW⟩ : ∃ W, W = ((w.alloc (.cells #[.int .u64 (wd f 0 : Nat), .int .u64 (wd f 1 : Nat), .int .u64 (wd f 2 : Nat), .int .u64 (wd f 3 : Nat), .int .u64 (wd la 0 : Nat), .int .u64 (wd la 1 : Nat), .int .u64 (wd la 2 : Nat), .int .u64 (wd la 3 : Nat), .bool em] 85)).alloc (.cells #[.int .u64 (wd f2 0 : Nat), .int .u64 (wd f2 1 : Nat), .int .u64 (wd f2 2 : Nat), .int .u64 (wd f2 3 : Nat), .int .u64 (wd la2 0 : Nat), .int .u64 (wd la2 1 : Nat), .int .u64 (wd la2 2 : Nat), .int .u64 (wd la2 3 : Nat), .bool em2] 85)).alloc (.cells #[.int .u64 0, .int .u64 0, .int .u64 0, .int .u64 0, .int .u64 0, .int .u64 0, .int .u64 0, .int .u64 0, .bool false] 85) := ⟨_, rfl⟩
  have hb : RowKit.Below w.heap.size w W := by rw [hW]; exact (((RowKit.Below.refl _ w).alloc (Nat.le_refl _) _).alloc (by simp) _).alloc (by simp; omega) _
  have h2 : W.heap[w.heap.size]? = some (.cells #[.int .u64 (wd f 0 : Nat), .int .u64 (wd f 1 : Nat), .int .u64 (wd f 2 : Nat), .int .u64 (wd f 3 : Nat), .int .u64 (wd la 0 : Nat), .int .u64 (wd la 1 : Nat), .int .u64 (wd la 2 : Nat), .int .u64 (wd la 3 : Nat), .bool em] 85 (0, 0)) := by
    rw [hW, Below.heap_alloc _ _ _ (by simp; omega), Below.heap_alloc _ _ _ (by simp)]; exact heap_alloc_new _ _
  have h3 : W.heap[w.heap.size + 1]? = some (.cells #[.int .u64 (wd f2 0 : Nat), .int .u64 (wd f2 1 : Nat), .int .u64 (wd f2 2 : Nat), .int .u64 (wd f2 3 : Nat), .int .u64 (wd la2 0 : Nat), .int .u64 (wd la2 1 : Nat), .int .u64 (wd la2 2 : Nat), .int .u64 (wd la2 3 : Nat), .bool em2] 85 (0, 0)) := by
    rw [hW, Below.heap_alloc _ _ _ (by simp)]; exact heap_alloc_new2 _ _ _
  have h4 : W.heap[w.heap.size + 1 + 1]? = some (.cells zP 85 (0, 0)) := by
    have := heap_alloc_new ((w.alloc (.cells #[.int .u64 (wd f 0 : Nat), .int .u64 (wd f 1 : Nat), .int .u64 (wd f 2 : Nat), .int .u64 (wd f 3 : Nat), .int .u64 (wd la 0 : Nat), .int .u64 (wd la 1 : Nat), .int .u64 (wd la 2 : Nat), .int .u64 (wd la 3 : Nat), .bool em] 85)).alloc (.cells #[.int .u64 (wd f2 0 : Nat), .int .u64 (wd f2 1 : Nat), .int .u64 (wd f2 2 : Nat), .int .u64 (wd f2 3 : Nat), .int .u64 (wd la2 0 : Nat), .int .u64 (wd la2 1 : Nat), .int .u64 (wd la2 2 : Nat), .int .u64 (wd la2 3 : Nat), .bool em2] 85)) (.cells #[.int .u64 0, .int .u64 0, .int .u64 0, .int .u64 0, .int .u64 0, .int .u64 0, .int .u64 0, .int .u64 0, .bool false] 85)
    rw [hW]; simpa [zP] using this
  have hown : ∀ k, v.ownBlock = some k → k < w.heap.size := fun k hk => (h.at'.row.lt k hk).2
  have hs : ∀ W', Mv (fun k => v.ownBlock = some k ∨ W.heap.size ≤ k) W W' → W'.cell? ⟨w.heap.size, 0, none⟩ = some (.int .u64 (wd f 0 : Nat)) ∧ W'.cell? ⟨w.heap.size, 1, none⟩ = some (.int .u64 (wd f 1 : Nat)) ∧ W'.cell? ⟨w.heap.size, 2, none⟩ = some (.int .u64 (wd f 2 : Nat)) ∧ W'.cell? ⟨w.heap.size, 3, none⟩ = some (.int .u64 (wd f 3 : Nat)) ∧ W'.cell? ⟨w.heap.size, 4, none⟩ = some (.int .u64 (wd la 0 : Nat)) ∧ W'.cell? ⟨w.heap.size, 5, none⟩ = some (.int .u64 (wd la 1 : Nat)) ∧ W'.cell? ⟨w.heap.size, 6, none⟩ = some (.int .u64 (wd la 2 : Nat)) ∧ W'.cell? ⟨w.heap.size, 7, none⟩ = some (.int .u64 (wd la 3 : Nat)) ∧ W'.cell? ⟨w.heap.size, 8, none⟩ = some (.bool em) ∧ W'.cell? ⟨w.heap.size + 1, 0, none⟩ = some (.int .u64 (wd f2 0 : Nat)) ∧ W'.cell? ⟨w.heap.size + 1, 1, none⟩ = some (.int .u64 (wd f2 1 : Nat)) ∧ W'.cell? ⟨w.heap.size + 1, 2, none⟩ = some (.int .u64 (wd f2 2 : Nat)) ∧ W'.cell? ⟨w.heap.size + 1, 3, none⟩ = some (.int .u64 (wd f2 3 : Nat)) ∧ W'.cell? ⟨w.heap.size + 1, 4, none⟩ = some (.int .u64 (wd la2 0 : Nat)) ∧ W'.cell? ⟨w.heap.size + 1, 5, none⟩ = some (.int .u64 (wd la2 1 : Nat)) ∧ W'.cell? ⟨w.heap.size + 1, 6, none⟩ = some (.int .u64 (wd la2 2 : Nat)) ∧ W'.cell? ⟨w.heap.size + 1, 7, none⟩ = some (.int .u64 (wd la2 3 : Nat)) ∧ W'.cell? ⟨w.heap.size + 1, 8, none⟩ = some (.bool em2) ∧ W'.heap[w.heap.size + 1 + 1]? = some (.cells zP 85 (0, 0)) := fun W' hb' => by
    have hno : ∀ k, w.heap.size ≤ k → k < W.heap.size → ¬ (v.ownBlock = some k ∨ W.heap.size ≤ k) := fun k h1 h2 e => by
      rcases e with e | e
      · have := hown _ e; omega
      · omega
    have k2 := (hb'.block _ (blk_lt h2) (hno _ (by omega) (blk_lt h2))).trans h2
    have k3 := (hb'.block _ (blk_lt h3) (hno _ (by omega) (blk_lt h3))).trans h3
    refine ⟨?_, ?_, ?_, ?_, ?_, ?_, ?_, ?_, ?_, ?_, ?_, ?_, ?_, ?_, ?_, ?_, ?_, ?_, (hb'.block _ (blk_lt h4) (hno _ (by omega) (blk_lt h4))).trans h4⟩ <;> first | (rw [cell_blk k2]; rfl) | (rw [cell_blk k3]; rfl)
  have h1 := h.below hb
  have hz0 := hs W (Mv.refl _ _)
  have HF := Lib.hid (follow_lit p l v us L la f2 W h1)
  have HS := Lib.hid hs; have HB := Lib.hid hb; have HW := Lib.hid hW
  have HP3 := Lib.hid (show p < w.heap.size + 1 + 1 by have := h.lt; omega)
  have HOW := Lib.hid hown
  obtain ⟨d0, d1, d2, d3, d4, d5, d6, d7, d8, d9, d10, d11, d12, d13, d14, d15, d16, d17, -⟩ := hz0
  clear hb h2 h3 h4 hown hs h1 hW h
  unfold partV partC
  simp only [joinP]
  go_enter Try.func89, Try.ntmps89
  go_wp2_with fail
  rw [← HW.out]
  refine HF.out.mono ?_
  rintro e w1 ⟨rfl, hp1, hm1⟩
  have HS1 := Lib.hid (show ∀ W', RowKit.Below w1.heap.size w1 W' → _ from fun W' hb' => HS.out W' ((hm1.mono fun _ _ h => Or.inl h).trans (Mv.of_below hb' (fun k => v.ownBlock = some k ∨ W.heap.size ≤ k)) fun _ _ h => h))
  have HP1 := Lib.hid hp1; have HM1 := Lib.hid hm1; clear hp1 hm1 d0 d1 d2 d3 d4 d5 d6 d7 d8 d9 d10 d11 d12 d13 d14 d15 d16 d17
  obtain ⟨d0, d1, d2, d3, d4, d5, d6, d7, d8, d9, d10, d11, d12, d13, d14, d15, d16, d17, -⟩ := HS1.out w1 (RowKit.Below.refl _ _)
  obtain ⟨gg, hgg⟩ : ∃ gg, gg = w1.heap.size := ⟨_, rfl⟩
  have HGG := Lib.hid (show w1.heap.size ≤ gg by omega)
  have HZ1 := Lib.hid (show ∀ W', RowKit.Below w1.heap.size w1 W' → W'.heap[w.heap.size + 1 + 1]? = some (.cells zP 85 (0, 0)) from fun W' b => by
    obtain ⟨-, -, -, -, -, -, -, -, -, -, -, -, -, -, -, -, -, -, hz⟩ := HS1.out W' b
    exact hz)
  have HFIN := Lib.hid (show ∀ (w2 w3 : World), RowKit.Below w1.heap.size w1 w2 → Mv (fun k => k = w.heap.size + 1 + 1) w2 w3 → PIs w3 p l v us (followP la f2 L) ∧ Mv (fun k => v.ownBlock = some k) w w3 from fun w2 w3 b m => by
    obtain ⟨-, -, -, -, -, -, -, -, -, -, -, -, -, -, -, -, -, -, hz⟩ := HS1.out w2 b
    refine ⟨(HP1.out.below b).store hz HP3.out m, (((Mv.of_below HB.out (fun k => v.ownBlock = some k)).trans HM1.out fun _ _ h => h).trans (Mv.of_below b _) fun _ _ h => h).trans m fun i hi e => by omega⟩)
  have hl1 : w.heap.size < w1.heap.size := blk_lt (HZ1.out w1 (RowKit.Below.refl _ _)) |> fun h => by omega
  have hl2 : w.heap.size + 1 < w1.heap.size := blk_lt (HZ1.out w1 (RowKit.Below.refl _ _)) |> fun h => by omega
  have hl3 : w.heap.size + 1 + 1 < w1.heap.size := blk_lt (HZ1.out w1 (RowKit.Below.refl _ _))
  have hn1 : w.heap.size ≠ gg := by omega
  have hn2 : w.heap.size + 1 ≠ gg := by omega
  have hn3 : w.heap.size + 1 + 1 ≠ gg := by omega
  have hn4 : w.heap.size ≠ w1.heap.size := by omega
  have hn5 : w.heap.size + 1 ≠ w1.heap.size := by omega
  have hn6 : w.heap.size + 1 + 1 ≠ w1.heap.size := by omega
  cases em with
  | false =>
    cases em2 with
    | false =>
      obtain ⟨w2, hw2⟩ : ∃ w2, w2 = w1.alloc (.cells #[.int .u64 (wd f 0 : Nat), .int .u64 (wd f 1 : Nat), .int .u64 (wd f 2 : Nat), .int .u64 (wd f 3 : Nat), .int .u64 (wd la2 0 : Nat), .int .u64 (wd la2 1 : Nat), .int .u64 (wd la2 2 : Nat), .int .u64 (wd la2 3 : Nat), .bool false] 85) := ⟨_, rfl⟩
      have hb2 : RowKit.Below w1.heap.size w1 w2 := by rw [hw2]; exact (RowKit.Below.refl _ _).alloc (Nat.le_refl _) _
      have hb7 : w2.heap[gg]? = some (.cells #[.int .u64 (wd f 0 : Nat), .int .u64 (wd f 1 : Nat), .int .u64 (wd f 2 : Nat), .int .u64 (wd f 3 : Nat), .int .u64 (wd la2 0 : Nat), .int .u64 (wd la2 1 : Nat), .int .u64 (wd la2 2 : Nat), .int .u64 (wd la2 3 : Nat), .bool false] 85 (0, 0)) := by rw [hw2, hgg]; exact heap_alloc_new _ _
      have HW2 := Lib.hid hw2; have HG := Lib.hid hgg; have HB7 := Lib.hid hb7; have HBB := Lib.hid hb2
      clear hw2 hgg hb7 hb2
      go_wp2_with (first
        | (refine wpList_store_agg (o := ⟨none, _, _, _, _, _⟩) ?_ 85 (.tmp 6) (.tmp 41) ?_ (w.heap.size + 1 + 1) 0 (partL ⟨f, la2, false⟩) ?_ ?_ 85 zP (HZ1.out _ (by first | exact HBB.out | exact (RowKit.Below.refl _ w1).alloc (Nat.le_refl _) _)) ?_ ?_ ?_ ?_; rfl; rfl; rfl; rfl; kernel_rfl; (show 0 + 9 ≤ 9; decide); exact partL_one _; intro w9 hw9 hm9 hs9; rw [spl9 _ rfl] at hw9)
        | fail)
      refine bodyPost_cell rfl (w.heap.size + 1 + 1) 85 (partL ⟨f, la2, false⟩).toArray rfl hw9 (by kernel_rfl) (by kernel_rfl) rfl ?_
      exact ⟨rfl, HFIN.out _ w9 (by repeat (first | exact HBB.out | exact (RowKit.Below.refl _ w1).alloc (Nat.le_refl _) _ | refine below_set4 ?_ HGG.out)) hm9⟩
    | true =>
      obtain ⟨w2, hw2⟩ : ∃ w2, w2 = w1.alloc (.cells #[.int .u64 (wd f 0 : Nat), .int .u64 (wd f 1 : Nat), .int .u64 (wd f 2 : Nat), .int .u64 (wd f 3 : Nat), .int .u64 (wd la2 0 : Nat), .int .u64 (wd la2 1 : Nat), .int .u64 (wd la2 2 : Nat), .int .u64 (wd la2 3 : Nat), .bool false] 85) := ⟨_, rfl⟩
      have hb2 : RowKit.Below w1.heap.size w1 w2 := by rw [hw2]; exact (RowKit.Below.refl _ _).alloc (Nat.le_refl _) _
      have hb7 : w2.heap[gg]? = some (.cells #[.int .u64 (wd f 0 : Nat), .int .u64 (wd f 1 : Nat), .int .u64 (wd f 2 : Nat), .int .u64 (wd f 3 : Nat), .int .u64 (wd la2 0 : Nat), .int .u64 (wd la2 1 : Nat), .int .u64 (wd la2 2 : Nat), .int .u64 (wd la2 3 : Nat), .bool false] 85 (0, 0)) := by rw [hw2, hgg]; exact heap_alloc_new _ _
      have HW2 := Lib.hid hw2; have HG := Lib.hid hgg; have HB7 := Lib.hid hb7; have HBB := Lib.hid hb2
      clear hw2 hgg hb7 hb2
      go_wp2_with fail
      rw [← HW2.out, ← HG.out]
      clear d0 d1 d2 d3 d4 d5 d6 d7 d8 d9 d10 d11 d12 d13 d14 d15 d16 d17
      refine (with_lit la2 la _).mono ?_
      rintro e w3 ⟨rfl, hbq⟩
      have hb7 : w3.heap[gg]? = some (.cells #[.int .u64 (wd f 0 : Nat), .int .u64 (wd f 1 : Nat), .int .u64 (wd f 2 : Nat), .int .u64 (wd f 3 : Nat), .int .u64 (wd la2 0 : Nat), .int .u64 (wd la2 1 : Nat), .int .u64 (wd la2 2 : Nat), .int .u64 (wd la2 3 : Nat), .bool false] 85 (0, 0)) := (hbq.block _ (blk_lt HB7.out)).trans HB7.out
      have hbb := HBB.out.trans (hbq.mono HBB.out.size)
      clear HB7 HBB hbq
      have y0 := cell_blk hb7 0
      have y1 := cell_blk hb7 1
      have y2 := cell_blk hb7 2
      have y3 := cell_blk hb7 3
      have y4 := cell_blk hb7 4
      have y5 := cell_blk hb7 5
      have y6 := cell_blk hb7 6
      have y7 := cell_blk hb7 7
      have y8 := cell_blk hb7 8
      have yf := fun i => free_blk hb7 i
      simp only [List.getElem?_toArray, List.getElem?_cons_zero, List.getElem?_cons_succ] at y0 y1 y2 y3 y4 y5 y6 y7 y8
      have HB7 := Lib.hid hb7; have HBB := Lib.hid hbb; clear hb7 hbb
      obtain ⟨d0, d1, d2, d3, d4, d5, d6, d7, d8, d9, d10, d11, d12, d13, d14, d15, d16, d17, -⟩ := HS1.out _ HBB.out
      go_wp2_with (first
        | (refine wpList_store_agg (o := ⟨none, _, _, _, _, _⟩) ?_ 85 (.tmp 6) (.tmp 41) ?_ (w.heap.size + 1 + 1) 0 (partL ⟨f, la2 ||| la, false⟩) ?_ ?_ 85 zP (HZ1.out _ (by repeat (first | exact HBB.out | refine below_set4 ?_ HGG.out))) ?_ ?_ ?_ ?_; rfl; rfl; rfl; rfl; kernel_rfl; (show 0 + 9 ≤ 9; decide); exact partL_one _; intro w9 hw9 hm9 hs9; rw [spl9 _ rfl] at hw9)
        | fail)
      refine bodyPost_cell rfl (w.heap.size + 1 + 1) 85 (partL ⟨f, la2 ||| la, false⟩).toArray rfl hw9 (by kernel_rfl) (by kernel_rfl) rfl ?_
      exact ⟨rfl, HFIN.out _ w9 (by repeat (first | exact HBB.out | refine below_set4 ?_ HGG.out)) hm9⟩
  | true =>
    cases em2 with
    | false =>
      obtain ⟨w2, hw2⟩ : ∃ w2, w2 = w1.alloc (.cells #[.int .u64 (wd f 0 : Nat), .int .u64 (wd f 1 : Nat), .int .u64 (wd f 2 : Nat), .int .u64 (wd f 3 : Nat), .int .u64 (wd la2 0 : Nat), .int .u64 (wd la2 1 : Nat), .int .u64 (wd la2 2 : Nat), .int .u64 (wd la2 3 : Nat), .bool false] 85) := ⟨_, rfl⟩
      have hb2 : RowKit.Below w1.heap.size w1 w2 := by rw [hw2]; exact (RowKit.Below.refl _ _).alloc (Nat.le_refl _) _
      have hb7 : w2.heap[gg]? = some (.cells #[.int .u64 (wd f 0 : Nat), .int .u64 (wd f 1 : Nat), .int .u64 (wd f 2 : Nat), .int .u64 (wd f 3 : Nat), .int .u64 (wd la2 0 : Nat), .int .u64 (wd la2 1 : Nat), .int .u64 (wd la2 2 : Nat), .int .u64 (wd la2 3 : Nat), .bool false] 85 (0, 0)) := by rw [hw2, hgg]; exact heap_alloc_new _ _
      have HW2 := Lib.hid hw2; have HG := Lib.hid hgg; have HB7 := Lib.hid hb7; have HBB := Lib.hid hb2
      clear hw2 hgg hb7 hb2
      go_wp2_with fail
      rw [← HW2.out, ← HG.out]
      clear d0 d1 d2 d3 d4 d5 d6 d7 d8 d9 d10 d11 d12 d13 d14 d15 d16 d17
      refine (with_lit f f2 _).mono ?_
      rintro e w3 ⟨rfl, hbq⟩
      have hb7 : w3.heap[gg]? = some (.cells #[.int .u64 (wd f 0 : Nat), .int .u64 (wd f 1 : Nat), .int .u64 (wd f 2 : Nat), .int .u64 (wd f 3 : Nat), .int .u64 (wd la2 0 : Nat), .int .u64 (wd la2 1 : Nat), .int .u64 (wd la2 2 : Nat), .int .u64 (wd la2 3 : Nat), .bool false] 85 (0, 0)) := (hbq.block _ (blk_lt HB7.out)).trans HB7.out
      have hbb := HBB.out.trans (hbq.mono HBB.out.size)
      clear HB7 HBB hbq
      have y0 := cell_blk hb7 0
      have y1 := cell_blk hb7 1
      have y2 := cell_blk hb7 2
      have y3 := cell_blk hb7 3
      have y4 := cell_blk hb7 4
      have y5 := cell_blk hb7 5
      have y6 := cell_blk hb7 6
      have y7 := cell_blk hb7 7
      have y8 := cell_blk hb7 8
      have yf := fun i => free_blk hb7 i
      simp only [List.getElem?_toArray, List.getElem?_cons_zero, List.getElem?_cons_succ] at y0 y1 y2 y3 y4 y5 y6 y7 y8
      have HB7 := Lib.hid hb7; have HBB := Lib.hid hbb; clear hb7 hbb
      obtain ⟨d0, d1, d2, d3, d4, d5, d6, d7, d8, d9, d10, d11, d12, d13, d14, d15, d16, d17, -⟩ := HS1.out _ HBB.out
      go_wp2_with (first
        | (refine wpList_store_agg (o := ⟨none, _, _, _, _, _⟩) ?_ 85 (.tmp 6) (.tmp 41) ?_ (w.heap.size + 1 + 1) 0 (partL ⟨f ||| f2, la2, false⟩) ?_ ?_ 85 zP (HZ1.out _ (by repeat (first | exact HBB.out | refine below_set4 ?_ HGG.out))) ?_ ?_ ?_ ?_; rfl; rfl; rfl; rfl; kernel_rfl; (show 0 + 9 ≤ 9; decide); exact partL_one _; intro w9 hw9 hm9 hs9; rw [spl9 _ rfl] at hw9)
        | fail)
      refine bodyPost_cell rfl (w.heap.size + 1 + 1) 85 (partL ⟨f ||| f2, la2, false⟩).toArray rfl hw9 (by kernel_rfl) (by kernel_rfl) rfl ?_
      exact ⟨rfl, HFIN.out _ w9 (by repeat (first | exact HBB.out | refine below_set4 ?_ HGG.out)) hm9⟩
    | true =>
      obtain ⟨w2, hw2⟩ : ∃ w2, w2 = w1.alloc (.cells #[.int .u64 (wd f 0 : Nat), .int .u64 (wd f 1 : Nat), .int .u64 (wd f 2 : Nat), .int .u64 (wd f 3 : Nat), .int .u64 (wd la2 0 : Nat), .int .u64 (wd la2 1 : Nat), .int .u64 (wd la2 2 : Nat), .int .u64 (wd la2 3 : Nat), .bool true] 85) := ⟨_, rfl⟩
      have hb2 : RowKit.Below w1.heap.size w1 w2 := by rw [hw2]; exact (RowKit.Below.refl _ _).alloc (Nat.le_refl _) _
      have hb7 : w2.heap[gg]? = some (.cells #[.int .u64 (wd f 0 : Nat), .int .u64 (wd f 1 : Nat), .int .u64 (wd f 2 : Nat), .int .u64 (wd f 3 : Nat), .int .u64 (wd la2 0 : Nat), .int .u64 (wd la2 1 : Nat), .int .u64 (wd la2 2 : Nat), .int .u64 (wd la2 3 : Nat), .bool true] 85 (0, 0)) := by rw [hw2, hgg]; exact heap_alloc_new _ _
      have HW2 := Lib.hid hw2; have HG := Lib.hid hgg; have HB7 := Lib.hid hb7; have HBB := Lib.hid hb2
      clear hw2 hgg hb7 hb2
      go_wp2_with fail
      rw [← HW2.out, ← HG.out]
      clear d0 d1 d2 d3 d4 d5 d6 d7 d8 d9 d10 d11 d12 d13 d14 d15 d16 d17
      refine (with_lit f f2 _).mono ?_
      rintro e w3 ⟨rfl, hbq⟩
      have hb7 : w3.heap[gg]? = some (.cells #[.int .u64 (wd f 0 : Nat), .int .u64 (wd f 1 : Nat), .int .u64 (wd f 2 : Nat), .int .u64 (wd f 3 : Nat), .int .u64 (wd la2 0 : Nat), .int .u64 (wd la2 1 : Nat), .int .u64 (wd la2 2 : Nat), .int .u64 (wd la2 3 : Nat), .bool true] 85 (0, 0)) := (hbq.block _ (blk_lt HB7.out)).trans HB7.out
      have hbb := HBB.out.trans (hbq.mono HBB.out.size)
      clear HB7 HBB hbq
      have y0 := cell_blk hb7 0
      have y1 := cell_blk hb7 1
      have y2 := cell_blk hb7 2
      have y3 := cell_blk hb7 3
      have y4 := cell_blk hb7 4
      have y5 := cell_blk hb7 5
      have y6 := cell_blk hb7 6
      have y7 := cell_blk hb7 7
      have y8 := cell_blk hb7 8
      have yf := fun i => free_blk hb7 i
      simp only [List.getElem?_toArray, List.getElem?_cons_zero, List.getElem?_cons_succ] at y0 y1 y2 y3 y4 y5 y6 y7 y8
      have HB7 := Lib.hid hb7; have HBB := Lib.hid hbb; clear hb7 hbb
      obtain ⟨d0, d1, d2, d3, d4, d5, d6, d7, d8, d9, d10, d11, d12, d13, d14, d15, d16, d17, -⟩ := HS1.out _ HBB.out
      go_wp2_with fail
      obtain ⟨w4, hw4⟩ : ∃ w4, w4 = (((w3.setCell ⟨gg, 0, none⟩ (.int .u64 (wd (f ||| f2) 0 : Nat))).setCell ⟨gg, 1, none⟩ (.int .u64 (wd (f ||| f2) 1 : Nat))).setCell ⟨gg, 2, none⟩ (.int .u64 (wd (f ||| f2) 2 : Nat))).setCell ⟨gg, 3, none⟩ (.int .u64 (wd (f ||| f2) 3 : Nat)) := ⟨_, rfl⟩
      rw [← hw4]
      have hb7 : w4.heap[gg]? = some (.cells #[.int .u64 (wd (f ||| f2) 0 : Nat), .int .u64 (wd (f ||| f2) 1 : Nat), .int .u64 (wd (f ||| f2) 2 : Nat), .int .u64 (wd (f ||| f2) 3 : Nat), .int .u64 (wd la2 0 : Nat), .int .u64 (wd la2 1 : Nat), .int .u64 (wd la2 2 : Nat), .int .u64 (wd la2 3 : Nat), .bool true] 85 (0, 0)) := by rw [hw4]; exact stored4 (o := 0) HB7.out
      have hbb : RowKit.Below w1.heap.size w1 w4 := by rw [hw4]; exact below_set4 (o := 0) HBB.out HGG.out
      clear hw4 HB7 HBB d0 d1 d2 d3 d4 d5 d6 d7 d8 d9 d10 d11 d12 d13 d14 d15 d16 d17 y0 y1 y2 y3 y4 y5 y6 y7 y8 yf
      have HB7 := Lib.hid hb7; have HBB := Lib.hid hbb; clear hb7 hbb
      refine (with_lit la2 la _).mono ?_
      rintro e w5 ⟨rfl, hbq⟩
      have hb7 : w5.heap[gg]? = some (.cells #[.int .u64 (wd (f ||| f2) 0 : Nat), .int .u64 (wd (f ||| f2) 1 : Nat), .int .u64 (wd (f ||| f2) 2 : Nat), .int .u64 (wd (f ||| f2) 3 : Nat), .int .u64 (wd la2 0 : Nat), .int .u64 (wd la2 1 : Nat), .int .u64 (wd la2 2 : Nat), .int .u64 (wd la2 3 : Nat), .bool true] 85 (0, 0)) := (hbq.block _ (blk_lt HB7.out)).trans HB7.out
      have hbb := HBB.out.trans (hbq.mono HBB.out.size)
      clear HB7 HBB hbq
      have y0 := cell_blk hb7 0
      have y1 := cell_blk hb7 1
      have y2 := cell_blk hb7 2
      have y3 := cell_blk hb7 3
      have y4 := cell_blk hb7 4
      have y5 := cell_blk hb7 5
      have y6 := cell_blk hb7 6
      have y7 := cell_blk hb7 7
      have y8 := cell_blk hb7 8
      have yf := fun i => free_blk hb7 i
      simp only [List.getElem?_toArray, List.getElem?_cons_zero, List.getElem?_cons_succ] at y0 y1 y2 y3 y4 y5 y6 y7 y8
      have HB7 := Lib.hid hb7; have HBB := Lib.hid hbb; clear hb7 hbb
      obtain ⟨d0, d1, d2, d3, d4, d5, d6, d7, d8, d9, d10, d11, d12, d13, d14, d15, d16, d17, -⟩ := HS1.out _ HBB.out
      go_wp2_with (first
        | (refine wpList_store_agg (o := ⟨none, _, _, _, _, _⟩) ?_ 85 (.tmp 6) (.tmp 41) ?_ (w.heap.size + 1 + 1) 0 (partL ⟨f ||| f2, la2 ||| la, true⟩) ?_ ?_ 85 zP (HZ1.out _ (by repeat (first | exact HBB.out | refine below_set4 ?_ HGG.out))) ?_ ?_ ?_ ?_; rfl; rfl; rfl; rfl; kernel_rfl; (show 0 + 9 ≤ 9; decide); exact partL_one _; intro w9 hw9 hm9 hs9; rw [spl9 _ rfl] at hw9)
        | fail)
      refine bodyPost_cell rfl (w.heap.size + 1 + 1) 85 (partL ⟨f ||| f2, la2 ||| la, true⟩).toArray rfl hw9 (by kernel_rfl) (by kernel_rfl) rfl ?_
      exact ⟨rfl, HFIN.out _ w9 (by repeat (first | exact HBB.out | refine below_set4 ?_ HGG.out)) hm9⟩
end
end Go.Proofs.Ytfohmepjedehfab
