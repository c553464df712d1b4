/-
  A part with another one behind it. A piece: an atom, and how often it may come. Branches and patterns, groups given. A group; all groups, as deep as they may be. The places of a text. The places of a text, walked. What the parser's panic is caught by. A pattern in memory; a text read as a pattern, or its fault. Parse: the pattern of a text, or its fault.
-/
import Derived.Lib.MapLaws
import Derived.Lib.OthersKept
import Derived.Defers
import Derived.Recover
import Derived.Test.YtjgappbomohlcaaGreatDoorKQn
import Derived.Test.YtjgappbomohlcaaGreatDoorKQa
import Derived.Test.YtjgappbomohlcaaGreatDoorK01
namespace Go.Proofs.YtjgappbomohlcaaGreatDoor
section
set_option linter.unusedVariables false
set_option linter.unusedSimpArgs false
section
set_option linter.unusedVariables false
set_option linter.unusedSimpArgs false
open Go.RowKit
section
set_option maxHeartbeats 1600000
set_option maxRecDepth 100000
/-- A set of a part turned. -/
theorem stored4 {w : World} {g o : Nat} {t : TypeId} {cs : Array Value} {v0 v1 v2 v3 : Value} (h : w.heap[g]? = some (.cells cs t (0, 0))) : ((((w.setCell ⟨g, o, none⟩ v0).setCell ⟨g, o + 1, none⟩ v1).setCell ⟨g, o + 2, none⟩ v2).setCell ⟨g, o + 3, none⟩ v3).heap[g]? = some (.cells ((((cs.setIfInBounds o v0).setIfInBounds (o + 1) v1).setIfInBounds (o + 2) v2).setIfInBounds (o + 3) v3) t (0, 0)) :=
  set_blk (set_blk (set_blk (set_blk h o v0) (o + 1) v1) (o + 2) v2) (o + 3) v3
theorem below_set4 {w w' : World} {g o : Nat} {v0 v1 v2 v3 : Value} (h : RowKit.Below w.heap.size w w') (hg : w.heap.size ≤ g) : RowKit.Below w.heap.size w ((((w'.setCell ⟨g, o, none⟩ v0).setCell ⟨g, o + 1, none⟩ v1).setCell ⟨g, o + 2, none⟩ v2).setCell ⟨g, o + 3, none⟩ v3) := by
  have m : Mv (fun k => w.heap.size ≤ k) w ((((w'.setCell ⟨g, o, none⟩ v0).setCell ⟨g, o + 1, none⟩ v1).setCell ⟨g, o + 2, none⟩ v2).setCell ⟨g, o + 3, none⟩ v3) := ((((Mv.of_below h (fun k => w.heap.size ≤ k)).setCell (fun _ => hg) v0).setCell (fun _ => hg) v1).setCell (fun _ => hg) v2).setCell (fun _ => hg) v3
  exact m.belowB (Nat.le_refl _) fun k hk h => by omega
theorem follow_lit (p : Nat) (l : List Pc) (v : Value) (us : List Value) (L : List Atm) (a b : Nat) (w : World) (h : PIs w p l v us L) :
    Calls Tryz.prog 183 #[.pointer (some ⟨p, 0, none⟩), .agg #[.int .u64 (wd a 0 : Nat), .int .u64 (wd a 1 : Nat), .int .u64 (wd a 2 : Nat), .int .u64 (wd a 3 : Nat)], .agg #[.int .u64 (wd b 0 : Nat), .int .u64 (wd b 1 : Nat), .int .u64 (wd b 2 : Nat), .int .u64 (wd b 3 : Nat)]] w fun e w' => e = .returned (.tuple #[]) ∧ PIs w' p l v us (followP a b L) ∧ Mv (fun k => v.ownBlock = some k) w w' := follow_any p l v us L a b w h
theorem join_any (p : Nat) (l : List Pc) (v : Value) (us : List Value) (L : List Atm) (a b : Prt) (w : World) (h : PIs w p l v us L) :
    Calls Tryz.prog 181 #[.pointer (some ⟨p, 0, none⟩), partV a, partV b] w fun e w' => e = .returned (partV (joinP a b)) ∧ PIs w' p l v us (followP a.last b.first L) ∧ Mv (fun k => v.ownBlock = some k) w w' := by
  obtain ⟨f, la, em⟩ := a
  obtain ⟨f2, la2, em2⟩ := b
  obtain ⟨W, hW⟩ : ∃ W, W = ((w.alloc (.cells #[.int .u64 (wd f 0 : Nat), .int .u64 (wd f 1 : Nat), .int .u64 (wd f 2 : Nat), .int .u64 (wd f 3 : Nat), .int .u64 (wd la 0 : Nat), .int .u64 (wd la 1 : Nat), .int .u64 (wd la 2 : Nat), .int .u64 (wd la 3 : Nat), .bool em] 186)).alloc (.cells #[.int .u64 (wd f2 0 : Nat), .int .u64 (wd f2 1 : Nat), .int .u64 (wd f2 2 : Nat), .int .u64 (wd f2 3 : Nat), .int .u64 (wd la2 0 : Nat), .int .u64 (wd la2 1 : Nat), .int .u64 (wd la2 2 : Nat), .int .u64 (wd la2 3 : Nat), .bool em2] 186)).alloc (.cells #[.int .u64 0, .int .u64 0, .int .u64 0, .int .u64 0, .int .u64 0, .int .u64 0, .int .u64 0, .int .u64 0, .bool false] 186) := ⟨_, rfl⟩
  have hb : RowKit.Below w.heap.size w W := by rw [hW]; exact (((RowKit.Below.refl _ w).alloc (Nat.le_refl _) _).alloc (by simp) _).alloc (by simp; omega) _
  have h2 : W.heap[w.heap.size]? = some (.cells #[.int .u64 (wd f 0 : Nat), .int .u64 (wd f 1 : Nat), .int .u64 (wd f 2 : Nat), .int .u64 (wd f 3 : Nat), .int .u64 (wd la 0 : Nat), .int .u64 (wd la 1 : Nat), .int .u64 (wd la 2 : Nat), .int .u64 (wd la 3 : Nat), .bool em] 186 (0, 0)) := by
    rw [hW, Below.heap_alloc _ _ _ (by simp; omega), Below.heap_alloc _ _ _ (by simp)]; exact heap_alloc_new _ _
  have h3 : W.heap[w.heap.size + 1]? = some (.cells #[.int .u64 (wd f2 0 : Nat), .int .u64 (wd f2 1 : Nat), .int .u64 (wd f2 2 : Nat), .int .u64 (wd f2 3 : Nat), .int .u64 (wd la2 0 : Nat), .int .u64 (wd la2 1 : Nat), .int .u64 (wd la2 2 : Nat), .int .u64 (wd la2 3 : Nat), .bool em2] 186 (0, 0)) := by
    rw [hW, Below.heap_alloc _ _ _ (by simp)]; exact heap_alloc_new2 _ _ _
  have h4 : W.heap[w.heap.size + 1 + 1]? = some (.cells zP 186 (0, 0)) := by
    have := heap_alloc_new ((w.alloc (.cells #[.int .u64 (wd f 0 : Nat), .int .u64 (wd f 1 : Nat), .int .u64 (wd f 2 : Nat), .int .u64 (wd f 3 : Nat), .int .u64 (wd la 0 : Nat), .int .u64 (wd la 1 : Nat), .int .u64 (wd la 2 : Nat), .int .u64 (wd la 3 : Nat), .bool em] 186)).alloc (.cells #[.int .u64 (wd f2 0 : Nat), .int .u64 (wd f2 1 : Nat), .int .u64 (wd f2 2 : Nat), .int .u64 (wd f2 3 : Nat), .int .u64 (wd la2 0 : Nat), .int .u64 (wd la2 1 : Nat), .int .u64 (wd la2 2 : Nat), .int .u64 (wd la2 3 : Nat), .bool em2] 186)) (.cells #[.int .u64 0, .int .u64 0, .int .u64 0, .int .u64 0, .int .u64 0, .int .u64 0, .int .u64 0, .int .u64 0, .bool false] 186)
    rw [hW]; simpa [zP] using this
  have hown : ∀ k, v.ownBlock = some k → k < w.heap.size := fun k hk => (h.at'.row.lt k hk).2
  have hs : ∀ W', Mv (fun k => v.ownBlock = some k ∨ W.heap.size ≤ k) W W' → W'.cell? ⟨w.heap.size, 0, none⟩ = some (.int .u64 (wd f 0 : Nat)) ∧ W'.cell? ⟨w.heap.size, 1, none⟩ = some (.int .u64 (wd f 1 : Nat)) ∧ W'.cell? ⟨w.heap.size, 2, none⟩ = some (.int .u64 (wd f 2 : Nat)) ∧ W'.cell? ⟨w.heap.size, 3, none⟩ = some (.int .u64 (wd f 3 : Nat)) ∧ W'.cell? ⟨w.heap.size, 4, none⟩ = some (.int .u64 (wd la 0 : Nat)) ∧ W'.cell? ⟨w.heap.size, 5, none⟩ = some (.int .u64 (wd la 1 : Nat)) ∧ W'.cell? ⟨w.heap.size, 6, none⟩ = some (.int .u64 (wd la 2 : Nat)) ∧ W'.cell? ⟨w.heap.size, 7, none⟩ = some (.int .u64 (wd la 3 : Nat)) ∧ W'.cell? ⟨w.heap.size, 8, none⟩ = some (.bool em) ∧ W'.cell? ⟨w.heap.size + 1, 0, none⟩ = some (.int .u64 (wd f2 0 : Nat)) ∧ W'.cell? ⟨w.heap.size + 1, 1, none⟩ = some (.int .u64 (wd f2 1 : Nat)) ∧ W'.cell? ⟨w.heap.size + 1, 2, none⟩ = some (.int .u64 (wd f2 2 : Nat)) ∧ W'.cell? ⟨w.heap.size + 1, 3, none⟩ = some (.int .u64 (wd f2 3 : Nat)) ∧ W'.cell? ⟨w.heap.size + 1, 4, none⟩ = some (.int .u64 (wd la2 0 : Nat)) ∧ W'.cell? ⟨w.heap.size + 1, 5, none⟩ = some (.int .u64 (wd la2 1 : Nat)) ∧ W'.cell? ⟨w.heap.size + 1, 6, none⟩ = some (.int .u64 (wd la2 2 : Nat)) ∧ W'.cell? ⟨w.heap.size + 1, 7, none⟩ = some (.int .u64 (wd la2 3 : Nat)) ∧ W'.cell? ⟨w.heap.size + 1, 8, none⟩ = some (.bool em2) ∧ W'.heap[w.heap.size + 1 + 1]? = some (.cells zP 186 (0, 0)) := fun W' hb' => by
    have hno : ∀ k, w.heap.size ≤ k → k < W.heap.size → ¬ (v.ownBlock = some k ∨ W.heap.size ≤ k) := fun k h1 h2 e => by
      rcases e with e | e
      · have := hown _ e; omega
      · omega
    have k2 := (hb'.block _ (blk_lt h2) (hno _ (by omega) (blk_lt h2))).trans h2
    have k3 := (hb'.block _ (blk_lt h3) (hno _ (by omega) (blk_lt h3))).trans h3
    refine ⟨?_, ?_, ?_, ?_, ?_, ?_, ?_, ?_, ?_, ?_, ?_, ?_, ?_, ?_, ?_, ?_, ?_, ?_, (hb'.block _ (blk_lt h4) (hno _ (by omega) (blk_lt h4))).trans h4⟩ <;> first | (rw [cell_blk k2]; rfl) | (rw [cell_blk k3]; rfl)
  have h1 := h.below hb
  have hz0 := hs W (Mv.refl _ _)
  have HF := Lib.hid (follow_lit p l v us L la f2 W h1)
  have HS := Lib.hid hs; have HB := Lib.hid hb; have HW := Lib.hid hW
  have HP3 := Lib.hid (show p < w.heap.size + 1 + 1 by have := h.lt; omega)
  have HOW := Lib.hid hown
  obtain ⟨d0, d1, d2, d3, d4, d5, d6, d7, d8, d9, d10, d11, d12, d13, d14, d15, d16, d17, -⟩ := hz0
  clear hb h2 h3 h4 hown hs h1 hW h
  unfold partV partC
  simp only [joinP]
  go_enter Tryz.func181, Tryz.ntmps181
  go_wp2_with fail
  rw [← HW.out]
  refine HF.out.mono ?_
  rintro e w1 ⟨rfl, hp1, hm1⟩
  have HS1 := Lib.hid (show ∀ W', RowKit.Below w1.heap.size w1 W' → _ from fun W' hb' => HS.out W' ((hm1.mono fun _ _ h => Or.inl h).trans (Mv.of_below hb' (fun k => v.ownBlock = some k ∨ W.heap.size ≤ k)) fun _ _ h => h))
  have HP1 := Lib.hid hp1; have HM1 := Lib.hid hm1; clear hp1 hm1 d0 d1 d2 d3 d4 d5 d6 d7 d8 d9 d10 d11 d12 d13 d14 d15 d16 d17
  obtain ⟨d0, d1, d2, d3, d4, d5, d6, d7, d8, d9, d10, d11, d12, d13, d14, d15, d16, d17, -⟩ := HS1.out w1 (RowKit.Below.refl _ _)
  obtain ⟨gg, hgg⟩ : ∃ gg, gg = w1.heap.size := ⟨_, rfl⟩
  have HGG := Lib.hid (show w1.heap.size ≤ gg by omega)
  have HZ1 := Lib.hid (show ∀ W', RowKit.Below w1.heap.size w1 W' → W'.heap[w.heap.size + 1 + 1]? = some (.cells zP 186 (0, 0)) from fun W' b => by
    obtain ⟨-, -, -, -, -, -, -, -, -, -, -, -, -, -, -, -, -, -, hz⟩ := HS1.out W' b
    exact hz)
  have HFIN := Lib.hid (show ∀ (w2 w3 : World), RowKit.Below w1.heap.size w1 w2 → Mv (fun k => k = w.heap.size + 1 + 1) w2 w3 → PIs w3 p l v us (followP la f2 L) ∧ Mv (fun k => v.ownBlock = some k) w w3 from fun w2 w3 b m => by
    obtain ⟨-, -, -, -, -, -, -, -, -, -, -, -, -, -, -, -, -, -, hz⟩ := HS1.out w2 b
    refine ⟨(HP1.out.below b).store hz HP3.out m, (((Mv.of_below HB.out (fun k => v.ownBlock = some k)).trans HM1.out fun _ _ h => h).trans (Mv.of_below b _) fun _ _ h => h).trans m fun i hi e => by omega⟩)
  have hl1 : w.heap.size < w1.heap.size := blk_lt (HZ1.out w1 (RowKit.Below.refl _ _)) |> fun h => by omega
  have hl2 : w.heap.size + 1 < w1.heap.size := blk_lt (HZ1.out w1 (RowKit.Below.refl _ _)) |> fun h => by omega
  have hl3 : w.heap.size + 1 + 1 < w1.heap.size := blk_lt (HZ1.out w1 (RowKit.Below.refl _ _))
  have hn1 : w.heap.size ≠ gg := by omega
  have hn2 : w.heap.size + 1 ≠ gg := by omega
  have hn3 : w.heap.size + 1 + 1 ≠ gg := by omega
  have hn4 : w.heap.size ≠ w1.heap.size := by omega
  have hn5 : w.heap.size + 1 ≠ w1.heap.size := by omega
  have hn6 : w.heap.size + 1 + 1 ≠ w1.heap.size := by omega
  cases em with
  | false =>
    cases em2 with
    | false =>
      obtain ⟨w2, hw2⟩ : ∃ w2, w2 = w1.alloc (.cells #[.int .u64 (wd f 0 : Nat), .int .u64 (wd f 1 : Nat), .int .u64 (wd f 2 : Nat), .int .u64 (wd f 3 : Nat), .int .u64 (wd la2 0 : Nat), .int .u64 (wd la2 1 : Nat), .int .u64 (wd la2 2 : Nat), .int .u64 (wd la2 3 : Nat), .bool false] 186) := ⟨_, rfl⟩
      have hb2 : RowKit.Below w1.heap.size w1 w2 := by rw [hw2]; exact (RowKit.Below.refl _ _).alloc (Nat.le_refl _) _
      have hb7 : w2.heap[gg]? = some (.cells #[.int .u64 (wd f 0 : Nat), .int .u64 (wd f 1 : Nat), .int .u64 (wd f 2 : Nat), .int .u64 (wd f 3 : Nat), .int .u64 (wd la2 0 : Nat), .int .u64 (wd la2 1 : Nat), .int .u64 (wd la2 2 : Nat), .int .u64 (wd la2 3 : Nat), .bool false] 186 (0, 0)) := by rw [hw2, hgg]; exact heap_alloc_new _ _
      have HW2 := Lib.hid hw2; have HG := Lib.hid hgg; have HB7 := Lib.hid hb7; have HBB := Lib.hid hb2
      clear hw2 hgg hb7 hb2
      go_wp2_with (first
        | (refine wpList_store_agg (o := ⟨none, _, _, _, _, _⟩) ?_ 186 (.tmp 6) (.tmp 41) ?_ (w.heap.size + 1 + 1) 0 (partL ⟨f, la2, false⟩) ?_ ?_ 186 zP (HZ1.out _ (by first | exact HBB.out | exact (RowKit.Below.refl _ w1).alloc (Nat.le_refl _) _)) ?_ ?_ ?_ ?_; rfl; rfl; rfl; rfl; kernel_rfl; (show 0 + 9 ≤ 9; decide); exact partL_one _; intro w9 hw9 hm9 hs9; rw [spl9 _ rfl] at hw9)
        | fail)
      refine bodyPost_cell rfl (w.heap.size + 1 + 1) 186 (partL ⟨f, la2, false⟩).toArray rfl hw9 (by kernel_rfl) (by kernel_rfl) rfl ?_
      exact ⟨rfl, HFIN.out _ w9 (by repeat (first | exact HBB.out | exact (RowKit.Below.refl _ w1).alloc (Nat.le_refl _) _ | refine below_set4 ?_ HGG.out)) hm9⟩
    | true =>
      obtain ⟨w2, hw2⟩ : ∃ w2, w2 = w1.alloc (.cells #[.int .u64 (wd f 0 : Nat), .int .u64 (wd f 1 : Nat), .int .u64 (wd f 2 : Nat), .int .u64 (wd f 3 : Nat), .int .u64 (wd la2 0 : Nat), .int .u64 (wd la2 1 : Nat), .int .u64 (wd la2 2 : Nat), .int .u64 (wd la2 3 : Nat), .bool false] 186) := ⟨_, rfl⟩
      have hb2 : RowKit.Below w1.heap.size w1 w2 := by rw [hw2]; exact (RowKit.Below.refl _ _).alloc (Nat.le_refl _) _
      have hb7 : w2.heap[gg]? = some (.cells #[.int .u64 (wd f 0 : Nat), .int .u64 (wd f 1 : Nat), .int .u64 (wd f 2 : Nat), .int .u64 (wd f 3 : Nat), .int .u64 (wd la2 0 : Nat), .int .u64 (wd la2 1 : Nat), .int .u64 (wd la2 2 : Nat), .int .u64 (wd la2 3 : Nat), .bool false] 186 (0, 0)) := by rw [hw2, hgg]; exact heap_alloc_new _ _
      have HW2 := Lib.hid hw2; have HG := Lib.hid hgg; have HB7 := Lib.hid hb7; have HBB := Lib.hid hb2
      clear hw2 hgg hb7 hb2
      go_wp2_with fail
      rw [← HW2.out, ← HG.out]
      clear d0 d1 d2 d3 d4 d5 d6 d7 d8 d9 d10 d11 d12 d13 d14 d15 d16 d17
      refine (with_lit la2 la _).mono ?_
      rintro e w3 ⟨rfl, hbq⟩
      have hb7 : w3.heap[gg]? = some (.cells #[.int .u64 (wd f 0 : Nat), .int .u64 (wd f 1 : Nat), .int .u64 (wd f 2 : Nat), .int .u64 (wd f 3 : Nat), .int .u64 (wd la2 0 : Nat), .int .u64 (wd la2 1 : Nat), .int .u64 (wd la2 2 : Nat), .int .u64 (wd la2 3 : Nat), .bool false] 186 (0, 0)) := (hbq.block _ (blk_lt HB7.out)).trans HB7.out
      have hbb := HBB.out.trans (hbq.mono HBB.out.size)
      clear HB7 HBB hbq
      have y0 := cell_blk hb7 0
      have y1 := cell_blk hb7 1
      have y2 := cell_blk hb7 2
      have y3 := cell_blk hb7 3
      have y4 := cell_blk hb7 4
      have y5 := cell_blk hb7 5
      have y6 := cell_blk hb7 6
      have y7 := cell_blk hb7 7
      have y8 := cell_blk hb7 8
      have yf := fun i => free_blk hb7 i
      simp only [List.getElem?_toArray, List.getElem?_cons_zero, List.getElem?_cons_succ] at y0 y1 y2 y3 y4 y5 y6 y7 y8
      have HB7 := Lib.hid hb7; have HBB := Lib.hid hbb; clear hb7 hbb
      obtain ⟨d0, d1, d2, d3, d4, d5, d6, d7, d8, d9, d10, d11, d12, d13, d14, d15, d16, d17, -⟩ := HS1.out _ HBB.out
      go_wp2_with (first
        | (refine wpList_store_agg (o := ⟨none, _, _, _, _, _⟩) ?_ 186 (.tmp 6) (.tmp 41) ?_ (w.heap.size + 1 + 1) 0 (partL ⟨f, la2 ||| la, false⟩) ?_ ?_ 186 zP (HZ1.out _ (by repeat (first | exact HBB.out | refine below_set4 ?_ HGG.out))) ?_ ?_ ?_ ?_; rfl; rfl; rfl; rfl; kernel_rfl; (show 0 + 9 ≤ 9; decide); exact partL_one _; intro w9 hw9 hm9 hs9; rw [spl9 _ rfl] at hw9)
        | fail)
      refine bodyPost_cell rfl (w.heap.size + 1 + 1) 186 (partL ⟨f, la2 ||| la, false⟩).toArray rfl hw9 (by kernel_rfl) (by kernel_rfl) rfl ?_
      exact ⟨rfl, HFIN.out _ w9 (by repeat (first | exact HBB.out | refine below_set4 ?_ HGG.out)) hm9⟩
  | true =>
    cases em2 with
    | false =>
      obtain ⟨w2, hw2⟩ : ∃ w2, w2 = w1.alloc (.cells #[.int .u64 (wd f 0 : Nat), .int .u64 (wd f 1 : Nat), .int .u64 (wd f 2 : Nat), .int .u64 (wd f 3 : Nat), .int .u64 (wd la2 0 : Nat), .int .u64 (wd la2 1 : Nat), .int .u64 (wd la2 2 : Nat), .int .u64 (wd la2 3 : Nat), .bool false] 186) := ⟨_, rfl⟩
      have hb2 : RowKit.Below w1.heap.size w1 w2 := by rw [hw2]; exact (RowKit.Below.refl _ _).alloc (Nat.le_refl _) _
      have hb7 : w2.heap[gg]? = some (.cells #[.int .u64 (wd f 0 : Nat), .int .u64 (wd f 1 : Nat), .int .u64 (wd f 2 : Nat), .int .u64 (wd f 3 : Nat), .int .u64 (wd la2 0 : Nat), .int .u64 (wd la2 1 : Nat), .int .u64 (wd la2 2 : Nat), .int .u64 (wd la2 3 : Nat), .bool false] 186 (0, 0)) := by rw [hw2, hgg]; exact heap_alloc_new _ _
      have HW2 := Lib.hid hw2; have HG := Lib.hid hgg; have HB7 := Lib.hid hb7; have HBB := Lib.hid hb2
      clear hw2 hgg hb7 hb2
      go_wp2_with fail
      rw [← HW2.out, ← HG.out]
      clear d0 d1 d2 d3 d4 d5 d6 d7 d8 d9 d10 d11 d12 d13 d14 d15 d16 d17
      refine (with_lit f f2 _).mono ?_
      rintro e w3 ⟨rfl, hbq⟩
      have hb7 : w3.heap[gg]? = some (.cells #[.int .u64 (wd f 0 : Nat), .int .u64 (wd f 1 : Nat), .int .u64 (wd f 2 : Nat), .int .u64 (wd f 3 : Nat), .int .u64 (wd la2 0 : Nat), .int .u64 (wd la2 1 : Nat), .int .u64 (wd la2 2 : Nat), .int .u64 (wd la2 3 : Nat), .bool false] 186 (0, 0)) := (hbq.block _ (blk_lt HB7.out)).trans HB7.out
      have hbb := HBB.out.trans (hbq.mono HBB.out.size)
      clear HB7 HBB hbq
      have y0 := cell_blk hb7 0
      have y1 := cell_blk hb7 1
      have y2 := cell_blk hb7 2
      have y3 := cell_blk hb7 3
      have y4 := cell_blk hb7 4
      have y5 := cell_blk hb7 5
      have y6 := cell_blk hb7 6
      have y7 := cell_blk hb7 7
      have y8 := cell_blk hb7 8
      have yf := fun i => free_blk hb7 i
      simp only [List.getElem?_toArray, List.getElem?_cons_zero, List.getElem?_cons_succ] at y0 y1 y2 y3 y4 y5 y6 y7 y8
      have HB7 := Lib.hid hb7; have HBB := Lib.hid hbb; clear hb7 hbb
      obtain ⟨d0, d1, d2, d3, d4, d5, d6, d7, d8, d9, d10, d11, d12, d13, d14, d15, d16, d17, -⟩ := HS1.out _ HBB.out
      go_wp2_with (first
        | (refine wpList_store_agg (o := ⟨none, _, _, _, _, _⟩) ?_ 186 (.tmp 6) (.tmp 41) ?_ (w.heap.size + 1 + 1) 0 (partL ⟨f ||| f2, la2, false⟩) ?_ ?_ 186 zP (HZ1.out _ (by repeat (first | exact HBB.out | refine below_set4 ?_ HGG.out))) ?_ ?_ ?_ ?_; rfl; rfl; rfl; rfl; kernel_rfl; (show 0 + 9 ≤ 9; decide); exact partL_one _; intro w9 hw9 hm9 hs9; rw [spl9 _ rfl] at hw9)
        | fail)
      refine bodyPost_cell rfl (w.heap.size + 1 + 1) 186 (partL ⟨f ||| f2, la2, false⟩).toArray rfl hw9 (by kernel_rfl) (by kernel_rfl) rfl ?_
      exact ⟨rfl, HFIN.out _ w9 (by repeat (first | exact HBB.out | refine below_set4 ?_ HGG.out)) hm9⟩
    | true =>
      obtain ⟨w2, hw2⟩ : ∃ w2, w2 = w1.alloc (.cells #[.int .u64 (wd f 0 : Nat), .int .u64 (wd f 1 : Nat), .int .u64 (wd f 2 : Nat), .int .u64 (wd f 3 : Nat), .int .u64 (wd la2 0 : Nat), .int .u64 (wd la2 1 : Nat), .int .u64 (wd la2 2 : Nat), .int .u64 (wd la2 3 : Nat), .bool true] 186) := ⟨_, rfl⟩
      have hb2 : RowKit.Below w1.heap.size w1 w2 := by rw [hw2]; exact (RowKit.Below.refl _ _).alloc (Nat.le_refl _) _
      have hb7 : w2.heap[gg]? = some (.cells #[.int .u64 (wd f 0 : Nat), .int .u64 (wd f 1 : Nat), .int .u64 (wd f 2 : Nat), .int .u64 (wd f 3 : Nat), .int .u64 (wd la2 0 : Nat), .int .u64 (wd la2 1 : Nat), .int .u64 (wd la2 2 : Nat), .int .u64 (wd la2 3 : Nat), .bool true] 186 (0, 0)) := by rw [hw2, hgg]; exact heap_alloc_new _ _
      have HW2 := Lib.hid hw2; have HG := Lib.hid hgg; have HB7 := Lib.hid hb7; have HBB := Lib.hid hb2
      clear hw2 hgg hb7 hb2
      go_wp2_with fail
      rw [← HW2.out, ← HG.out]
      clear d0 d1 d2 d3 d4 d5 d6 d7 d8 d9 d10 d11 d12 d13 d14 d15 d16 d17
      refine (with_lit f f2 _).mono ?_
      rintro e w3 ⟨rfl, hbq⟩
      have hb7 : w3.heap[gg]? = some (.cells #[.int .u64 (wd f 0 : Nat), .int .u64 (wd f 1 : Nat), .int .u64 (wd f 2 : Nat), .int .u64 (wd f 3 : Nat), .int .u64 (wd la2 0 : Nat), .int .u64 (wd la2 1 : Nat), .int .u64 (wd la2 2 : Nat), .int .u64 (wd la2 3 : Nat), .bool true] 186 (0, 0)) := (hbq.block _ (blk_lt HB7.out)).trans HB7.out
      have hbb := HBB.out.trans (hbq.mono HBB.out.size)
      clear HB7 HBB hbq
      have y0 := cell_blk hb7 0
      have y1 := cell_blk hb7 1
      have y2 := cell_blk hb7 2
      have y3 := cell_blk hb7 3
      have y4 := cell_blk hb7 4
      have y5 := cell_blk hb7 5
      have y6 := cell_blk hb7 6
      have y7 := cell_blk hb7 7
      have y8 := cell_blk hb7 8
      have yf := fun i => free_blk hb7 i
      simp only [List.getElem?_toArray, List.getElem?_cons_zero, List.getElem?_cons_succ] at y0 y1 y2 y3 y4 y5 y6 y7 y8
      have HB7 := Lib.hid hb7; have HBB := Lib.hid hbb; clear hb7 hbb
      obtain ⟨d0, d1, d2, d3, d4, d5, d6, d7, d8, d9, d10, d11, d12, d13, d14, d15, d16, d17, -⟩ := HS1.out _ HBB.out
      go_wp2_with fail
      obtain ⟨w4, hw4⟩ : ∃ w4, w4 = (((w3.setCell ⟨gg, 0, none⟩ (.int .u64 (wd (f ||| f2) 0 : Nat))).setCell ⟨gg, 1, none⟩ (.int .u64 (wd (f ||| f2) 1 : Nat))).setCell ⟨gg, 2, none⟩ (.int .u64 (wd (f ||| f2) 2 : Nat))).setCell ⟨gg, 3, none⟩ (.int .u64 (wd (f ||| f2) 3 : Nat)) := ⟨_, rfl⟩
      rw [← hw4]
      have hb7 : w4.heap[gg]? = some (.cells #[.int .u64 (wd (f ||| f2) 0 : Nat), .int .u64 (wd (f ||| f2) 1 : Nat), .int .u64 (wd (f ||| f2) 2 : Nat), .int .u64 (wd (f ||| f2) 3 : Nat), .int .u64 (wd la2 0 : Nat), .int .u64 (wd la2 1 : Nat), .int .u64 (wd la2 2 : Nat), .int .u64 (wd la2 3 : Nat), .bool true] 186 (0, 0)) := by rw [hw4]; exact stored4 (o := 0) HB7.out
      have hbb : RowKit.Below w1.heap.size w1 w4 := by rw [hw4]; exact below_set4 (o := 0) HBB.out HGG.out
      clear hw4 HB7 HBB d0 d1 d2 d3 d4 d5 d6 d7 d8 d9 d10 d11 d12 d13 d14 d15 d16 d17 y0 y1 y2 y3 y4 y5 y6 y7 y8 yf
      have HB7 := Lib.hid hb7; have HBB := Lib.hid hbb; clear hb7 hbb
      refine (with_lit la2 la _).mono ?_
      rintro e w5 ⟨rfl, hbq⟩
      have hb7 : w5.heap[gg]? = some (.cells #[.int .u64 (wd (f ||| f2) 0 : Nat), .int .u64 (wd (f ||| f2) 1 : Nat), .int .u64 (wd (f ||| f2) 2 : Nat), .int .u64 (wd (f ||| f2) 3 : Nat), .int .u64 (wd la2 0 : Nat), .int .u64 (wd la2 1 : Nat), .int .u64 (wd la2 2 : Nat), .int .u64 (wd la2 3 : Nat), .bool true] 186 (0, 0)) := (hbq.block _ (blk_lt HB7.out)).trans HB7.out
      have hbb := HBB.out.trans (hbq.mono HBB.out.size)
      clear HB7 HBB hbq
      have y0 := cell_blk hb7 0
      have y1 := cell_blk hb7 1
      have y2 := cell_blk hb7 2
      have y3 := cell_blk hb7 3
      have y4 := cell_blk hb7 4
      have y5 := cell_blk hb7 5
      have y6 := cell_blk hb7 6
      have y7 := cell_blk hb7 7
      have y8 := cell_blk hb7 8
      have yf := fun i => free_blk hb7 i
      simp only [List.getElem?_toArray, List.getElem?_cons_zero, List.getElem?_cons_succ] at y0 y1 y2 y3 y4 y5 y6 y7 y8
      have HB7 := Lib.hid hb7; have HBB := Lib.hid hbb; clear hb7 hbb
      obtain ⟨d0, d1, d2, d3, d4, d5, d6, d7, d8, d9, d10, d11, d12, d13, d14, d15, d16, d17, -⟩ := HS1.out _ HBB.out
      go_wp2_with (first
        | (refine wpList_store_agg (o := ⟨none, _, _, _, _, _⟩) ?_ 186 (.tmp 6) (.tmp 41) ?_ (w.heap.size + 1 + 1) 0 (partL ⟨f ||| f2, la2 ||| la, true⟩) ?_ ?_ 186 zP (HZ1.out _ (by repeat (first | exact HBB.out | refine below_set4 ?_ HGG.out))) ?_ ?_ ?_ ?_; rfl; rfl; rfl; rfl; kernel_rfl; (show 0 + 9 ≤ 9; decide); exact partL_one _; intro w9 hw9 hm9 hs9; rw [spl9 _ rfl] at hw9)
        | fail)
      refine bodyPost_cell rfl (w.heap.size + 1 + 1) 186 (partL ⟨f ||| f2, la2 ||| la, true⟩).toArray rfl hw9 (by kernel_rfl) (by kernel_rfl) rfl ?_
      exact ⟨rfl, HFIN.out _ w9 (by repeat (first | exact HBB.out | refine below_set4 ?_ HGG.out)) hm9⟩
end
end
section
set_option linter.unusedVariables false
set_option linter.unusedSimpArgs false
open Go.RowKit
theorem Zs.fin' {w W w2 w3 : World} (hz : Zs w W) {p : Nat} {l l' : List Pc} {v v' : Value} {us us' : List Value} {L L2 : List Atm} {t : Re} {X : Prt} (h : PIs w p l v us L) (hc : compP t L = (X, L2)) (h2 : PIs w2 p l' v' us' L2) (m2 : Mvd p v v' W w2) (m3 : Mv (fun k => k = w.heap.size) w2 w3) :
    OutP p v L w (.ok (t, l')) (.returned (.agg (partL X).toArray)) w3 := by
  have := hz.fin (t := t) h (by rw [hc]; exact h2) m2 m3
  rwa [hc] at this
section
set_option maxHeartbeats 1600000
set_option maxRecDepth 100000
theorem follow_keep {p : Nat} {l : List Pc} {v : Value} {us : List Value} {L : List Atm} {w w' : World} {g : Nat} {cs : Array Value} {t : TypeId} (h : PIs w p l v us L) (hg : w.heap[g]? = some (.cells cs t (0, 0))) (ht : 217 ≠ t) (m : Mv (fun k => v.ownBlock = some k) w w') : w'.heap[g]? = some (.cells cs t (0, 0)) :=
  (m.block _ (blk_lt hg) (own_blk h.at'.row hg ht)).trans hg
theorem pass_keep {p : Nat} {w w' : World} {g : Nat} {o : Obj} (hg : w.heap[g]? = some o) (hp : p < g) (m : Mv (fun k => k = p) w w') : w'.heap[g]? = some o :=
  (m.block _ (blk_lt hg) (by omega)).trans hg
/-- A box of a part's own turns. -/
theorem Mvd.part {p : Nat} {v v' : Value} {W w w' : World} {g : Nat} (h : Mvd p v v' W w) (hg : W.heap.size ≤ g) (m : Mv (fun k => k = g) w w') : Mvd p v v' W w' :=
  ⟨h.mv.trans m fun i hi e => by omega, h.own⟩
theorem piece_any (grp : List Pc → Rs Re) (n : Nat) (hG : GC grp n) (p : Nat) (l : List Pc) (v : Value) (us : List Value) (L : List Atm) (w : World) (h : PIs w p l v us L) :
    Calls Tryz.prog 182 #[.pointer (some ⟨p, 0, none⟩), .int .i64 (n : Nat)] w (OutP p v L w (pieceP grp l)) := by
  obtain ⟨R, hR⟩ : ∃ R, R = pieceP grp l := ⟨_, rfl⟩
  rw [← hR]
  unfold pieceP at hR
  obtain ⟨W, hW⟩ : ∃ W, W = w.alloc (.cells #[.int .u64 0, .int .u64 0, .int .u64 0, .int .u64 0, .int .u64 0, .int .u64 0, .int .u64 0, .int .u64 0, .bool false] 186) := ⟨_, rfl⟩
  have hz : Zs w W := by rw [hW]; exact Zs.mk' w
  have h1 := hz.pis h
  have HW := Lib.hid hW; have HZ := Lib.hid hz; have H := Lib.hid h
  clear hW hz
  have ha := atom_any grp n hG p l v us L W h1
  clear h1 h
  generalize atomP grp l = R1 at hR ha
  have HA := Lib.hid ha; clear ha
  cases R1 with
  | error f =>
    have HR := Lib.hid hR; clear hR
    go_enter Tryz.func182, Tryz.ntmps182
    go_wp2_with fail
    rw [← HW.out]
    go_wp2_with fail
    refine HA.out.mono ?_
    rintro e w1 ⟨rfl, hm1⟩
    have HM1 := Lib.hid hm1; clear hm1
    unfold flE
    go_wp2
    rw [HR.out]
    exact ⟨rfl, rfl, HZ.out.err (HM1.out)⟩
  | ok x =>
    obtain ⟨t, l1⟩ := x
    have HRR := Lib.hid hR; clear hR
    go_enter Tryz.func182, Tryz.ntmps182
    go_wp2_with fail
    rw [← HW.out]
    go_wp2_with fail
    refine HA.out.mono ?_
    rintro e w2 ⟨v', us', rfl, h2, hm2⟩
    obtain ⟨X2, hX⟩ : ∃ X2, compP t L = X2 := ⟨_, rfl⟩
    rw [hX] at h2 ⊢
    obtain ⟨⟨f, la, em⟩, L1⟩ := X2
    replace h2 : PIs w2 p l1 v' us' L1 := h2

    simp only [partV, partC]
    have HX := Lib.hid hX; clear hX
    obtain ⟨w3, hw3⟩ : ∃ w3, w3 = w2.alloc (.cells #[.int .u64 (wd f 0 : Nat), .int .u64 (wd f 1 : Nat), .int .u64 (wd f 2 : Nat), .int .u64 (wd f 3 : Nat), .int .u64 (wd la 0 : Nat), .int .u64 (wd la 1 : Nat), .int .u64 (wd la 2 : Nat), .int .u64 (wd la 3 : Nat), .bool em] 186) := ⟨_, rfl⟩
    obtain ⟨gg, hgg⟩ : ∃ gg, gg = w2.heap.size := ⟨_, rfl⟩
    have hbl : RowKit.Below w2.heap.size w2 w3 := by rw [hw3]; exact (RowKit.Below.refl _ _).alloc (Nat.le_refl _) _
    have H3 := Lib.hid (h2.below hbl)
    have HM3 := Lib.hid (hm2.trans (Mvd.of_below hbl))
    have hbe : w3.heap[gg]? = some (.cells (partL ⟨f, la, em⟩).toArray 186 (0, 0)) := by rw [hw3, hgg]; exact heap_alloc_new _ _
    have HBE := Lib.hid hbe
    have HPG := Lib.hid (show p < gg by rw [hgg]; exact h2.lt)
    have HWG := Lib.hid (show W.heap.size ≤ gg by rw [hgg]; exact hm2.size)
    have hN := now_any p l1 v' us' L1 w3 H3.out
    have HW3 := Lib.hid hw3; have HGE := Lib.hid hgg
    have z0 := cell_blk hbe 0
    have z1 := cell_blk hbe 1
    have z2 := cell_blk hbe 2
    have z3 := cell_blk hbe 3
    have z4 := cell_blk hbe 4
    have z5 := cell_blk hbe 5
    have z6 := cell_blk hbe 6
    have z7 := cell_blk hbe 7
    have z8 := cell_blk hbe 8
    simp only [partL, List.getElem?_toArray, List.getElem?_cons_zero, List.getElem?_cons_succ] at z0 z1 z2 z3 z4 z5 z6 z7 z8
    have zf := fun i => free_blk hbe i
    clear h2 hm2 hbl hbe hw3 hgg
    go_wp2_with fail
    rw [← HW3.out, ← HGE.out]
    by_cases h42 : nowP l1 = 42
    · have hR := HRR.out
      clear HRR
      try simp only at hR
      rw [h42] at hR
      have hR2 : R = .ok (.star t, l1.tail) := hR
      have HR := Lib.hid hR2; clear hR hR2
      have hn1 : nowP l1 ≠ -1 := by rw [h42]; decide
      rw [h42] at hN
      have HN := Lib.hid hN; clear hN
      go_wp2_with fail
      refine HN.out.mono ?_
      rintro e w4 ⟨rfl, rfl⟩
      go_wp2_with fail
      obtain ⟨w5, hw5⟩ : ∃ w5, w5 = w4.setCell ⟨gg, 8, none⟩ (.bool true) := ⟨_, rfl⟩
      rw [← hw5]
      have ms : Mv (fun k => k = gg) w4 w5 := by rw [hw5]; exact (Mv.refl (fun k => k = gg) w4).setCell (p := ⟨gg, 8, none⟩) (fun _ => rfl) _
      have hb5 : w5.heap[gg]? = some (.cells (partL ⟨f, la, true⟩).toArray 186 (0, 0)) := by rw [hw5]; exact set_blk HBE.out 8 (.bool true)
      have h5 := H3.out.store HBE.out HPG.out ms
      have hm5 := HM3.out.part HWG.out ms
      have HFO := Lib.hid (follow_lit p l1 v' us' L1 la f w5 h5)
      have x0 := cell_blk hb5 0
      have x1 := cell_blk hb5 1
      have x2 := cell_blk hb5 2
      have x3 := cell_blk hb5 3
      have x4 := cell_blk hb5 4
      have x5 := cell_blk hb5 5
      have x6 := cell_blk hb5 6
      have x7 := cell_blk hb5 7
      have x8 := cell_blk hb5 8
      simp only [partL, List.getElem?_toArray, List.getElem?_cons_zero, List.getElem?_cons_succ] at x0 x1 x2 x3 x4 x5 x6 x7 x8
      have HB5 := Lib.hid hb5; have HM5 := Lib.hid hm5; have H5 := Lib.hid h5
      clear z0 z1 z2 z3 z4 z5 z6 z7 z8 zf hb5 hm5 h5 hw5
      refine HFO.out.mono ?_
      rintro e w6 ⟨rfl, h6, hm6⟩
      have hb6 := follow_keep H5.out HB5.out (by decide) hm6
      have hm6' := HM5.out.trans (Mvd.row hm6)
      clear x0 x1 x2 x3 x4 x5 x6 x7 x8 HBE HB5
      have HPA := Lib.hid (pass_any p l1 v' us' _ w6 h6 hn1)
      have HB6 := Lib.hid hb6; have HM6 := Lib.hid hm6'
      go_wp2_with fail
      refine HPA.out.mono ?_
      rintro e w7 ⟨rfl, h7, hm7⟩
      have HBE := Lib.hid (pass_keep HB6.out HPG.out hm7)
      have HM7 := Lib.hid (HM6.out.trans (Mvd.box hm7))
      have H7 := Lib.hid h7
      clear h7 hm7
      go_wp2_with (first
        | (refine wpList_load_agg (o := ⟨some 28, _, _, _, _, _⟩) ?_ 186 (.tmp 5) ?_ (gg) 0 ?_ (partL ⟨f, la, true⟩) ?_ ?_ ?_ ?_; rfl; rfl; rfl; kernel_rfl; kernel_rfl; exact part_cells HBE.out)
        | (refine wpList_store_agg (o := ⟨none, _, _, _, _, _⟩) ?_ 186 (.tmp 4) (.tmp 28) ?_ (w.heap.size) 0 (partL ⟨f, la, true⟩) ?_ ?_ 186 zP (HZ.out.at' H.out HM7.out.mv) ?_ ?_ ?_ ?_; rfl; rfl; rfl; rfl; kernel_rfl; (show 0 + 9 ≤ 9; decide); exact partL_one _; intro w9 hw9 hm9 hs9; rw [spl9 _ rfl] at hw9)
        | fail)
      refine bodyPost_cell rfl (w.heap.size) 186 (partL ⟨f, la, true⟩).toArray rfl hw9 (by kernel_rfl) (by kernel_rfl) rfl ?_
      rw [HR.out]
      exact HZ.out.fin' H.out (show compP (.star t) L = (⟨f, la, true⟩, followP la f L1) by simp only [compP, HX.out]) H7.out HM7.out hm9
    by_cases h43 : nowP l1 = 43
    · have hR := HRR.out
      clear HRR
      try simp only at hR
      rw [h43] at hR
      have hR2 : R = .ok (.plus t, l1.tail) := hR
      have HR := Lib.hid hR2; clear hR hR2
      have hn1 : nowP l1 ≠ -1 := by rw [h43]; decide
      rw [h43] at hN
      have HN := Lib.hid hN; clear hN
      go_wp2_with fail
      refine HN.out.mono ?_
      rintro e w4 ⟨rfl, rfl⟩
      obtain ⟨w5, hw5⟩ : ∃ w5, w5 = w4 := ⟨_, rfl⟩
      have hb5 : w5.heap[gg]? = some (.cells (partL ⟨f, la, em⟩).toArray 186 (0, 0)) := by rw [hw5]; exact HBE.out
      have h5 : PIs w5 p l1 v' us' L1 := by rw [hw5]; exact H3.out
      have hm5 : Mvd p v v' W w5 := by rw [hw5]; exact HM3.out
      have HFO := Lib.hid (follow_lit p l1 v' us' L1 la f w5 h5)
      have x0 := cell_blk hb5 0
      have x1 := cell_blk hb5 1
      have x2 := cell_blk hb5 2
      have x3 := cell_blk hb5 3
      have x4 := cell_blk hb5 4
      have x5 := cell_blk hb5 5
      have x6 := cell_blk hb5 6
      have x7 := cell_blk hb5 7
      have x8 := cell_blk hb5 8
      simp only [partL, List.getElem?_toArray, List.getElem?_cons_zero, List.getElem?_cons_succ] at x0 x1 x2 x3 x4 x5 x6 x7 x8
      have HB5 := Lib.hid hb5; have HM5 := Lib.hid hm5; have H5 := Lib.hid h5
      clear z0 z1 z2 z3 z4 z5 z6 z7 z8 zf hb5 hm5 h5
      subst hw5
      go_wp2_with fail
      refine HFO.out.mono ?_
      rintro e w6 ⟨rfl, h6, hm6⟩
      have hb6 := follow_keep H5.out HB5.out (by decide) hm6
      have hm6' := HM5.out.trans (Mvd.row hm6)
      clear x0 x1 x2 x3 x4 x5 x6 x7 x8 HBE HB5
      have HPA := Lib.hid (pass_any p l1 v' us' _ w6 h6 hn1)
      have HB6 := Lib.hid hb6; have HM6 := Lib.hid hm6'
      go_wp2_with fail
      refine HPA.out.mono ?_
      rintro e w7 ⟨rfl, h7, hm7⟩
      have HBE := Lib.hid (pass_keep HB6.out HPG.out hm7)
      have HM7 := Lib.hid (HM6.out.trans (Mvd.box hm7))
      have H7 := Lib.hid h7
      clear h7 hm7
      go_wp2_with (first
        | (refine wpList_load_agg (o := ⟨some 28, _, _, _, _, _⟩) ?_ 186 (.tmp 5) ?_ (gg) 0 ?_ (partL ⟨f, la, em⟩) ?_ ?_ ?_ ?_; rfl; rfl; rfl; kernel_rfl; kernel_rfl; exact part_cells HBE.out)
        | (refine wpList_store_agg (o := ⟨none, _, _, _, _, _⟩) ?_ 186 (.tmp 4) (.tmp 28) ?_ (w.heap.size) 0 (partL ⟨f, la, em⟩) ?_ ?_ 186 zP (HZ.out.at' H.out HM7.out.mv) ?_ ?_ ?_ ?_; rfl; rfl; rfl; rfl; kernel_rfl; (show 0 + 9 ≤ 9; decide); exact partL_one _; intro w9 hw9 hm9 hs9; rw [spl9 _ rfl] at hw9)
        | fail)
      refine bodyPost_cell rfl (w.heap.size) 186 (partL ⟨f, la, em⟩).toArray rfl hw9 (by kernel_rfl) (by kernel_rfl) rfl ?_
      rw [HR.out]
      exact HZ.out.fin' H.out (show compP (.plus t) L = (⟨f, la, em⟩, followP la f L1) by simp only [compP, HX.out]) H7.out HM7.out hm9
    by_cases h63 : nowP l1 = 63
    · have hR := HRR.out
      clear HRR
      try simp only at hR
      rw [h63] at hR
      have hR2 : R = .ok (.may t, l1.tail) := hR
      have HR := Lib.hid hR2; clear hR hR2
      have hn1 : nowP l1 ≠ -1 := by rw [h63]; decide
      rw [h63] at hN
      have HN := Lib.hid hN; clear hN
      go_wp2_with fail
      refine HN.out.mono ?_
      rintro e w4 ⟨rfl, rfl⟩
      go_wp2_with fail
      obtain ⟨w5, hw5⟩ : ∃ w5, w5 = w4.setCell ⟨gg, 8, none⟩ (.bool true) := ⟨_, rfl⟩
      rw [← hw5]
      have ms : Mv (fun k => k = gg) w4 w5 := by rw [hw5]; exact (Mv.refl (fun k => k = gg) w4).setCell (p := ⟨gg, 8, none⟩) (fun _ => rfl) _
      have hb5 : w5.heap[gg]? = some (.cells (partL ⟨f, la, true⟩).toArray 186 (0, 0)) := by rw [hw5]; exact set_blk HBE.out 8 (.bool true)
      have h5 := H3.out.store HBE.out HPG.out ms
      have hm5 := HM3.out.part HWG.out ms
      clear z0 z1 z2 z3 z4 z5 z6 z7 z8 zf ms hw5 HBE
      have HPA := Lib.hid (pass_any p l1 v' us' _ w5 h5 hn1)
      have HB6 := Lib.hid hb5; have HM6 := Lib.hid hm5
      refine HPA.out.mono ?_
      rintro e w7 ⟨rfl, h7, hm7⟩
      have HBE := Lib.hid (pass_keep HB6.out HPG.out hm7)
      have HM7 := Lib.hid (HM6.out.trans (Mvd.box hm7))
      have H7 := Lib.hid h7
      clear h7 hm7
      go_wp2_with (first
        | (refine wpList_load_agg (o := ⟨some 28, _, _, _, _, _⟩) ?_ 186 (.tmp 5) ?_ (gg) 0 ?_ (partL ⟨f, la, true⟩) ?_ ?_ ?_ ?_; rfl; rfl; rfl; kernel_rfl; kernel_rfl; exact part_cells HBE.out)
        | (refine wpList_store_agg (o := ⟨none, _, _, _, _, _⟩) ?_ 186 (.tmp 4) (.tmp 28) ?_ (w.heap.size) 0 (partL ⟨f, la, true⟩) ?_ ?_ 186 zP (HZ.out.at' H.out HM7.out.mv) ?_ ?_ ?_ ?_; rfl; rfl; rfl; rfl; kernel_rfl; (show 0 + 9 ≤ 9; decide); exact partL_one _; intro w9 hw9 hm9 hs9; rw [spl9 _ rfl] at hw9)
        | fail)
      refine bodyPost_cell rfl (w.heap.size) 186 (partL ⟨f, la, true⟩).toArray rfl hw9 (by kernel_rfl) (by kernel_rfl) rfl ?_
      rw [HR.out]
      exact HZ.out.fin' H.out (show compP (.may t) L = (⟨f, la, true⟩, L1) by simp only [compP, HX.out]) H7.out HM7.out hm9
    have hR := HRR.out
    clear HRR
    try simp only at hR
    have ht : timesP (nowP l1) t = none := by unfold timesP; rw [if_neg h42, if_neg h43, if_neg h63]
    rw [ht] at hR
    have HR := Lib.hid hR; clear hR ht
    have g42 : (nowP l1 == 42) = false := by rw [beq_eq_false_iff_ne]; exact h42
    have g43 : (nowP l1 == 43) = false := by rw [beq_eq_false_iff_ne]; exact h43
    have g63 : (nowP l1 == 63) = false := by rw [beq_eq_false_iff_ne]; exact h63
    generalize nowP l1 = cn at g42 g43 g63 hN
    have HN := Lib.hid hN; clear hN
    go_wp2_with fail
    refine HN.out.mono ?_
    rintro e w4 ⟨rfl, rfl⟩
    clear z0 z1 z2 z3 z4 z5 z6 z7 z8 zf
    go_wp2_with (first
      | (refine wpList_load_agg (o := ⟨some 25, _, _, _, _, _⟩) ?_ 186 (.tmp 5) ?_ (gg) 0 ?_ (partL ⟨f, la, em⟩) ?_ ?_ ?_ ?_; rfl; rfl; rfl; kernel_rfl; kernel_rfl; exact part_cells HBE.out)
      | (refine wpList_store_agg (o := ⟨none, _, _, _, _, _⟩) ?_ 186 (.tmp 4) (.tmp 25) ?_ (w.heap.size) 0 (partL ⟨f, la, em⟩) ?_ ?_ 186 zP (HZ.out.at' H.out HM3.out.mv) ?_ ?_ ?_ ?_; rfl; rfl; rfl; rfl; kernel_rfl; (show 0 + 9 ≤ 9; decide); exact partL_one _; intro w9 hw9 hm9 hs9; rw [spl9 _ rfl] at hw9)
      | fail)
    refine bodyPost_cell rfl (w.heap.size) 186 (partL ⟨f, la, em⟩).toArray rfl hw9 (by kernel_rfl) (by kernel_rfl) rfl ?_
    rw [HR.out]
    exact HZ.out.fin' H.out HX.out H3.out HM3.out hm9
end
end
section
set_option linter.unusedVariables false
set_option linter.unusedSimpArgs false
open Go.RowKit
/-- What a branch, or several, are while they are read: the tree so far, its part in block gg. -/
structure AccIs (W wr : World) (p gg : Nat) (v : Value) (L : List Atm) (t : Re) (l' : List Pc) (v' : Value) (us' : List Value) : Prop where
  box : wr.heap[gg]? = some (.cells (partL (compP t L).1).toArray 186 (0, 0))
  pis : PIs wr p l' v' us' (compP t L).2
  mv : Mvd p v v' W wr
theorem undrewMvd {p : Nat} {v v' : Value} {w w' : World} (h : Mvd p v v' w.drew w') : Mvd p v v' w w' := ⟨undrewMv h.mv, h.own⟩
theorem keepP {p : Nat} {l : List Pc} {v : Value} {us : List Value} {L : List Atm} {w w' : World} {g : Nat} {cs : Array Value} (h : PIs w p l v us L) (hg : w.heap[g]? = some (.cells cs 186 (0, 0))) (hp : p < g) (m : Mv (PM p v) w w') : w'.heap[g]? = some (.cells cs 186 (0, 0)) := by
  refine (m.block _ (blk_lt hg) ?_).trans hg
  rintro (e | e)
  · omega
  · exact own_blk h.at'.row hg (by decide) e
theorem AccIs.step {W wr wj w9 : World} {p gg : Nat} {v : Value} {L L3 : List Atm} {t t2 : Re} {l' l3 : List Pc} {v' v2 : Value} {us' us2 : List Value} {J : Prt} {cs : Array Value} (k : AccIs W wr p gg v L t l' v' us') (hW : W.heap.size ≤ gg) (hp : p < gg) (mq : Mvd p v' v2 wr wj) (hj : PIs wj p l3 v2 us2 L3)
    (bj : wj.heap[gg]? = some (.cells cs 186 (0, 0))) (hc : compP t2 L = (J, L3)) (m9 : Mv (fun k => k = gg) wj w9) (b9 : w9.heap[gg]? = some (.cells (partL J).toArray 186 (0, 0))) : AccIs W w9 p gg v L t2 l3 v2 us2 :=
  ⟨by rw [hc]; exact b9, by rw [hc]; exact hj.store bj hp m9, (k.mv.trans mq).part hW m9⟩
theorem set9 (w : World) (g : Nat) (v0 v1 v2 v3 v4 v5 v6 v7 v8 : Value) : Mv (fun k => k = g) w (((((((((w.setCell ⟨g, 0, none⟩ v0).setCell ⟨g, 1, none⟩ v1).setCell ⟨g, 2, none⟩ v2).setCell ⟨g, 3, none⟩ v3).setCell ⟨g, 4, none⟩ v4).setCell ⟨g, 5, none⟩ v5).setCell ⟨g, 6, none⟩ v6).setCell ⟨g, 7, none⟩ v7).setCell ⟨g, 8, none⟩ v8) :=
  (((((((((Mv.refl (fun k => k = g) w).setCell (fun _ => rfl) v0).setCell (fun _ => rfl) v1).setCell (fun _ => rfl) v2).setCell (fun _ => rfl) v3).setCell (fun _ => rfl) v4).setCell (fun _ => rfl) v5).setCell (fun _ => rfl) v6).setCell (fun _ => rfl) v7).setCell (fun _ => rfl) v8
section
set_option maxHeartbeats 1600000
set_option maxRecDepth 100000
theorem join_lit (p : Nat) (l : List Pc) (v : Value) (us : List Value) (L : List Atm) (f la : Nat) (em : Bool) (f2 la2 : Nat) (em2 : Bool) (J : Prt) (hJ : joinP ⟨f, la, em⟩ ⟨f2, la2, em2⟩ = J) (w : World) (h : PIs w p l v us L) :
    Calls Tryz.prog 181 #[.pointer (some ⟨p, 0, none⟩), .agg #[.int .u64 (wd f 0 : Nat), .int .u64 (wd f 1 : Nat), .int .u64 (wd f 2 : Nat), .int .u64 (wd f 3 : Nat), .int .u64 (wd la 0 : Nat), .int .u64 (wd la 1 : Nat), .int .u64 (wd la 2 : Nat), .int .u64 (wd la 3 : Nat), .bool em], .agg #[.int .u64 (wd f2 0 : Nat), .int .u64 (wd f2 1 : Nat), .int .u64 (wd f2 2 : Nat), .int .u64 (wd f2 3 : Nat), .int .u64 (wd la2 0 : Nat), .int .u64 (wd la2 1 : Nat), .int .u64 (wd la2 2 : Nat), .int .u64 (wd la2 3 : Nat), .bool em2]] w fun e w' => e = .returned (.agg #[.int .u64 (wd J.first 0 : Nat), .int .u64 (wd J.first 1 : Nat), .int .u64 (wd J.first 2 : Nat), .int .u64 (wd J.first 3 : Nat), .int .u64 (wd J.last 0 : Nat), .int .u64 (wd J.last 1 : Nat), .int .u64 (wd J.last 2 : Nat), .int .u64 (wd J.last 3 : Nat), .bool J.empty]) ∧ PIs w' p l v us (followP la f2 L) ∧ Mv (fun k => v.ownBlock = some k) w w' := by
  have := join_any p l v us L ⟨f, la, em⟩ ⟨f2, la2, em2⟩ w h
  rw [hJ] at this
  exact this
theorem either_lit (f la : Nat) (em : Bool) (f2 la2 : Nat) (em2 : Bool) (J : Prt) (hJ : eitherP ⟨f, la, em⟩ ⟨f2, la2, em2⟩ = J) (w : World) :
    Calls Tryz.prog 174 #[.agg #[.int .u64 (wd f 0 : Nat), .int .u64 (wd f 1 : Nat), .int .u64 (wd f 2 : Nat), .int .u64 (wd f 3 : Nat), .int .u64 (wd la 0 : Nat), .int .u64 (wd la 1 : Nat), .int .u64 (wd la 2 : Nat), .int .u64 (wd la 3 : Nat), .bool em], .agg #[.int .u64 (wd f2 0 : Nat), .int .u64 (wd f2 1 : Nat), .int .u64 (wd f2 2 : Nat), .int .u64 (wd f2 3 : Nat), .int .u64 (wd la2 0 : Nat), .int .u64 (wd la2 1 : Nat), .int .u64 (wd la2 2 : Nat), .int .u64 (wd la2 3 : Nat), .bool em2]] w fun e w' => e = .returned (.agg #[.int .u64 (wd J.first 0 : Nat), .int .u64 (wd J.first 1 : Nat), .int .u64 (wd J.first 2 : Nat), .int .u64 (wd J.first 3 : Nat), .int .u64 (wd J.last 0 : Nat), .int .u64 (wd J.last 1 : Nat), .int .u64 (wd J.last 2 : Nat), .int .u64 (wd J.last 3 : Nat), .bool J.empty]) ∧ RowKit.Below w.heap.size w w' := by
  have := either_any ⟨f, la, em⟩ ⟨f2, la2, em2⟩ w
  rw [hJ] at this
  exact this
theorem branch_any (grp : List Pc → Rs Re) (n : Nat) (hG : GC grp n) (p : Nat) (l : List Pc) (v : Value) (us : List Value) (L : List Atm) (w : World) (h : PIs w p l v us L) :
    Calls Tryz.prog 172 #[.pointer (some ⟨p, 0, none⟩), .int .i64 (n : Nat)] w (OutP p v L w (branchP grp l.length .none l)) := by
  obtain ⟨R, hR⟩ : ∃ R, branchP grp l.length .none l = R := ⟨_, rfl⟩
  rw [hR]
  obtain ⟨W, hW⟩ : ∃ W, W = w.alloc (.cells #[.int .u64 0, .int .u64 0, .int .u64 0, .int .u64 0, .int .u64 0, .int .u64 0, .int .u64 0, .int .u64 0, .bool false] 186) := ⟨_, rfl⟩
  have hz : Zs w W := by rw [hW]; exact Zs.mk' w
  have h1 := hz.pis h
  have HW := Lib.hid hW; have HZ := Lib.hid hz; have H := Lib.hid h
  clear hW hz
  obtain ⟨W2, hW2⟩ : ∃ W2, W2 = W.alloc (.cells #[.int .u64 0, .int .u64 0, .int .u64 0, .int .u64 0, .int .u64 0, .int .u64 0, .int .u64 0, .int .u64 0, .bool true] 186) := ⟨_, rfl⟩
  obtain ⟨gg, hgg⟩ : ∃ gg, gg = W.heap.size := ⟨_, rfl⟩
  have hb2 : RowKit.Below W.heap.size W W2 := by rw [hW2]; exact (RowKit.Below.refl _ _).alloc (Nat.le_refl _) _
  have HC0 := Lib.hid (show AccIs W W2 p gg v L .none l v us from ⟨by rw [hW2, hgg]; have := heap_alloc_new W (.cells #[.int .u64 0, .int .u64 0, .int .u64 0, .int .u64 0, .int .u64 0, .int .u64 0, .int .u64 0, .int .u64 0, .bool true] 186); simpa [compP, partL, wd] using this, h1.below hb2, Mvd.of_below hb2⟩)
  have HWG := Lib.hid (show W.heap.size ≤ gg by omega)
  have HPG := Lib.hid (show p < gg by rw [hgg]; exact h1.lt)
  have HGE := Lib.hid (show gg = w.heap.size + 1 by rw [hgg]; exact HZ.out.sz)
  have HW2 := Lib.hid (show W2 = (w.alloc (.cells #[.int .u64 0, .int .u64 0, .int .u64 0, .int .u64 0, .int .u64 0, .int .u64 0, .int .u64 0, .int .u64 0, .bool false] 186)).alloc (.cells #[.int .u64 0, .int .u64 0, .int .u64 0, .int .u64 0, .int .u64 0, .int .u64 0, .int .u64 0, .int .u64 0, .bool true] 186) by rw [hW2, HW.out])
  have HRS := Lib.hid hR
  clear hW2 hgg hb2 h1 h hR
  go_enter Tryz.func172, Tryz.ntmps172
  go_wp2_with fail
  rw [← HW2.out, ← HGE.out]
  go_loopw [] (fun wr => ∃ (t : Re) (l' : List Pc) (v' : Value) (us' : List Value), Aside (AccIs W wr p gg v L t l' v' us') ∧ Aside (branchP grp l'.length t l' = R)) (fun wr => restN p wr)
  case atStart => exact ⟨.none, l, v, us, HC0.out, HRS.out⟩
  case round =>
    obtain ⟨t, l', v', us', HC, HE⟩ := hrel
    have hE := HE.out
    rw [branch_step hG.1 t HC.out.pis.ok] at hE
    have hN := now_any p l' v' us' _ wr HC.out.pis
    by_cases h124 : nowP l' = 124
    · rw [if_pos (by rw [h124]; rfl)] at hE
      have HR9 := Lib.hid hE.symm
      rw [h124] at hN
      have HN := Lib.hid hN; clear hN hE h124 HE
      go_wp2_with fail
      refine HN.out.mono ?_
      rintro e w4 ⟨rfl, rfl⟩
      go_wp2_with (first
        | (refine wpList_load_agg (o := ⟨some 26, _, _, _, _, _⟩) ?_ 186 (.tmp 5) ?_ (gg) 0 ?_ (partL (compP t L).1) ?_ ?_ ?_ ?_; rfl; rfl; rfl; kernel_rfl; kernel_rfl; exact part_cells HC.out.box)
        | (refine wpList_store_agg (o := ⟨none, _, _, _, _, _⟩) ?_ 186 (.tmp 4) (.tmp 26) ?_ (w.heap.size) 0 (partL (compP t L).1) ?_ ?_ 186 zP (HZ.out.at' H.out HC.out.mv.mv) ?_ ?_ ?_ ?_; rfl; rfl; rfl; rfl; kernel_rfl; (show 0 + 9 ≤ 9; decide); exact partL_one _; intro w9 hw9 hm9 hs9; rw [spl9 _ rfl] at hw9)
        | fail)
      refine bodyPost_cell rfl (w.heap.size) 186 (partL (compP t L).1).toArray rfl hw9 (by kernel_rfl) (by kernel_rfl) rfl ?_
      rw [HR9.out]
      exact HZ.out.fin H.out HC.out.pis HC.out.mv hm9
    by_cases h41 : nowP l' = 41
    · rw [if_pos (by rw [h41]; rfl)] at hE
      have HR9 := Lib.hid hE.symm
      rw [h41] at hN
      clear h124
      have HN := Lib.hid hN; clear hN hE h41 HE
      go_wp2_with fail
      refine HN.out.mono ?_
      rintro e w4 ⟨rfl, rfl⟩
      go_wp2_with fail
      refine HN.out.mono ?_
      rintro e w4 ⟨rfl, rfl⟩
      go_wp2_with (first
        | (refine wpList_load_agg (o := ⟨some 26, _, _, _, _, _⟩) ?_ 186 (.tmp 5) ?_ (gg) 0 ?_ (partL (compP t L).1) ?_ ?_ ?_ ?_; rfl; rfl; rfl; kernel_rfl; kernel_rfl; exact part_cells HC.out.box)
        | (refine wpList_store_agg (o := ⟨none, _, _, _, _, _⟩) ?_ 186 (.tmp 4) (.tmp 26) ?_ (w.heap.size) 0 (partL (compP t L).1) ?_ ?_ 186 zP (HZ.out.at' H.out HC.out.mv.mv) ?_ ?_ ?_ ?_; rfl; rfl; rfl; rfl; kernel_rfl; (show 0 + 9 ≤ 9; decide); exact partL_one _; intro w9 hw9 hm9 hs9; rw [spl9 _ rfl] at hw9)
        | fail)
      refine bodyPost_cell rfl (w.heap.size) 186 (partL (compP t L).1).toArray rfl hw9 (by kernel_rfl) (by kernel_rfl) rfl ?_
      rw [HR9.out]
      exact HZ.out.fin H.out HC.out.pis HC.out.mv hm9
    by_cases hm1 : nowP l' = -1
    · rw [if_pos (by rw [hm1]; rfl)] at hE
      have HR9 := Lib.hid hE.symm
      rw [hm1] at hN
      clear h124 h41
      have HN := Lib.hid hN; clear hN hE hm1 HE
      go_wp2_with fail
      refine HN.out.mono ?_
      rintro e w4 ⟨rfl, rfl⟩
      go_wp2_with fail
      refine HN.out.mono ?_
      rintro e w4 ⟨rfl, rfl⟩
      go_wp2_with fail
      refine HN.out.mono ?_
      rintro e w4 ⟨rfl, rfl⟩
      go_wp2_with (first
        | (refine wpList_load_agg (o := ⟨some 26, _, _, _, _, _⟩) ?_ 186 (.tmp 5) ?_ (gg) 0 ?_ (partL (compP t L).1) ?_ ?_ ?_ ?_; rfl; rfl; rfl; kernel_rfl; kernel_rfl; exact part_cells HC.out.box)
        | (refine wpList_store_agg (o := ⟨none, _, _, _, _, _⟩) ?_ 186 (.tmp 4) (.tmp 26) ?_ (w.heap.size) 0 (partL (compP t L).1) ?_ ?_ 186 zP (HZ.out.at' H.out HC.out.mv.mv) ?_ ?_ ?_ ?_; rfl; rfl; rfl; rfl; kernel_rfl; (show 0 + 9 ≤ 9; decide); exact partL_one _; intro w9 hw9 hm9 hs9; rw [spl9 _ rfl] at hw9)
        | fail)
      refine bodyPost_cell rfl (w.heap.size) 186 (partL (compP t L).1).toArray rfl hw9 (by kernel_rfl) (by kernel_rfl) rfl ?_
      rw [HR9.out]
      exact HZ.out.fin H.out HC.out.pis HC.out.mv hm9
    have hst : stopP (nowP l') = false := by
      unfold stopP
      simp only [Bool.or_eq_false_iff, beq_eq_false_iff_ne]
      exact ⟨⟨h124, h41⟩, hm1⟩
    rw [if_neg (by rw [hst]; simp)] at hE
    have g124 : (nowP l' != 124) = true := by rw [bne_iff_ne]; exact h124
    have g41 : (nowP l' != 41) = true := by rw [bne_iff_ne]; exact h41
    have gm1 : (nowP l' != -1) = true := by rw [bne_iff_ne]; exact hm1
    have hshr := fun a l3 (e : pieceP grp l' = .ok (a, l3)) => pieceP_shr hG.1 HC.out.pis.ok e
    have hbox := HC.out.box
    have hpis := HC.out.pis
    obtain ⟨X2, hX⟩ : ∃ X2, compP t L = X2 := ⟨_, rfl⟩
    rw [hX] at hbox hpis
    obtain ⟨⟨f, la, em⟩, L1⟩ := X2
    replace hbox : wr.heap[gg]? = some (.cells (partL ⟨f, la, em⟩).toArray 186 (0, 0)) := hbox
    replace hpis : PIs wr p l' v' us' L1 := hpis
    have HX := Lib.hid hX; have HBX := Lib.hid hbox; have HPS := Lib.hid hpis
    have x0 := cell_blk hbox 0
    have x1 := cell_blk hbox 1
    have x2 := cell_blk hbox 2
    have x3 := cell_blk hbox 3
    have x4 := cell_blk hbox 4
    have x5 := cell_blk hbox 5
    have x6 := cell_blk hbox 6
    have x7 := cell_blk hbox 7
    have x8 := cell_blk hbox 8
    simp only [partL, List.getElem?_toArray, List.getElem?_cons_zero, List.getElem?_cons_succ] at x0 x1 x2 x3 x4 x5 x6 x7 x8
    have xf := fun i => free_blk hbox i
    clear hX hbox hpis
    have hpi := fun W' (m : Mv (fun _ => False) wr W') => piece_any grp n hG p l' v' us' L1 W' (HPS.out.other m (fun _ _ f => f) (fun _ _ f => f))
    generalize pieceP grp l' = R2 at hE hpi hshr
    generalize nowP l' = cn at g124 g41 gm1 hN
    have HN := Lib.hid hN; have HE2 := Lib.hid hE; have HSH := Lib.hid hshr
    clear hN hE hshr hst h124 h41 hm1 HE
    cases R2 with
    | error f0 =>
      have hE := HE2.out
      simp only at hE
      have HPI := Lib.hid hpi
      have HERR := Lib.hid (show ∀ W', Mv (PM p v') wr W' → OutP p v L w R (flE f0) W' from fun W' m => by rw [← hE]; exact ⟨rfl, HZ.out.err (HC.out.mv.err m)⟩)
      clear hE HE2 HSH hpi
      go_wp2_with fail
      refine HN.out.mono ?_
      rintro e w4 ⟨rfl, rfl⟩
      go_wp2_with fail
      refine HN.out.mono ?_
      rintro e w4 ⟨rfl, rfl⟩
      go_wp2_with fail
      refine HN.out.mono ?_
      rintro e w4 ⟨rfl, rfl⟩
      go_wp2_with fail
      refine wp_region_any (by kernel_rfl) ?_
      try (change wpAny _ _ _ _ _ _ _ (World.drew _))
      refine wpAny_take (i := 0) (v := ?_) rfl (by kernel_rfl) (by kernel_rfl) (by kernel_rfl) (fun _ _ _ h => h) (Or.inl ⟨by rfl, ?_⟩) ?_
      rotate_left
      · intro w; go_simp; try with_reducible rfl
      refine wpAny_take (i := 2) (v := ?_) rfl (by kernel_rfl) (by kernel_rfl) (by kernel_rfl) (fun _ _ _ h => h) (Or.inl ⟨by rfl, ?_⟩) ?_
      rotate_left
      · intro w; go_simp; try with_reducible rfl
      refine wpAny_take (i := 3) (v := ?_) rfl (by kernel_rfl) (by kernel_rfl) (by kernel_rfl) (fun _ _ _ h => h) (Or.inl ⟨by rfl, ?_⟩) ?_
      rotate_left
      · intro w; go_simp; try with_reducible rfl
      refine wpAny_ready (rs := [1, 4]) (by kernel_rfl) (by simp) ?_
      refine AllReady.cons rfl (fun K hK => ?_) ?_
      · go_simp
        refine hK _ _ ?_
        clear hK K
        refine wpAny_ready (rs := [4]) (by kernel_rfl) (by simp) ?_
        refine AllReady.cons rfl (fun K hK => ?_) AllReady.nil
        · go_simp
          (with_reducible refine (HPI.out _ (by repeat (first | exact Mv.refl _ w4 | refine Mv.drew ?_))).mono ?_); rintro e wq ⟨rfl, hmq⟩; have hmq2 : Mv (PM p v') w4 wq := (by first | exact hmq | exact undrewMv hmq | exact undrewMv (undrewMv hmq)); exact ⟨rfl, HERR.out _ hmq2⟩
      refine AllReady.cons rfl (fun K hK => ?_) AllReady.nil
      · go_simp
        (with_reducible refine (HPI.out _ (by repeat (first | exact Mv.refl _ w4 | refine Mv.drew ?_))).mono ?_); rintro e wq ⟨rfl, hmq⟩; have hmq2 : Mv (PM p v') w4 wq := (by first | exact hmq | exact undrewMv hmq | exact undrewMv (undrewMv hmq)); exact ⟨rfl, HERR.out _ hmq2⟩
    | ok x =>
      obtain ⟨a, l3⟩ := x
      have hE := HE2.out
      simp only at hE
      have HE3 := Lib.hid hE
      have HL3 := Lib.hid (HSH.out a l3 rfl).lt
      obtain ⟨X3, hX3⟩ : ∃ X3, compP a L1 = X3 := ⟨_, rfl⟩
      obtain ⟨⟨f2, la2, em2⟩, L2⟩ := X3
      obtain ⟨J, hJ⟩ : ∃ J, joinP ⟨f, la, em⟩ ⟨f2, la2, em2⟩ = J := ⟨_, rfl⟩
      have HJE := Lib.hid hJ
      have HCE := Lib.hid (show compP (.cat t a) L = (J, followP la f2 L2) by simp only [compP, HX.out, hX3, hJ])
      have HPI := Lib.hid (show ∀ W', Mv (fun _ => False) wr W' → Calls Tryz.prog 182 #[.pointer (some ⟨p, 0, none⟩), .int .i64 (n : Nat)] W' (fun e w2 => ∃ v2 us2, e = .returned (.agg #[.int .u64 (wd f2 0 : Nat), .int .u64 (wd f2 1 : Nat), .int .u64 (wd f2 2 : Nat), .int .u64 (wd f2 3 : Nat), .int .u64 (wd la2 0 : Nat), .int .u64 (wd la2 1 : Nat), .int .u64 (wd la2 2 : Nat), .int .u64 (wd la2 3 : Nat), .bool em2]) ∧ PIs w2 p l3 v2 us2 L2 ∧ Mvd p v' v2 W' w2) from fun W' m => by
        refine (hpi W' m).mono ?_
        rintro e w2 ⟨v2, us2, e1, h2, h3⟩
        rw [hX3] at e1 h2
        exact ⟨v2, us2, e1, h2, h3⟩)
      clear hE HE2 HSH hpi hX3 hJ
      go_wp2_with fail
      refine HN.out.mono ?_
      rintro e w4 ⟨rfl, rfl⟩
      go_wp2_with fail
      refine HN.out.mono ?_
      rintro e w4 ⟨rfl, rfl⟩
      go_wp2_with fail
      refine HN.out.mono ?_
      rintro e w4 ⟨rfl, rfl⟩
      go_wp2_with fail
      go_region_law (first
        | (go_simp; go_at_call 182; go_must ((with_reducible refine (HPI.out _ (by repeat (first | exact Mv.refl _ w4 | refine Mv.drew ?_))).mono ?_); rintro e wq ⟨v2, us2, rfl, hq, hmq⟩; have hmq2 : Mvd p v' v2 w4 wq := (by first | exact hmq | exact undrewMvd hmq | exact undrewMvd (undrewMvd hmq)); have hbq := keepP HPS.out HBX.out HPG.out hmq2.mv; have y0 := cell_blk hbq 0; have y1 := cell_blk hbq 1; have y2 := cell_blk hbq 2; have y3 := cell_blk hbq 3; have y4 := cell_blk hbq 4; have y5 := cell_blk hbq 5; have y6 := cell_blk hbq 6; have y7 := cell_blk hbq 7; have y8 := cell_blk hbq 8; simp only [partL, List.getElem?_toArray, List.getElem?_cons_zero, List.getElem?_cons_succ] at y0 y1 y2 y3 y4 y5 y6 y7 y8; have HBQ := Lib.hid hbq; have HQ := Lib.hid hq; have HMQ := Lib.hid hmq2; have HJ := Lib.hid (fun W' (m : Mv (fun _ => False) wq W') => join_lit p l3 v2 us2 L2 f la em f2 la2 em2 J HJE.out W' (HQ.out.other m (fun _ _ f => f) (fun _ _ f => f))); clear hq hmq hmq2 hbq))
        | (go_simp; go_at_call 181; (with_reducible refine (HJ.out _ (by repeat (first | exact Mv.refl _ wq | refine Mv.drew ?_))).mono ?_); rintro e wj ⟨rfl, hj, hmj⟩; have hmj2 : Mv (fun k => v2.ownBlock = some k) wq wj := (by first | exact hmj | exact undrewMv hmj | exact undrewMv (undrewMv hmj)); have hbj := follow_keep HQ.out HBQ.out (by decide) hmj2; have z0 := cell_blk hbj 0; have z1 := cell_blk hbj 1; have z2 := cell_blk hbj 2; have z3 := cell_blk hbj 3; have z4 := cell_blk hbj 4; have z5 := cell_blk hbj 5; have z6 := cell_blk hbj 6; have z7 := cell_blk hbj 7; have z8 := cell_blk hbj 8; simp only [partL, List.getElem?_toArray, List.getElem?_cons_zero, List.getElem?_cons_succ] at z0 z1 z2 z3 z4 z5 z6 z7 z8; have zf := fun i => free_blk hbj i; have HBJ := Lib.hid hbj; have HPJ := Lib.hid hj; have HMJ := Lib.hid (HMQ.out.trans (Mvd.row hmj2)); clear hj hmj hmj2 hbj)
        | fail)
      all_goals
        go_wp2
        go_roundw
        case rel => exact ⟨.cat t a, l3, v2, us2, AccIs.step HC.out HWG.out HPG.out HMJ.out HPJ.out HBJ.out HCE.out (set9 _ _ _ _ _ _ _ _ _ _ _) (stored9 HBJ.out), HE3.out⟩
        case measure => rw [((AccIs.step HC.out HWG.out HPG.out HMJ.out HPJ.out HBJ.out HCE.out (set9 _ _ _ _ _ _ _ _ _ _ _) (stored9 HBJ.out) : AccIs W _ p gg v L (.cat t a) l3 v2 us2)).pis.restN, HC.out.pis.restN]; exact HL3.out
theorem pattern_any (grp : List Pc → Rs Re) (n : Nat) (hG : GC grp n) (p : Nat) (l : List Pc) (v : Value) (us : List Value) (L : List Atm) (w : World) (h : PIs w p l v us L) :
    Calls Tryz.prog 156 #[.pointer (some ⟨p, 0, none⟩), .int .i64 (n : Nat)] w (OutP p v L w (patP grp l)) := by
  obtain ⟨R, hR⟩ : ∃ R, patP grp l = R := ⟨_, rfl⟩
  rw [hR]
  unfold patP at hR
  obtain ⟨W, hW⟩ : ∃ W, W = w.alloc (.cells #[.int .u64 0, .int .u64 0, .int .u64 0, .int .u64 0, .int .u64 0, .int .u64 0, .int .u64 0, .int .u64 0, .bool false] 186) := ⟨_, rfl⟩
  have hz : Zs w W := by rw [hW]; exact Zs.mk' w
  have h1 := hz.pis h
  have HW := Lib.hid hW; have HZ := Lib.hid hz; have H := Lib.hid h
  clear hW hz
  have HBR := Lib.hid (branch_any grp n hG p l v us L W h1)
  have H1 := Lib.hid h1
  have HRR := Lib.hid hR; clear h1 h hR
  go_enter Tryz.func156, Tryz.ntmps156
  go_wp2_with fail
  rw [← HW.out]
  refine HBR.out.mono ?_
  intro e w2 ho
  have hR := HRR.out
  generalize branchP grp l.length .none l = R1 at hR ho
  clear HBR HRR
  cases R1 with
  | error f =>
    simp only at hR
    have HR := Lib.hid hR.symm; clear hR
    obtain ⟨rfl, hm1⟩ := ho
    have HM1 := Lib.hid hm1; clear hm1
    unfold flE
    go_wp2
    rw [HR.out]
    exact ⟨rfl, rfl, HZ.out.err (HM1.out)⟩
  | ok x =>
    obtain ⟨t0, l1⟩ := x
    simp only at hR
    have HRS := Lib.hid hR; clear hR
    obtain ⟨v1, us1, rfl, h2, hm2⟩ := ho
    obtain ⟨X2, hX⟩ : ∃ X2, compP t0 L = X2 := ⟨_, rfl⟩
    have H2 := Lib.hid h2; have HM2 := Lib.hid hm2
    rw [hX]
    obtain ⟨⟨f, la, em⟩, L1⟩ := X2
    obtain ⟨W2, hW2⟩ : ∃ W2, W2 = w2.alloc (.cells #[.int .u64 (wd f 0 : Nat), .int .u64 (wd f 1 : Nat), .int .u64 (wd f 2 : Nat), .int .u64 (wd f 3 : Nat), .int .u64 (wd la 0 : Nat), .int .u64 (wd la 1 : Nat), .int .u64 (wd la 2 : Nat), .int .u64 (wd la 3 : Nat), .bool em] 186) := ⟨_, rfl⟩
    obtain ⟨gg, hgg⟩ : ∃ gg, gg = w2.heap.size := ⟨_, rfl⟩
    have hb2 : RowKit.Below w2.heap.size w2 W2 := by rw [hW2]; exact (RowKit.Below.refl _ _).alloc (Nat.le_refl _) _
    have HC0 := Lib.hid (show AccIs W W2 p gg v L t0 l1 v1 us1 from ⟨by rw [hX, hW2, hgg]; exact heap_alloc_new _ _, H2.out.below hb2, HM2.out.trans (Mvd.of_below hb2)⟩)
    have HWG := Lib.hid (show W.heap.size ≤ gg by rw [hgg]; exact hm2.size)
    have HPG := Lib.hid (show p < gg by rw [hgg]; exact h2.lt)
    have HGE := Lib.hid hgg
    have HW2 := Lib.hid hW2
    clear hW2 hgg hb2 h2 hm2 hX
    simp only [partV, partC]
    go_wp2_with fail
    rw [← HW2.out, ← HGE.out]
    go_loopw [] (fun wr => ∃ (t : Re) (l' : List Pc) (v' : Value) (us' : List Value), Aside (AccIs W wr p gg v L t l' v' us') ∧ Aside (altsP grp l'.length t l' = R)) (fun wr => restN p wr)
    case atStart => exact ⟨t0, l1, v1, us1, HC0.out, HRS.out⟩
    case round =>
      obtain ⟨t, l', v', us', HC, HE⟩ := hrel
      have hE := HE.out
      rw [alts_step hG.1 t HC.out.pis.ok] at hE
      have hN := now_any p l' v' us' _ wr HC.out.pis
      by_cases h124 : nowP l' = 124
      · rw [if_pos h124] at hE
        have hn1 : nowP l' ≠ -1 := by rw [h124]; decide
        rw [h124] at hN
        have hp := pass_any p l' v' us' _ wr HC.out.pis hn1
        have htl := tail_lt HC.out.pis.ok
        have hok := HC.out.pis.ok.tail hn1
        have HN := Lib.hid hN; have HPA := Lib.hid hp
        have HE0 := Lib.hid hE
        have HTL := Lib.hid htl; have HOK := Lib.hid hok
        clear hN hE hp hn1 htl hok h124 HE
        go_wp2_with fail
        refine HN.out.mono ?_
        rintro e w4 ⟨rfl, rfl⟩
        go_wp2_with fail
        refine HPA.out.mono ?_
        rintro e w5 ⟨rfl, hp5, hm5⟩
        have HC5 := Lib.hid (show AccIs W w5 p gg v L t l'.tail v' us' from ⟨(hm5.block _ (blk_lt HC.out.box) (by have := HPG.out; omega)).trans HC.out.box, hp5, HC.out.mv.trans (Mvd.box hm5)⟩)
        have HRN := Lib.hid HC.out.pis.restN
        clear hp5 hm5 HN HPA
        obtain ⟨wr2, hwr2⟩ : ∃ wr2, wr2 = w5 := ⟨_, rfl⟩
        subst hwr2
        have hbox := HC5.out.box
        have hpis := HC5.out.pis
        obtain ⟨X2, hX⟩ : ∃ X2, compP t L = X2 := ⟨_, rfl⟩
        rw [hX] at hbox hpis
        obtain ⟨⟨f, la, em⟩, L1⟩ := X2
        replace hbox : wr2.heap[gg]? = some (.cells (partL ⟨f, la, em⟩).toArray 186 (0, 0)) := hbox
        replace hpis : PIs wr2 p l'.tail v' us' L1 := hpis
        have HX := Lib.hid hX; have HBX := Lib.hid hbox; have HPS := Lib.hid hpis
        have x0 := cell_blk hbox 0
        have x1 := cell_blk hbox 1
        have x2 := cell_blk hbox 2
        have x3 := cell_blk hbox 3
        have x4 := cell_blk hbox 4
        have x5 := cell_blk hbox 5
        have x6 := cell_blk hbox 6
        have x7 := cell_blk hbox 7
        have x8 := cell_blk hbox 8
        simp only [partL, List.getElem?_toArray, List.getElem?_cons_zero, List.getElem?_cons_succ] at x0 x1 x2 x3 x4 x5 x6 x7 x8
        have xf := fun i => free_blk hbox i
        clear hX hbox hpis
        have hpi := fun W' (m : Mv (fun _ => False) wr2 W') => branch_any grp n hG p l'.tail v' us' L1 W' (HPS.out.other m (fun _ _ f => f) (fun _ _ f => f))
        have hshr := fun a l3 (e : branchP grp l'.tail.length .none l'.tail = .ok (a, l3)) => (branchP_less hG.1 _ _ _ HOK.out e).1.len
        have hE := HE0.out
        generalize branchP grp l'.tail.length .none l'.tail = R2 at hE hpi hshr
        have HE2 := Lib.hid hE; have HSH := Lib.hid hshr
        clear hE hshr HE0
        cases R2 with
        | error f0 =>
          have hE := HE2.out
          simp only at hE
          have HPI := Lib.hid hpi
          have HERR := Lib.hid (show ∀ W', Mv (PM p v') wr2 W' → OutP p v L w R (flE f0) W' from fun W' m => by rw [← hE]; exact ⟨rfl, HZ.out.err (HC5.out.mv.err m)⟩)
          clear hE HE2 HSH hpi
          go_wp2_with fail
          refine wp_region_any (by kernel_rfl) ?_
          try (change wpAny _ _ _ _ _ _ _ (World.drew _))
          refine wpAny_take (i := 1) (v := ?_) rfl (by kernel_rfl) (by kernel_rfl) (by kernel_rfl) (fun _ _ _ h => h) (Or.inl ⟨by rfl, ?_⟩) ?_
          rotate_left
          · intro w; go_simp; try with_reducible rfl
          refine wpAny_take (i := 2) (v := ?_) rfl (by kernel_rfl) (by kernel_rfl) (by kernel_rfl) (fun _ _ _ h => h) (Or.inl ⟨by rfl, ?_⟩) ?_
          rotate_left
          · intro w; go_simp; try with_reducible rfl
          refine wpAny_ready (rs := [0, 3]) (by kernel_rfl) (by simp) ?_
          refine AllReady.cons rfl (fun K hK => ?_) ?_
          · go_simp
            refine hK _ _ ?_
            clear hK K
            refine wpAny_ready (rs := [3]) (by kernel_rfl) (by simp) ?_
            refine AllReady.cons rfl (fun K hK => ?_) AllReady.nil
            · go_simp
              (with_reducible refine (HPI.out _ (by repeat (first | exact Mv.refl _ wr2 | refine Mv.drew ?_))).mono ?_); rintro e wq ⟨rfl, hmq⟩; have hmq2 : Mv (PM p v') wr2 wq := (by first | exact hmq | exact undrewMv hmq | exact undrewMv (undrewMv hmq)); exact ⟨rfl, HERR.out _ hmq2⟩
          refine AllReady.cons rfl (fun K hK => ?_) AllReady.nil
          · go_simp
            (with_reducible refine (HPI.out _ (by repeat (first | exact Mv.refl _ wr2 | refine Mv.drew ?_))).mono ?_); rintro e wq ⟨rfl, hmq⟩; have hmq2 : Mv (PM p v') wr2 wq := (by first | exact hmq | exact undrewMv hmq | exact undrewMv (undrewMv hmq)); exact ⟨rfl, HERR.out _ hmq2⟩
        | ok x =>
          obtain ⟨a, l3⟩ := x
          have hE := HE2.out
          simp only at hE
          have HE3 := Lib.hid hE
          have HL3 := Lib.hid (show l3.length < l'.length by have := HSH.out a l3 rfl; have := HTL.out; omega)
          obtain ⟨X3, hX3⟩ : ∃ X3, compP a L1 = X3 := ⟨_, rfl⟩
          obtain ⟨⟨f2, la2, em2⟩, L2⟩ := X3
          obtain ⟨J, hJ⟩ : ∃ J, eitherP ⟨f, la, em⟩ ⟨f2, la2, em2⟩ = J := ⟨_, rfl⟩
          have HJE := Lib.hid hJ
          have HCE := Lib.hid (show compP (.alt t a) L = (J, L2) by simp only [compP, HX.out, hX3, hJ])
          have HPI := Lib.hid (show ∀ W', Mv (fun _ => False) wr2 W' → Calls Tryz.prog 172 #[.pointer (some ⟨p, 0, none⟩), .int .i64 (n : Nat)] W' (fun e w2 => ∃ v2 us2, e = .returned (.agg #[.int .u64 (wd f2 0 : Nat), .int .u64 (wd f2 1 : Nat), .int .u64 (wd f2 2 : Nat), .int .u64 (wd f2 3 : Nat), .int .u64 (wd la2 0 : Nat), .int .u64 (wd la2 1 : Nat), .int .u64 (wd la2 2 : Nat), .int .u64 (wd la2 3 : Nat), .bool em2]) ∧ PIs w2 p l3 v2 us2 L2 ∧ Mvd p v' v2 W' w2) from fun W' m => by
            refine (hpi W' m).mono ?_
            rintro e w2 ⟨v2, us2, e1, h2, h3⟩
            rw [hX3] at e1 h2
            exact ⟨v2, us2, e1, h2, h3⟩)
          clear hE HE2 HSH hpi hX3 hJ
          go_wp2_with fail
          go_region_law (first
            | (go_simp; go_at_call 172; go_must ((with_reducible refine (HPI.out _ (by repeat (first | exact Mv.refl _ wr2 | refine Mv.drew ?_))).mono ?_); rintro e wq ⟨v2, us2, rfl, hq, hmq⟩; have hmq2 : Mvd p v' v2 wr2 wq := (by first | exact hmq | exact undrewMvd hmq | exact undrewMvd (undrewMvd hmq)); have hbq := keepP HPS.out HBX.out HPG.out hmq2.mv; have y0 := cell_blk hbq 0; have y1 := cell_blk hbq 1; have y2 := cell_blk hbq 2; have y3 := cell_blk hbq 3; have y4 := cell_blk hbq 4; have y5 := cell_blk hbq 5; have y6 := cell_blk hbq 6; have y7 := cell_blk hbq 7; have y8 := cell_blk hbq 8; simp only [partL, List.getElem?_toArray, List.getElem?_cons_zero, List.getElem?_cons_succ] at y0 y1 y2 y3 y4 y5 y6 y7 y8; have HBQ := Lib.hid hbq; have HQ := Lib.hid hq; have HMQ := Lib.hid hmq2; have HJ := Lib.hid (fun W' => either_lit f la em f2 la2 em2 J HJE.out W'); clear hq hmq hmq2 hbq))
            | (go_simp; go_at_call 174; (with_reducible refine (HJ.out _).mono ?_); rintro e wj ⟨rfl, hbl⟩; have hbl2 : RowKit.Below wq.heap.size wq wj := (by first | exact hbl | exact undrew hbl | exact undrew (undrew hbl)); have hbj := (hbl2.block _ (blk_lt HBQ.out)).trans HBQ.out; have z0 := cell_blk hbj 0; have z1 := cell_blk hbj 1; have z2 := cell_blk hbj 2; have z3 := cell_blk hbj 3; have z4 := cell_blk hbj 4; have z5 := cell_blk hbj 5; have z6 := cell_blk hbj 6; have z7 := cell_blk hbj 7; have z8 := cell_blk hbj 8; simp only [partL, List.getElem?_toArray, List.getElem?_cons_zero, List.getElem?_cons_succ] at z0 z1 z2 z3 z4 z5 z6 z7 z8; have zf := fun i => free_blk hbj i; have HBJ := Lib.hid hbj; have HPJ := Lib.hid (HQ.out.below hbl2); have HMJ := Lib.hid (HMQ.out.trans (Mvd.of_below hbl2)); clear hbl hbl2 hbj)
            | fail)
          all_goals
            go_wp2
            go_roundw
            case rel => exact ⟨.alt t a, l3, v2, us2, AccIs.step HC5.out HWG.out HPG.out HMJ.out HPJ.out HBJ.out HCE.out (set9 _ _ _ _ _ _ _ _ _ _ _) (stored9 HBJ.out), HE3.out⟩
            case measure => rw [((AccIs.step HC5.out HWG.out HPG.out HMJ.out HPJ.out HBJ.out HCE.out (set9 _ _ _ _ _ _ _ _ _ _ _) (stored9 HBJ.out) : AccIs W _ p gg v L (.alt t a) l3 v2 us2)).pis.restN, HRN.out]; exact HL3.out
      · rw [if_neg h124] at hE
        have HR9 := Lib.hid hE.symm
        have g124 : (nowP l' == 124) = false := by rw [beq_eq_false_iff_ne]; exact h124
        generalize nowP l' = cn at g124 hN
        have HN := Lib.hid hN; clear hN hE h124 HE
        go_wp2_with fail
        refine HN.out.mono ?_
        rintro e w4 ⟨rfl, rfl⟩
        go_wp2_with (first
          | (refine wpList_load_agg (o := ⟨some 19, _, _, _, _, _⟩) ?_ 186 (.tmp 5) ?_ (gg) 0 ?_ (partL (compP t L).1) ?_ ?_ ?_ ?_; rfl; rfl; rfl; kernel_rfl; kernel_rfl; exact part_cells HC.out.box)
          | (refine wpList_store_agg (o := ⟨none, _, _, _, _, _⟩) ?_ 186 (.tmp 4) (.tmp 19) ?_ (w.heap.size) 0 (partL (compP t L).1) ?_ ?_ 186 zP (HZ.out.at' H.out HC.out.mv.mv) ?_ ?_ ?_ ?_; rfl; rfl; rfl; rfl; kernel_rfl; (show 0 + 9 ≤ 9; decide); exact partL_one _; intro w9 hw9 hm9 hs9; rw [spl9 _ rfl] at hw9)
          | fail)
        refine bodyPost_cell rfl (w.heap.size) 186 (partL (compP t L).1).toArray rfl hw9 (by kernel_rfl) (by kernel_rfl) rfl ?_
        rw [HR9.out]
        exact HZ.out.fin H.out HC.out.pis HC.out.mv hm9
end
end
section
set_option linter.unusedVariables false
set_option linter.unusedSimpArgs false
open Go.RowKit
section
set_option maxHeartbeats 1600000
set_option maxRecDepth 100000
theorem group_deep (p : Nat) (l : List Pc) (v : Value) (us : List Value) (L : List Atm) (w : World) (h : PIs w p l v us L) :
    Calls Tryz.prog 185 #[.pointer (some ⟨p, 0, none⟩), .int .i64 20] w (OutP p v L w (grpP 0 l)) := by
  obtain ⟨W, hW⟩ : ∃ W, W = w.alloc (.cells #[.int .u64 0, .int .u64 0, .int .u64 0, .int .u64 0, .int .u64 0, .int .u64 0, .int .u64 0, .int .u64 0, .bool false] 186) := ⟨_, rfl⟩
  have hz : Zs w W := by rw [hW]; exact Zs.mk' w
  have h1 := hz.pis h
  have HW := Lib.hid hW; have HZ := Lib.hid hz; have H := Lib.hid h
  clear hW hz
  have hr := refuse_any p l v us L 60 W h1
  have hR : grpP 0 l = .error (atP l, 60) := rfl
  rw [hR]
  generalize atP l = x at hr ⊢
  have HRF := Lib.hid hr; clear hr h hR h1
  go_enter Tryz.func185, Tryz.ntmps185
  go_wp2_with fail
  rw [← HW.out]
  refine HRF.out.mono ?_
  rintro e w1 ⟨rfl, rfl⟩
  go_wp2
  exact ⟨rfl, rfl, HZ.out.err (Mv.refl _ _)⟩
theorem group_in (d n : Nat) (hn : n < 20) (hG : GC (grpP d) (n + 1)) (p : Nat) (l : List Pc) (v : Value) (us : List Value) (L : List Atm) (w : World) (h : PIs w p l v us L) (h40 : nowP l = 40) :
    Calls Tryz.prog 185 #[.pointer (some ⟨p, 0, none⟩), .int .i64 (n : Nat)] w (OutP p v L w (grpP (d + 1) l)) := by
  obtain ⟨R, hR⟩ : ∃ R, R = grpP (d + 1) l := ⟨_, rfl⟩
  rw [← hR]
  unfold grpP at hR
  have hn1 : nowP l ≠ -1 := by rw [h40]; decide
  obtain ⟨W, hW⟩ : ∃ W, W = w.alloc (.cells #[.int .u64 0, .int .u64 0, .int .u64 0, .int .u64 0, .int .u64 0, .int .u64 0, .int .u64 0, .int .u64 0, .bool false] 186) := ⟨_, rfl⟩
  have hz : Zs w W := by rw [hW]; exact Zs.mk' w
  have h1 := hz.pis h
  have HW := Lib.hid hW; have HZ := Lib.hid hz; have H := Lib.hid h
  clear hW hz
  have HP := Lib.hid (pass_any p l v us L W h1 hn1)
  have HT := Lib.hid (fun W' (k : PIs W' p l.tail v us L) => pattern_any (grpP d) (n + 1) hG p l.tail v us L W' k)
  clear h h40 hn1 hG h1
  generalize patP (grpP d) l.tail = R1 at hR HT
  have HRR := Lib.hid hR; clear hR
  have n20 : ((n : Int) == 20) = false := by rw [beq_eq_false_iff_ne]; omega
  have n21 : IntKind.i64.wrap ((n : Int) + 1) = ((n + 1 : Nat) : Int) := by simp [IntKind.wrap, IntKind.bits, IntKind.signed]; omega
  have n22 : (n : Int) + 1 = ((n + 1 : Nat) : Int) := by omega
  go_enter Tryz.func185, Tryz.ntmps185
  go_wp2_with fail
  rw [← HW.out]
  go_wp2_with fail
  refine HP.out.mono ?_
  rintro e w1 ⟨rfl, h1, hm1⟩
  have H1 := Lib.hid h1; have HM1 := Lib.hid hm1; clear h1 hm1
  have HTT := Lib.hid (HT.out _ H1.out)
  clear n22
  go_wp2_with fail
  refine HTT.out.mono ?_
  intro e w2 ho
  clear HTT HT
  cases R1 with
  | error f =>
    have hR := HRR.out
    simp only at hR
    have HR := Lib.hid hR; clear hR HRR
    obtain ⟨rfl, hm2⟩ := ho
    have HM2 := Lib.hid hm2; clear hm2
    unfold flE
    go_wp2
    rw [HR.out]
    exact ⟨rfl, rfl, HZ.out.err ((Mvd.box HM1.out).err HM2.out)⟩
  | ok x =>
    obtain ⟨t, l1⟩ := x
    have hR := HRR.out
    simp only at hR
    clear HRR
    obtain ⟨v', us', rfl, h2, hm2⟩ := ho
    obtain ⟨X2, hX⟩ : ∃ X2, compP t L = X2 := ⟨_, rfl⟩
    have hm2' := (Mvd.box HM1.out).trans hm2
    rw [hX] at h2 ⊢
    obtain ⟨⟨f, la, em⟩, L1⟩ := X2
    replace h2 : PIs w2 p l1 v' us' L1 := h2
    simp only [partV, partC]
    have HX := Lib.hid hX
    obtain ⟨w3, hw3⟩ : ∃ w3, w3 = w2.alloc (.cells #[.int .u64 (wd f 0 : Nat), .int .u64 (wd f 1 : Nat), .int .u64 (wd f 2 : Nat), .int .u64 (wd f 3 : Nat), .int .u64 (wd la 0 : Nat), .int .u64 (wd la 1 : Nat), .int .u64 (wd la 2 : Nat), .int .u64 (wd la 3 : Nat), .bool em] 186) := ⟨_, rfl⟩
    obtain ⟨gg, hgg⟩ : ∃ gg, gg = w2.heap.size := ⟨_, rfl⟩
    have hbl : RowKit.Below w2.heap.size w2 w3 := by rw [hw3]; exact (RowKit.Below.refl _ _).alloc (Nat.le_refl _) _
    have h3 := h2.below hbl
    have HM3 := Lib.hid (hm2'.trans (Mvd.of_below hbl))
    have hbe : w3.heap[gg]? = some (.cells (partL ⟨f, la, em⟩).toArray 186 (0, 0)) := by rw [hw3, hgg]; exact heap_alloc_new _ _
    have HBE := Lib.hid hbe
    have HPG := Lib.hid (show p < gg by rw [hgg]; exact h2.lt)
    have hN := now_any p l1 v' us' L1 w3 h3
    have HW3 := Lib.hid hw3; have HGE := Lib.hid hgg
    have H3 := Lib.hid h3
    clear h2 hm2 hm2' hbl hbe hw3 hgg hX h3 HM1
    by_cases h41 : nowP l1 = 41
    · rw [if_pos h41] at hR
      have HR := Lib.hid hR
      have hn2 : nowP l1 ≠ -1 := by rw [h41]; decide
      have HPP := Lib.hid (pass_any p l1 v' us' L1 w3 H3.out hn2)
      have HYY := Lib.hid (fun W => must_yes p W)
      rw [h41] at hN
      have HN := Lib.hid hN; clear hR hN hn2 h41
      go_wp2_with fail
      rw [← HW3.out, ← HGE.out]
      refine HN.out.mono ?_
      rintro e w4 ⟨rfl, rfl⟩
      go_wp2_with fail
      refine (HYY.out _).mono ?_
      rintro e w5 ⟨rfl, rfl⟩
      go_wp2_with fail
      refine HPP.out.mono ?_
      rintro e w6 ⟨rfl, h6, hm6⟩
      have HB6 := Lib.hid (pass_keep HBE.out HPG.out hm6)
      have HM6 := Lib.hid (HM3.out.trans (Mvd.box hm6))
      have H6 := Lib.hid h6
      clear h6 hm6
      go_wp2_with (first
        | (refine wpList_load_agg (o := ⟨some 23, _, _, _, _, _⟩) ?_ 186 (.tmp 5) ?_ (gg) 0 ?_ (partL ⟨f, la, em⟩) ?_ ?_ ?_ ?_; rfl; rfl; rfl; kernel_rfl; kernel_rfl; exact part_cells HB6.out)
        | (refine wpList_store_agg (o := ⟨none, _, _, _, _, _⟩) ?_ 186 (.tmp 4) (.tmp 23) ?_ (w.heap.size) 0 (partL ⟨f, la, em⟩) ?_ ?_ 186 zP (HZ.out.at' H.out HM6.out.mv) ?_ ?_ ?_ ?_; rfl; rfl; rfl; rfl; kernel_rfl; (show 0 + 9 ≤ 9; decide); exact partL_one _; intro w9 hw9 hm9 hs9; rw [spl9 _ rfl] at hw9)
        | fail)
      refine bodyPost_cell rfl (w.heap.size) 186 (partL ⟨f, la, em⟩).toArray rfl hw9 (by kernel_rfl) (by kernel_rfl) rfl ?_
      rw [HR.out]
      exact HZ.out.fin' H.out HX.out H6.out HM6.out hm9
    · rw [if_neg h41] at hR
      have HR := Lib.hid hR
      have g41 : (nowP l1 == 41) = false := by rw [beq_eq_false_iff_ne]; exact h41
      have HNO := Lib.hid (must_no p l1 v' us' L1 w3 H3.out)
      generalize nowP l1 = c at g41 hN
      generalize atP l1 = a at HNO HR
      have HN := Lib.hid hN; clear hR hN h41
      go_wp2_with fail
      rw [← HW3.out, ← HGE.out]
      refine HN.out.mono ?_
      rintro e w4 ⟨rfl, rfl⟩
      go_wp2_with fail
      refine HNO.out.mono ?_
      rintro e w5 ⟨rfl, rfl⟩
      go_wp2
      rw [HR.out]
      exact ⟨rfl, rfl, HZ.out.err HM3.out.mv⟩
theorem group_any : ∀ (d n : Nat), n + d = 20 → GC (grpP d) n
  | 0, n, e => by
    obtain rfl : n = 20 := by omega
    exact ⟨grpP_ok 0, fun p l v us L w h h40 => group_deep p l v us L w h⟩
  | d + 1, n, e => ⟨grpP_ok _, fun p l v us L w h h40 => group_in d n (by omega) (group_any d (n + 1) (by omega)) p l v us L w h h40⟩
theorem whole_any (p : Nat) (l : List Pc) (v : Value) (us : List Value) (L : List Atm) (w : World) (h : PIs w p l v us L) :
    Calls Tryz.prog 156 #[.pointer (some ⟨p, 0, none⟩), .int .i64 0] w (OutP p v L w (patP (grpP 20) l)) := pattern_any (grpP 20) 0 (group_any 20 0 rfl) p l v us L w h
end
end
section
set_option linter.unusedVariables false
set_option linter.unusedSimpArgs false
open Go.RowKit
theorem pre_bad {l : Bs} (h : l ≠ []) (h1 : (dL l).1 = 65533) : Lib.hasPrefix l [239, 191, 189] = !badL l := by
  cases hb : badL l with
  | true =>
    rw [badL_iff] at hb
    cases hp : Lib.hasPrefix l [239, 191, 189] with
    | false => rfl
    | true =>
      exfalso
      unfold Lib.hasPrefix at hp
      rw [List.isPrefixOf_iff_prefix] at hp
      obtain ⟨t, rfl⟩ := hp
      have := dec_enc (c := 65533) (by unfold okRune; omega) t
      rw [show enc 65533 = [239, 191, 189] from by decide] at this
      rw [this] at hb
      exact absurd hb.2 (by decide)
  | false =>
    have hn : ¬ ((dL l).1 = 65533 ∧ (dL l).2 = 1) := by intro e; rw [(badL_iff l).2 e] at hb; cases hb
    have := Lib.encode_decode l h hn
    rw [h1] at this
    have e : enc 65533 = l.take (dL l).2 := this
    unfold Lib.hasPrefix
    rw [Bool.not_false, List.isPrefixOf_iff_prefix, show ([239, 191, 189] : Bs) = enc 65533 from by decide, e]
    exact List.take_prefix _ _
theorem own_some {w : World} {B : Nat} {e : TypeId} {size n : Nat} {v : Value} {xs : List Value} (h : w.ownsRow B e size v n xs) (hn : 0 < n) : ∃ b c, v = .slice (some ⟨b, 0, none⟩) n c ∧ n ≤ c ∧ c ≤ maxLen ∧ B ≤ b ∧ b < w.heap.size ∧ Rd w (some ⟨b, 0, none⟩) xs := by
  obtain ⟨A, c, e1, hr, h1, h2⟩ := own_rdg h
  rcases h.2 with ⟨e2, e3⟩ | ⟨g, cap, cur, e2, _⟩
  · omega
  · have hl := h.lt g (by rw [e2]; rfl)
    rw [e1] at e2
    injection e2 with e2 _ _
    subst e2
    exact ⟨g, c, e1, h1, h2, hl.1, hl.2, hr⟩
theorem pcC_one (l : List Pc) : ∀ u ∈ pcC l, u.oneCell' = true := by
  intro u hu
  unfold pcC at hu
  rw [List.mem_flatMap] at hu
  obtain ⟨s, _, hs⟩ := hu
  simp only [List.mem_cons, List.not_mem_nil, or_false] at hs
  rcases hs with rfl | rfl <;> rfl
theorem infoPlace : (Tryz.prog.info? 228).map (fun i => (i.zero, i.size, i.bytes)) = some (some (.agg #[.int .i64 0, .int .i32 0]), 2, 16) := by kernel_rfl
/-- Places read as far as byte pos. -/
structure PlRel (w wr : World) (s : ByteArray) (v : Value) (pos : Nat) (done : List Pc) : Prop where
  own : wr.ownsRow (w.heap.size + 1) 228 2 v done.length (pcC done)
  it : wr.heap[w.heap.size]? = some (.stringIter s pos)
  below : RowKit.Below w.heap.size w wr
  all : done ++ placesAt pos ((bl s).drop pos) = placesAt 0 (bl s)
  few : done.length ≤ pos
  le : pos ≤ s.size
def PlOut (w : World) (s : ByteArray) (e : Ending) (w' : World) : Prop := ∃ b c, e = .returned (.slice (some ⟨b, 0, none⟩) (placesAt 0 (bl s)).length c) ∧ (placesAt 0 (bl s)).length ≤ c ∧ c ≤ maxLen ∧ w.heap.size ≤ b ∧ b < w'.heap.size ∧ Rd w' (some ⟨b, 0, none⟩) (pcC (placesAt 0 (bl s))) ∧ RowKit.Below w.heap.size w w'
theorem PlRel.next {w wr w2 w3 : World} {s : ByteArray} {v v' : Value} {pos wd : Nat} {done : List Pc} {q : Int} {x : Obj} (k : PlRel w wr s v pos done) (h2 : w2 = wr.iterAt w.heap.size s (pos + wd)) (hp : pos < s.size) (hd : dL ((bl s).drop pos) = (((dL ((bl s).drop pos)).1), wd)) (hw : 1 ≤ wd) (hle : pos + wd ≤ s.size)
    (hq : (if badL ((bl s).drop pos) then (-2 : Int) else ((dL ((bl s).drop pos)).1 : Int)) = q) (ho : w3.ownsRow (w.heap.size + 1) 228 2 v' (done.length + 1) (pcC done ++ [.int .i64 (pos : Nat), .int .i32 q])) (hg : (w2.alloc x).grownBy w3 v.ownBlock) : PlRel w w3 s v' (pos + wd) (done ++ [(pos, q)]) := by
  have hi2 : w2.heap[w.heap.size]? = some (.stringIter s (pos + wd)) := by rw [h2]; exact Lib.iterAt_heap wr _ s pos (pos + wd) k.it
  have hs2 : w2.heap.size = wr.heap.size := by rw [h2]; exact Lib.iterAt_size ..
  have hb2 : RowKit.Below w.heap.size w w2 := by rw [h2]; exact Lib.below_iterAt k.below (Nat.le_refl _) s (pos + wd)
  have hl := blk_lt k.it
  have hne : v.ownBlock ≠ some w.heap.size := fun e => by have := (k.own.lt _ e).1; omega
  have mg : Mv (fun i => v.ownBlock = some i) (w2.alloc x) w3 := (Mv.refl _ _).grown hg fun _ _ h => h
  refine ⟨by rw [List.length_append, pcC_app]; exact ho, ?_, ?_, ?_, by rw [List.length_append]; have := k.few; simp; omega, hle⟩
  · refine (mg.block _ (by rw [World.size_alloc]; omega) hne).trans ?_
    rw [Below.heap_alloc _ _ _ (by omega)]; exact hi2
  · refine (hb2.alloc (by have := k.below.size; omega) x).trans ((mg.belowB (B := w.heap.size) (by rw [World.size_alloc]; omega) fun i hi e => by have := (k.own.lt _ e).1; omega))
  · rw [← k.all, List.append_assoc]
    congr 1
    have hne : (bl s).drop pos ≠ [] := by
      intro e
      have := congrArg List.length e
      rw [List.length_drop, bl_len] at this
      simp at this; omega
    rw [placesAt_step pos hne, hq, List.drop_drop]
    have hw2 : (dL ((bl s).drop pos)).2 = wd := by rw [hd]
    rw [hw2]; rfl
end
section
set_option linter.unusedVariables false
set_option linter.unusedSimpArgs false
open Go.RowKit
theorem PlRel.start (w : World) (s : ByteArray) : PlRel w (w.iter s 0) s (.slice none 0 0) 0 [] := by
  have h := World.iter_heap w s 0
  refine ⟨⟨rfl, .inl ⟨rfl, rfl⟩⟩, by simpa using h, (RowKit.Below.refl _ w).alloc (Nat.le_refl _) _, by simp, Nat.le_refl _, Nat.zero_le _⟩
theorem PlRel.done' {w wr w3 : World} {s : ByteArray} {v v' : Value} {done : List Pc} {x : Obj} (k : PlRel w wr s v s.size done) (ho : w3.ownsRow (w.heap.size + 1) 228 2 v' (done.length + 1) (pcC done ++ [.int .i64 (s.size : Nat), .int .i32 (-1)])) (hg : (wr.alloc x).grownBy w3 v.ownBlock) : PlOut w s (.returned v') w3 := by
  have hl := blk_lt k.it
  have hall : placesAt 0 (bl s) = done ++ [(s.size, -1)] := by
    have := k.all
    rw [List.drop_eq_nil_of_le (by rw [bl_len]; exact Nat.le_refl _), placesAt_nil] at this
    exact this.symm
  have mg : Mv (fun i => v.ownBlock = some i) (wr.alloc x) w3 := (Mv.refl _ _).grown hg fun _ _ h => h
  obtain ⟨b, c, e1, h1, h2, h3, h4, h5⟩ := own_some ho (by omega)
  refine ⟨b, c, by rw [hall, e1, List.length_append]; rfl, by rw [hall, List.length_append]; exact h1, h2, by omega, h4, by rw [hall, pcC_app]; exact h5, ?_⟩
  exact (k.below.alloc (by have := k.below.size; omega) x).trans (mg.belowB (B := w.heap.size) (by rw [World.size_alloc]; omega) fun i hi e => by have := (k.own.lt _ e).1; omega)
section
set_option maxHeartbeats 3200000
set_option maxRecDepth 100000
theorem places_any (s : ByteArray) (w : World) (hl : s.size ≤ 1000) : Calls Tryz.prog 155 #[.string s] w (PlOut w s) := by
  go_enter Tryz.func155, Tryz.ntmps155
  go_wp2
  go_loopw [3] (fun s3 wr => ∃ (v : Value) (pos : Nat) (done : List Pc), v = s3 ∧ Aside (PlRel w wr s v pos done)) (fun _ wr => s.size - wr.iterPos w.heap.size)
  case atStart => exact ⟨_, 0, [], rfl, PlRel.start w s⟩
  case round =>
    obtain ⟨v, pos, done, rfl, HK⟩ := hrel
    have hit := HK.out.it
    have hfew := HK.out.few
    have hle := HK.out.le
    by_cases hp : pos < s.size
    · have hne : (bl s).drop pos ≠ [] := by
        intro e
        have := congrArg List.length e
        rw [List.length_drop, bl_len] at this
        simp at this; omega
      have hdd : dL ((bl s).drop pos) = Utf8.decode s pos := Lib.decodeL_drop s pos
      obtain ⟨c, wd, hcw⟩ : ∃ c wd, dL ((bl s).drop pos) = (c, wd) := ⟨_, _, rfl⟩
      have hwd : 1 ≤ wd := by have := dL_pos ((bl s).drop pos); rw [hcw] at this; exact this
      have hwl : pos + wd ≤ s.size := by have := dL_le hne; rw [hcw, List.length_drop, bl_len] at this; simp only at this; omega
      obtain ⟨w2, hw2⟩ : ∃ w2, w2 = wr.iterAt w.heap.size s (pos + wd) := ⟨_, rfl⟩
      have hnx : ∀ ty, (Instr.next (.pointer (some ⟨w.heap.size, 0, none⟩)) true ty).run Tryz.prog wr = .ok (.tuple #[.bool true, .int .i64 (pos : Nat), .int .i32 (c : Nat)]) w2 := fun ty => by
        rw [Lib.run_next_any_at wr w.heap.size s pos ty hit hp, ← hdd, hcw, hw2]
      have hs2 : w2.heap.size = wr.heap.size := by rw [hw2]; exact Lib.iterAt_size ..
      have how : w2.ownsRow (w.heap.size + 1) 228 2 v done.length (pcC done) := own_moved HK.out.own fun g hg => by
        rw [hw2]; exact Lib.iterAt_other _ _ _ _ _ (by have := (HK.out.own.lt g hg).1; omega)
      have hlt := blk_lt hit
      have hbase : w.heap.size + 1 ≤ w2.heap.size := by omega
      have HN := Lib.hid (fun (w3 : World) (v' : Value) (q : Int) (x : Obj) hq ho hg => PlRel.next (w3 := w3) (v' := v') (q := q) (x := x) HK.out hw2 hp (by rw [hcw]) hwd hwl hq ho hg)
      have HB := Lib.hid hcw
      have HPRE := Lib.hid (fun (e : c = 65533) => pre_bad hne (by rw [hcw]; exact e))
      have hsl : ∀ u, (Instr.sliceAt 9 (.string s) (some (.int .i64 (pos : Nat))) none none).run Tryz.prog u = .ok (.string (s.extract pos s.size)) u := fun u => slice_from u s pos (by omega)
      have HIT := Lib.hid hit; have HWD := Lib.hid hwd; have HP := Lib.hid hp
      have HOW := Lib.hid how
      have hdl : done.length ≤ 1000 := by omega
      clear hne hdd hcw hwd hwl hw2 hs2 how hit
      by_cases hc : c = 65533
      · subst hc
        have hpre := HPRE.out rfl
        have hcall := fun W => Tryz.strings_HasPrefix (s.extract pos s.size) ⟨#[239, 191, 189]⟩ W
        have hex : (s.extract pos s.size).data.toList = (bl s).drop pos := bl_tailG s pos
        rw [hex, show ((⟨#[239, 191, 189]⟩ : ByteArray).data.toList) = [239, 191, 189] from rfl, hpre] at hcall
        cases hbad : badL ((bl s).drop pos) with
        | true =>
          rw [hbad] at hcall
          have HC := Lib.hid hcall
          have HQ := Lib.hid (fun (w3 : World) (v' : Value) (x : Obj) ho hg => HN.out w3 v' (-2) x (by rw [hbad]; rfl) ho hg)
          clear hcall hpre hex hbad
          go_wp2_with fail
          refine (HC.out _).mono ?_
          rintro e w4 ⟨rfl, rfl⟩
          go_wp2_with (first
            | (at_builtin; (refine wpList_append_g rfl _ _ 208 228 _ 2 16 infoPlace Tryz.underlying208 rfl (by decide) rfl (w.heap.size + 1) v done.length (pcC done) rfl (HOW.out.alloc _) _ 1 1 [.int .i64 (pos : Nat), .int .i32 (-2)] rfl (rd_row _ _ 228) rfl (pcC_one [(pos, (-2))]) (by unfold maxLen; omega) (by omega) (by simp; omega) ?_; intro v4 w5 ho4 hg4; have HO4 := Lib.hid (HQ.out w5 v4 _ ho4 hg4); clear ho4 hg4))
            | fail)
          go_roundw
          case rel => exact ⟨_, _, _, rfl, HO4.out⟩
          case measure =>
            have i1 := HO4.out.it
            have i2 := HIT.out
            have i3 := HWD.out
            have i4 := HP.out
            simp only [World.iterPos, i1, i2]
            omega
        | false =>
          rw [hbad] at hcall
          have HC := Lib.hid hcall
          have HQ := Lib.hid (fun (w3 : World) (v' : Value) (x : Obj) ho hg => HN.out w3 v' 65533 x (by rw [hbad, HB.out]; rfl) ho hg)
          clear hcall hpre hex hbad
          go_wp2_with fail
          refine (HC.out _).mono ?_
          rintro e w4 ⟨rfl, rfl⟩
          go_wp2_with (first
            | (at_builtin; (refine wpList_append_g rfl _ _ 208 228 _ 2 16 infoPlace Tryz.underlying208 rfl (by decide) rfl (w.heap.size + 1) v done.length (pcC done) rfl (HOW.out.alloc _) _ 1 1 [.int .i64 (pos : Nat), .int .i32 (65533)] rfl (rd_row _ _ 228) rfl (pcC_one [(pos, (65533))]) (by unfold maxLen; omega) (by omega) (by simp; omega) ?_; intro v4 w5 ho4 hg4; have HO4 := Lib.hid (HQ.out w5 v4 _ ho4 hg4); clear ho4 hg4))
            | fail)
          go_roundw
          case rel => exact ⟨_, _, _, rfl, HO4.out⟩
          case measure =>
            have i1 := HO4.out.it
            have i2 := HIT.out
            have i3 := HWD.out
            have i4 := HP.out
            simp only [World.iterPos, i1, i2]
            omega
      · have gc : ((c : Int) == 65533) = false := by rw [beq_eq_false_iff_ne]; omega
        have hbad : badL ((bl s).drop pos) = false := by
          cases h : badL ((bl s).drop pos) with
          | false => rfl
          | true => rw [badL_iff, HB.out] at h; exact absurd h.1 hc
        have HQ := Lib.hid (fun (w3 : World) (v' : Value) (x : Obj) ho hg => HN.out w3 v' (c : Int) x (by rw [hbad, HB.out]; rfl) ho hg)
        clear hbad hc
        go_wp2_with (first
          | (at_builtin; (refine wpList_append_g rfl _ _ 208 228 _ 2 16 infoPlace Tryz.underlying208 rfl (by decide) rfl (w.heap.size + 1) v done.length (pcC done) rfl (HOW.out.alloc _) _ 1 1 [.int .i64 (pos : Nat), .int .i32 (c : Int)] rfl (rd_row _ _ 228) rfl (pcC_one [(pos, (c : Int))]) (by unfold maxLen; omega) (by omega) (by simp; omega) ?_; intro v4 w5 ho4 hg4; have HO4 := Lib.hid (HQ.out w5 v4 _ ho4 hg4); clear ho4 hg4))
          | fail)
        go_roundw
        case rel => exact ⟨_, _, _, rfl, HO4.out⟩
        case measure =>
          have i1 := HO4.out.it
          have i2 := HIT.out
          have i3 := HWD.out
          have i4 := HP.out
          simp only [World.iterPos, i1, i2]
          omega
    · obtain rfl : pos = s.size := by omega
      have hnx : ∀ ty, (Instr.next (.pointer (some ⟨w.heap.size, 0, none⟩)) true ty).run Tryz.prog wr = .ok (.tuple #[.bool false]) wr := fun ty => Lib.run_next_end_at wr w.heap.size s _ ty hit hp
      have hlt := blk_lt hit
      have HOW := Lib.hid HK.out.own
      have HD := Lib.hid (fun (w3 : World) (v' : Value) (x : Obj) ho hg => HK.out.done' (w3 := w3) (v' := v') (x := x) ho hg)
      clear hit hp
      go_wp2_with (first
        | (at_builtin; (refine wpList_append_g rfl _ _ 208 228 _ 2 16 infoPlace Tryz.underlying208 rfl (by decide) rfl (w.heap.size + 1) v done.length (pcC done) rfl (HOW.out.alloc _) _ 1 1 [.int .i64 (s.size : Nat), .int .i32 (-1)] rfl (rd_row _ _ 228) rfl (pcC_one [(s.size, -1)]) (by unfold maxLen; omega) (by omega) (by simp; omega) ?_; intro v4 w4 ho4 hg4; have HO4 := Lib.hid (HD.out w4 v4 _ ho4 hg4); clear ho4 hg4))
        | fail)
      go_ret
      exact HO4.out
end
end
section
set_option linter.unusedVariables false
set_option linter.unusedSimpArgs false
open Go.RowKit
section
set_option maxHeartbeats 1600000
set_option maxRecDepth 100000
theorem catch_idle (g g2 : Nat) (w : World) :
    CallsD Tryz.prog 154 #[.pointer (some ⟨g, 0, none⟩), .pointer (some ⟨g2, 0, none⟩)] .returning w fun e u' w' => e = .returned (.tuple #[]) ∧ u' = .returning ∧ w' = w := by
  refine callsD_of_wpS Tryz.func154 rfl fun c₀ cs hu => ?_
  apply wpS_seq
  apply wpS_region
  simp [wpOpsS, go_sem, recoverD, hu, Tryz.ntmps154, Exit.thenS]
  refine wpS_of_wp ?_
  go_wp2
  cases c₀
  simp_all [bodyPostS, results, Tryz.results154]
theorem hta (a : Value) (u : World) : (Instr.typeAssert (.iface 179 a) 20 179 false).run Tryz.prog u = .ok a u := by
  first | rfl | kernel_rfl | (simp [Instr.typeAssert, go_sem]; done) | (unfold Instr.typeAssert; trace_state; sorry)
theorem catch_panicking (g g2 : Nat) (hg : g ≠ g2) (x y z : Value) (f : Flt) (w : World) (h1 : w.heap[g]? = some (.cells #[x] 130 (0, 0))) (h2 : w.heap[g2]? = some (.cells #[y, z] 179 (0, 0))) :
    CallsD Tryz.prog 154 #[.pointer (some ⟨g, 0, none⟩), .pointer (some ⟨g2, 0, none⟩)] (.panicking ({ v := .iface 179 (.agg #[.int .i64 (f.1 : Nat), .int .i64 (f.2 : Nat)]), recovered := false } :: [])) w fun e u' w' =>
      e = .returned (.tuple #[]) ∧ u' = .panicking ({ v := .iface 179 (.agg #[.int .i64 (f.1 : Nat), .int .i64 (f.2 : Nat)]), recovered := true } :: []) ∧ w'.heap[g]? = some (.cells #[.pointer none] 130 (0, 0)) ∧ w'.heap[g2]? = some (.cells #[.int .i64 (f.1 : Nat), .int .i64 (f.2 : Nat)] 179 (0, 0)) ∧ Mv (fun k => k = g ∨ k = g2) w w' := by
  have hg' := hg.symm
  have c0 := cell_blk h1 0
  have c1 := cell_blk h2 0
  have c2 := cell_blk h2 1
  have f0 := free_blk h1 0
  have f1 := free_blk h2 0
  have f2 := free_blk h2 1
  simp only [List.getElem?_toArray, List.getElem?_cons_zero, List.getElem?_cons_succ] at c0 c1 c2
  have hta := hta (.agg #[.int .i64 (f.1 : Nat), .int .i64 (f.2 : Nat)])
  refine callsD_of_wpS Tryz.func154 rfl fun c₀ cs hu => ?_
  apply wpS_seq
  apply wpS_region
  simp [wpOpsS, go_sem, recoverD, hu, Tryz.ntmps154, Exit.thenS]
  refine wpS_of_wp ?_
  go_wp2
  go_region
  all_goals
    have m1 : Mv (fun k => k = g) w (w.setCell ⟨g, 0, none⟩ (.pointer none)) := (Mv.refl (fun k => k = g) w).setCell (p := ⟨g, 0, none⟩) (fun _ => rfl) _
    have s1 := set_blk h1 0 (.pointer none)
    have s2 := (m1.block g2 (blk_lt h2) hg').trans h2
    have m2 : Mv (fun k => k = g2) (w.setCell ⟨g, 0, none⟩ (.pointer none)) (((w.setCell ⟨g, 0, none⟩ (.pointer none)).setCell ⟨g2, 0, none⟩ (.int .i64 (f.1 : Nat))).setCell ⟨g2, 1, none⟩ (.int .i64 (f.2 : Nat))).drew :=
      (((Mv.refl (fun k => k = g2) (w.setCell ⟨g, 0, none⟩ (.pointer none))).setCell (p := ⟨g2, 0, none⟩) (fun _ => rfl) (.int .i64 (f.1 : Nat))).setCell (p := ⟨g2, 1, none⟩) (fun _ => rfl) (.int .i64 (f.2 : Nat))).drew
    have k1 := (m2.block g (blk_lt s1) hg).trans s1
    have k2 := set_blk (set_blk s2 0 (.int .i64 (f.1 : Nat))) 1 (.int .i64 (f.2 : Nat))
    have mm := (m1.mono (T := fun k => k = g ∨ k = g2) fun _ _ h => .inl h).trans m2 fun _ _ h => .inr h
    have key : ∀ W' : World, W' = (((w.setCell ⟨g, 0, none⟩ (.pointer none)).setCell ⟨g2, 0, none⟩ (.int .i64 (f.1 : Nat))).setCell ⟨g2, 1, none⟩ (.int .i64 (f.2 : Nat))).drew → W'.heap[g]? = some (.cells #[.pointer none] 130 (0, 0)) ∧ W'.heap[g2]? = some (.cells #[.int .i64 (f.1 : Nat), .int .i64 (f.2 : Nat)] 179 (0, 0)) ∧ Mv (fun k => k = g ∨ k = g2) w W' := fun W' e => by
      subst e
      exact ⟨by simpa using k1, by have : (((w.setCell ⟨g, 0, none⟩ (.pointer none)).setCell ⟨g2, 0, none⟩ (.int .i64 (f.1 : Nat))).setCell ⟨g2, 1, none⟩ (.int .i64 (f.2 : Nat))).drew.heap[g2]? = _ := k2; simpa using this, mm⟩
    generalize hW' : (((w.setCell ⟨g, 0, none⟩ (.pointer none)).setCell ⟨g2, 0, none⟩ (.int .i64 (f.1 : Nat))).setCell ⟨g2, 1, none⟩ (.int .i64 (f.2 : Nat))).drew = W'
    have hk := key W' hW'.symm
    clear hW' key k1 k2 mm m1 m2 s1 s2 c0 c1 c2 f0 f1 f2 h1 h2
    cases c₀
    exact ⟨rfl, .panicking ({ v := .iface 179 (.agg #[.int .i64 (f.1 : Nat), .int .i64 (f.2 : Nat)]), recovered := true } :: []), rfl, .tuple #[], by simp [results, Tryz.results154], rfl, rfl, hk⟩
end
end
section
set_option linter.unusedVariables false
set_option linter.unusedSimpArgs false
open Go.RowKit
/-- The cells of a pattern. -/
def rexC (s : ByteArray) (v : Value) (x : Prt) : Array Value := #[.bool true, .string s, v, .int .u64 (wd x.first 0 : Nat), .int .u64 (wd x.first 1 : Nat), .int .u64 (wd x.first 2 : Nat), .int .u64 (wd x.first 3 : Nat), .int .u64 (wd x.last 0 : Nat), .int .u64 (wd x.last 1 : Nat), .int .u64 (wd x.last 2 : Nat), .int .u64 (wd x.last 3 : Nat), .bool x.empty]
structure RexIs (w : World) (b : Nat) (s : ByteArray) (t : Re) : Prop where
  box : ∃ v us, w.heap[b]? = some (.cells (rexC s v (compP t []).1) 188 (0, 0)) ∧ AtIs w 0 v us (compP t []).2
  few : (compP t []).2.length ≤ 256
def RdOut (s : ByteArray) (w : World) (r : Except Flt Re) (e : Ending) (w' : World) : Prop :=
  match r with
  | .ok t => ∃ b, e = .returned (.tuple #[.pointer (some ⟨b, 0, none⟩), .agg #[.int .i64 0, .int .i64 0]]) ∧ w.heap.size ≤ b ∧ RexIs w' b s t ∧ RowKit.Below w.heap.size w w'
  | .error f => e = .returned (.tuple #[.pointer none, .agg #[.int .i64 (f.1 : Nat), .int .i64 (f.2 : Nat)]]) ∧ RowKit.Below w.heap.size w w'
theorem AtIs.low {w : World} {B B' : Nat} {v : Value} {us : List Value} {L : List Atm} (h : AtIs w B v us L) (hb : B' ≤ B) : AtIs w B' v us L := ⟨h.len, h.row.lower hb, fun i u a hu ha => (h.sp i u a hu ha).lower hb⟩
theorem AtIs.below {w w' : World} {B : Nat} {v : Value} {us : List Value} {L : List Atm} (h : AtIs w B v us L) (m : RowKit.Below w.heap.size w w') : AtIs w' B v us L := h.mv (S := fun _ => False) (Mv.of_below m _) fun _ _ f => f
theorem RexIs.below {w w' : World} {b : Nat} {s : ByteArray} {t : Re} (h : RexIs w b s t) (m : RowKit.Below w.heap.size w w') : RexIs w' b s t := by
  obtain ⟨v, us, hb, ha⟩ := h.box
  exact ⟨⟨v, us, (m.block _ (blk_lt hb)).trans hb, ha.below m⟩, h.few⟩
/-- A parser at its beginning. -/
theorem PIs.start {w3 : World} {s : ByteArray} {b c : Nat} (hs : s.size ≤ 256) (h1 : (placesAt 0 (bl s)).length ≤ c) (h2 : c ≤ maxLen) (hb : b < w3.heap.size) (hr : Rd w3 (some ⟨b, 0, none⟩) (pcC (placesAt 0 (bl s)))) :
    PIs (w3.alloc (.cells #[.slice (some ⟨b, 0, none⟩) (placesAt 0 (bl s)).length c, .slice none 0 0] 211)) w3.heap.size (placesAt 0 (bl s)) (.slice none 0 0) [] [] := by
  have hl : (bl s).length ≤ 256 := by rw [bl_len]; exact hs
  refine ⟨⟨b, 0, c, heap_alloc_new _ _, hb, h1, h2, hr.alloc _⟩, ⟨rfl, ⟨rfl, .inl ⟨rfl, rfl⟩⟩, fun i u a hu => by simp at hu⟩, places_ok _ _, places_small _ _ (by omega), ?_⟩
  have := places_len (bl s) 0
  simp; omega
/-- The results laid, the pattern made. -/
theorem read_end {w8 : World} {g : Nat} {x : Value} {bx : Obj} (h1 : w8.heap[g]? = some (.cells #[x] 130 (0, 0))) (h2 : w8.heap[g + 1]? = some (.cells #[.int .i64 0, .int .i64 0] 179 (0, 0))) (y : Value) :
    ∀ X : World, X = (((w8.setCell ⟨g, 0, none⟩ y).setCell ⟨g + 1, 0, none⟩ (.int .i64 0)).setCell ⟨g + 1, 1, none⟩ (.int .i64 0)).alloc bx →
    X.heap[g]? = some (.cells #[y] 130 (0, 0)) ∧ X.heap[g + 1]? = some (.cells #[.int .i64 0, .int .i64 0] 179 (0, 0)) ∧ X.heap[w8.heap.size]? = some bx ∧ Mv (fun k => k = g ∨ k = g + 1) w8 X := fun X e => by
  have m1 : Mv (fun k => k = g) w8 (w8.setCell ⟨g, 0, none⟩ y) := (Mv.refl (fun k => k = g) w8).setCell (p := ⟨g, 0, none⟩) (fun _ => rfl) _
  have s1 := set_blk h1 0 y
  have s2 := (m1.block (g + 1) (blk_lt h2) (by omega)).trans h2
  have m2 : Mv (fun k => k = g + 1) (w8.setCell ⟨g, 0, none⟩ y) ((((w8.setCell ⟨g, 0, none⟩ y).setCell ⟨g + 1, 0, none⟩ (.int .i64 0)).setCell ⟨g + 1, 1, none⟩ (.int .i64 0)).alloc bx) :=
    (((Mv.refl (fun k => k = g + 1) (w8.setCell ⟨g, 0, none⟩ y)).setCell (p := ⟨g + 1, 0, none⟩) (fun _ => rfl) (.int .i64 0)).setCell (p := ⟨g + 1, 1, none⟩) (fun _ => rfl) (.int .i64 0)).alloc bx
  have k2 := set_blk (set_blk s2 0 (.int .i64 0)) 1 (.int .i64 0)
  have k3 := heap_alloc_new (((w8.setCell ⟨g, 0, none⟩ y).setCell ⟨g + 1, 0, none⟩ (.int .i64 0)).setCell ⟨g + 1, 1, none⟩ (.int .i64 0)) bx
  have hsz : (((w8.setCell ⟨g, 0, none⟩ y).setCell ⟨g + 1, 0, none⟩ (.int .i64 0)).setCell ⟨g + 1, 1, none⟩ (.int .i64 0)).heap.size = w8.heap.size := by simp
  rw [hsz] at k3
  subst e
  refine ⟨(m2.block g (blk_lt s1) (by omega)).trans (by simpa using s1), ?_, k3, (m1.mono (T := fun k => k = g ∨ k = g + 1) fun _ _ h => .inl h).trans m2 fun _ _ h => .inr h⟩
  rw [Below.heap_alloc _ _ _ (by rw [hsz]; exact blk_lt h2)]
  simpa using k2
section
set_option maxHeartbeats 3200000
set_option maxRecDepth 100000
theorem read_any (s : ByteArray) (w : World) (hs : s.size ≤ 256) : Calls Tryz.prog 134 #[.string s] w (RdOut s w (wholeP (placesAt 0 (bl s)))) := by
  obtain ⟨R, hR⟩ : ∃ R, wholeP (placesAt 0 (bl s)) = R := ⟨_, rfl⟩
  rw [hR]
  unfold wholeP at hR
  have hmf : ∀ (fn : Fn) (first cap : Array Value) (w : World), (Instr.makeFunc fn first cap).run Tryz.prog w = .ok (.func fn first cap) w := fun _ _ _ _ => rfl
  obtain ⟨W, hW⟩ : ∃ W, W = (w.alloc (.cells #[.pointer none] 130)).alloc (.cells #[.int .i64 0, .int .i64 0] 179) := ⟨_, rfl⟩
  have hb : RowKit.Below w.heap.size w W := by rw [hW]; exact ((RowKit.Below.refl _ w).alloc (Nat.le_refl _) _).alloc (by simp) _
  have hg1 : W.heap[w.heap.size]? = some (.cells #[.pointer none] 130 (0, 0)) := by rw [hW, Below.heap_alloc _ _ _ (by simp)]; exact heap_alloc_new _ _
  have hg2 : W.heap[w.heap.size + 1]? = some (.cells #[.int .i64 0, .int .i64 0] 179 (0, 0)) := by rw [hW]; exact heap_alloc_new2 _ _ _
  have HP := Lib.hid (places_any s W (by omega))
  have HW := Lib.hid hW; have HB := Lib.hid hb; have HG1 := Lib.hid hg1; have HG2 := Lib.hid hg2; have HRR := Lib.hid hR
  have hsz : W.heap.size = w.heap.size + 2 := by rw [hW]; simp
  have HSZ := Lib.hid hsz
  clear hW hb hg1 hg2 hR hsz
  go_enter_defers Tryz.func134, Tryz.ntmps134
  go_wp2_with fail
  rw [← HW.out]
  refine HP.out.mono ?_
  rintro e w3 ⟨b, c, rfl, hn1, hn2, hWb, hb3, hr3, hbl3⟩
  have hps := PIs.start hs hn1 hn2 hb3 hr3
  obtain ⟨w4, hw4⟩ : ∃ w4, w4 = w3.alloc (.cells #[.slice (some ⟨b, 0, none⟩) (placesAt 0 (bl s)).length c, .slice none 0 0] 211) := ⟨_, rfl⟩
  obtain ⟨p, hp⟩ : ∃ p, p = w3.heap.size := ⟨_, rfl⟩
  rw [← hw4, ← hp] at hps
  have HPS := Lib.hid hps
  have HB4 := Lib.hid (show RowKit.Below W.heap.size W w4 by rw [hw4]; exact hbl3.alloc hbl3.size _)
  have HPW := Lib.hid (show W.heap.size ≤ p by rw [hp]; exact hbl3.size)
  have HPT := Lib.hid (whole_any p _ _ _ _ w4 hps)
  have HW4 := Lib.hid hw4; have HPP := Lib.hid hp
  clear hps hn1 hn2 hWb hb3 hr3 hbl3 hw4 hp HP
  have hR := HRR.out
  generalize placesAt 0 (bl s) = l at *
  generalize patP (grpP 20) l = R1 at hR HPT
  have HR := Lib.hid hR; clear hR HRR
  have HFX := Lib.hid (show ∀ wx, Mv (PM p (.slice none 0 0)) w4 wx → wx.heap[w.heap.size]? = some (.cells #[.pointer none] 130 (0, 0)) ∧ wx.heap[w.heap.size + 1]? = some (.cells #[.int .i64 0, .int .i64 0] 179 (0, 0)) ∧ RowKit.Below w.heap.size w wx from fun wx m => by
    have e0 := HSZ.out
    have e1 := HPW.out
    have mx : Mv (fun k => W.heap.size ≤ k) W wx := (Mv.of_below HB4.out _).trans m fun i hi e => by
      rcases e with e | e
      · omega
      · simp [Value.ownBlock] at e
    exact ⟨(mx.block _ (blk_lt HG1.out) (by omega)).trans HG1.out, (mx.block _ (blk_lt HG2.out) (by omega)).trans HG2.out, HB.out.trans (mx.belowB HB.out.size fun k hk e => by omega)⟩)
  go_wp2_with fail
  rw [← HW4.out, ← HPP.out]
  refine HPT.out.mono ?_
  intro e w5 ho
  cases R1 with
  | error F0 =>
    obtain ⟨rfl, hm5⟩ := ho
    have HFE := Lib.hid (HFX.out w5 hm5)
    have HRX := Lib.hid (show R = .error F0 from HR.out.symm)
    clear hm5
    unfold flE
    go_wp2
    refine leaves_cons (f := 154) (args := #[.pointer (some ⟨w.heap.size, 0, none⟩), .pointer (some ⟨w.heap.size + 1, 0, none⟩)]) (by simp) (by simp [go_sem]) ?_
    refine (catch_panicking w.heap.size (w.heap.size + 1) (by omega) _ _ _ F0 _ HFE.out.1 HFE.out.2.1).mono ?_
    rintro e u' w9 ⟨rfl, rfl, k1, k2, mm⟩
    have c0 := cell_blk k1 0
    have c1 := cell_blk k2 0
    have c2 := cell_blk k2 1
    simp only [List.getElem?_toArray, List.getElem?_cons_zero, List.getElem?_cons_succ] at c0 c1 c2
    have hbel : RowKit.Below w.heap.size w w9 := HFE.out.2.2.trans (mm.belowB HFE.out.2.2.size fun k hk e => by omega)
    have hfin : RdOut s w R (.returned (.tuple #[.pointer none, .agg #[.int .i64 (F0.1 : Nat), .int .i64 (F0.2 : Nat)]])) w9 := by rw [HRX.out]; exact ⟨rfl, hbel⟩
    have HFN := Lib.hid hfin
    clear hfin hbel k1 k2 mm HFE
    simp [Leaves, settle, results, Tryz.results134, go_sem, c0, c1, c2]
    first | exact HFN.out | (trace_state; sorry)
  | ok x =>
    obtain ⟨t, l1⟩ := x
    obtain ⟨v', us', rfl, h5, hm5⟩ := ho
    obtain ⟨X2, hX⟩ : ∃ X2, compP t [] = X2 := ⟨_, rfl⟩
    rw [hX] at h5 ⊢
    obtain ⟨⟨f, la, em⟩, L1⟩ := X2
    replace h5 : PIs w5 p l1 v' us' L1 := h5
    simp only [partV, partC]
    obtain ⟨w6, hw6⟩ : ∃ w6, w6 = w5.alloc (.cells #[.int .u64 (wd f 0 : Nat), .int .u64 (wd f 1 : Nat), .int .u64 (wd f 2 : Nat), .int .u64 (wd f 3 : Nat), .int .u64 (wd la 0 : Nat), .int .u64 (wd la 1 : Nat), .int .u64 (wd la 2 : Nat), .int .u64 (wd la 3 : Nat), .bool em] 186) := ⟨_, rfl⟩
    obtain ⟨gg, hgg⟩ : ∃ gg, gg = w5.heap.size := ⟨_, rfl⟩
    have hbl : RowKit.Below w5.heap.size w5 w6 := by rw [hw6]; exact (RowKit.Below.refl _ _).alloc (Nat.le_refl _) _
    have h6 := h5.below hbl
    have hm6 := hm5.mv.trans (Mv.of_below hbl (PM p (.slice none 0 0))) fun _ _ h => h
    clear hm5
    obtain ⟨Av, cv, hv, -, -, -⟩ := own_rdg h6.at'.row
    subst hv
    have hfx := HFX.out w6 hm6
    have hbe : w6.heap[gg]? = some (.cells (partL ⟨f, la, em⟩).toArray 186 (0, 0)) := by rw [hw6, hgg]; exact heap_alloc_new _ _
    have hN := now_any p l1 _ us' L1 w6 h6
    have HW6 := Lib.hid hw6; have HGE := Lib.hid hgg; have H6 := Lib.hid h6; have HFE := Lib.hid hfx; have HX := Lib.hid hX
    have hR := HR.out
    simp only at hR
    clear hw6 hgg hbl h5 hm6 h6 hX HR
    by_cases h1 : nowP l1 = -1
    · rw [if_pos h1] at hR
      have HRX := Lib.hid hR.symm
      rw [h1] at hN
      have HN := Lib.hid hN
      have HYY := Lib.hid (fun W => must_yes p W)
      obtain ⟨pb, off, cc, hbx, -, -, -, -⟩ := H6.out.box
      have b1 := cell_blk hbx 1
      simp only [List.getElem?_toArray, List.getElem?_cons_zero, List.getElem?_cons_succ] at b1
      have k0 := cell_blk hfx.1 0
      have k1 := cell_blk hfx.2.1 0
      have k2 := cell_blk hfx.2.1 1
      have q0 := free_blk hfx.1 0
      have q1 := free_blk hfx.2.1 0
      have q2 := free_blk hfx.2.1 1
      simp only [List.getElem?_toArray, List.getElem?_cons_zero, List.getElem?_cons_succ] at k0 k1 k2
      have y0 := cell_blk hbe 0
      have y1 := cell_blk hbe 1
      have y2 := cell_blk hbe 2
      have y3 := cell_blk hbe 3
      have y4 := cell_blk hbe 4
      have y5 := cell_blk hbe 5
      have y6 := cell_blk hbe 6
      have y7 := cell_blk hbe 7
      have y8 := cell_blk hbe 8
      simp only [partL, List.getElem?_toArray, List.getElem?_cons_zero, List.getElem?_cons_succ] at y0 y1 y2 y3 y4 y5 y6 y7 y8
      have hl1 := blk_lt hfx.1
      have hl2 := blk_lt hfx.2.1
      have hn1 : w.heap.size ≠ w6.heap.size := by omega
      have hn2 : w.heap.size + 1 ≠ w6.heap.size := by omega
      have HFW := Lib.hid hfx
      have HBX := Lib.hid hbx
      clear hN hR h1 hfx hbe hbx
      go_wp2_with fail
      rw [← HW6.out, ← HGE.out]
      refine HN.out.mono ?_
      rintro e w7 ⟨rfl, rfl⟩
      go_wp2_with fail
      refine (HYY.out _).mono ?_
      rintro e w8 ⟨rfl, rfl⟩
      go_wp2
      obtain ⟨X, hX⟩ : ∃ X, X = (((w8.setCell ⟨w.heap.size, 0, none⟩ (.pointer (some ⟨w8.heap.size, 0, none⟩))).setCell ⟨w.heap.size + 1, 0, none⟩ (.int .i64 0)).setCell ⟨w.heap.size + 1, 1, none⟩ (.int .i64 0)).alloc (.cells #[.bool true, .string s, .slice Av L1.length cv, .int .u64 (wd f 0 : Nat), .int .u64 (wd f 1 : Nat), .int .u64 (wd f 2 : Nat), .int .u64 (wd f 3 : Nat), .int .u64 (wd la 0 : Nat), .int .u64 (wd la 1 : Nat), .int .u64 (wd la 2 : Nat), .int .u64 (wd la 3 : Nat), .bool em] 188) := ⟨_, rfl⟩
      rw [← hX]
      obtain ⟨j1, j2, j3, mm⟩ := read_end HFW.out.1 HFW.out.2.1 (.pointer (some ⟨w8.heap.size, 0, none⟩)) X hX
      have c0 := cell_blk j1 0
      have c1 := cell_blk j2 0
      have c2 := cell_blk j2 1
      simp only [List.getElem?_toArray, List.getElem?_cons_zero, List.getElem?_cons_succ] at c0 c1 c2
      have hgp : w.heap.size + 1 < p + 1 := by have := HPW.out; have := HSZ.out; omega
      have hfin : RdOut s w R (.returned (.tuple #[.pointer (some ⟨w8.heap.size, 0, none⟩), .agg #[.int .i64 0, .int .i64 0]])) X := by
        rw [HRX.out]
        refine ⟨w8.heap.size, rfl, HFW.out.2.2.size, ⟨⟨.slice Av L1.length cv, us', by rw [HX.out]; exact j3, ?_⟩, by rw [HX.out]; have := H6.out.few; have := List.length_pos_iff.2 H6.out.ok.ne; simp only; omega⟩, HFW.out.2.2.trans (mm.belowB HFW.out.2.2.size fun k hk e => by omega)⟩
        rw [HX.out]
        exact (H6.out.at'.mv mm fun k hk e => by omega).low (Nat.zero_le _)
      have HFN := Lib.hid hfin
      clear hfin j1 j2 j3 mm hX HFW HBX H6
      refine leaves_cons (f := 154) (args := #[.pointer (some ⟨w.heap.size, 0, none⟩), .pointer (some ⟨w.heap.size + 1, 0, none⟩)]) (by simp) (by simp [go_sem]) ?_
      refine (catch_idle _ _ _).mono ?_
      rintro e u' w9 ⟨rfl, rfl, rfl⟩
      simp [Leaves, settle, results, Tryz.results134, go_sem, c0, c1, c2]
      first | exact HFN.out | (trace_state; sorry)
    · rw [if_neg h1] at hR
      have HRX := Lib.hid hR.symm
      have g1 : (nowP l1 == -1) = false := by rw [beq_eq_false_iff_ne]; exact h1
      have HNO := Lib.hid (must_no p l1 _ us' L1 w6 H6.out)
      obtain ⟨F0, hF⟩ : ∃ F0 : Flt, F0 = (atP l1, 8) := ⟨_, rfl⟩
      have HRX := Lib.hid (show R = .error F0 by rw [hF]; exact hR.symm)
      have e1 : (atP l1 : Int) = ((F0.1 : Nat) : Int) := by rw [hF]
      have e2 : ((8 : Int)) = ((F0.2 : Nat) : Int) := by rw [hF]; rfl
      have HNP := Lib.hid (show Calls Tryz.prog 157 #[.pointer (some ⟨p, 0, none⟩), .bool false] w6 (fun e w' => e = .panicked [{ v := .iface 179 (.agg #[.int .i64 (F0.1 : Nat), .int .i64 (F0.2 : Nat)]), recovered := false }] ∧ w' = w6) by rw [← e1, ← e2]; exact HNO.out)
      clear hR hF e1 e2 HNO hfx hbe
      generalize nowP l1 = cn at g1 hN
      have HN := Lib.hid hN
      clear hN h1
      go_wp2_with fail
      rw [← HW6.out, ← HGE.out]
      refine HN.out.mono ?_
      rintro e w7 ⟨rfl, rfl⟩
      go_wp2_with fail
      refine HNP.out.mono ?_
      rintro e w8 ⟨rfl, rfl⟩
      go_wp2
      refine leaves_cons (f := 154) (args := #[.pointer (some ⟨w.heap.size, 0, none⟩), .pointer (some ⟨w.heap.size + 1, 0, none⟩)]) (by simp) (by simp [go_sem]) ?_
      refine (catch_panicking w.heap.size (w.heap.size + 1) (by omega) _ _ _ F0 _ HFE.out.1 HFE.out.2.1).mono ?_
      rintro e u' w9 ⟨rfl, rfl, k1, k2, mm⟩
      have c0 := cell_blk k1 0
      have c1 := cell_blk k2 0
      have c2 := cell_blk k2 1
      simp only [List.getElem?_toArray, List.getElem?_cons_zero, List.getElem?_cons_succ] at c0 c1 c2
      have hbel : RowKit.Below w.heap.size w w9 := HFE.out.2.2.trans (mm.belowB HFE.out.2.2.size fun k hk e => by omega)
      have hfin : RdOut s w R (.returned (.tuple #[.pointer none, .agg #[.int .i64 (F0.1 : Nat), .int .i64 (F0.2 : Nat)]])) w9 := by rw [HRX.out]; exact ⟨rfl, hbel⟩
      have HFN := Lib.hid hfin
      clear hfin hbel k1 k2 mm HFE
      simp [Leaves, settle, results, Tryz.results134, go_sem, c0, c1, c2]
      first | exact HFN.out | (trace_state; sorry)
end
end
section
set_option linter.unusedVariables false
set_option linter.unusedSimpArgs false
open Go.RowKit
def PaOut (s : ByteArray) (w : World) (r : Except Flt Re) (e : Ending) (w' : World) : Prop :=
  match r with
  | .ok t => ∃ b, e = .returned (.tuple #[.pointer (some ⟨b, 0, none⟩), .int .i64 0, .int .i64 0]) ∧ w.heap.size ≤ b ∧ RexIs w' b s t ∧ RowKit.Below w.heap.size w w'
  | .error f => e = .returned (.tuple #[.pointer none, .int .i64 (f.1 : Nat), .int .i64 (f.2 : Nat)]) ∧ RowKit.Below w.heap.size w w'
section
set_option maxHeartbeats 3200000
set_option maxRecDepth 100000
theorem parse_any (s : ByteArray) (w : World) : Calls Tryz.prog 110 #[.string s] w (PaOut s w (rxP (bl s))) := by
  obtain ⟨R, hR⟩ : ∃ R, rxP (bl s) = R := ⟨_, rfl⟩
  rw [hR]
  unfold rxP at hR
  rw [bl_len] at hR
  by_cases hs : 256 < s.size
  · rw [if_pos hs] at hR
    have HR := Lib.hid hR; clear hR
    have g : (256 : Int) < (s.size : Int) := by omega
    go_enter Tryz.func110, Tryz.ntmps110
    go_wp2
    go_ret3
    rw [← HR.out]
    exact ⟨rfl, RowKit.Below.refl _ _⟩
  · rw [if_neg hs] at hR
    have hr := read_any s w (by omega)
    rw [hR] at hr
    have g : ¬ (256 : Int) < (s.size : Int) := by omega
    have HRD := Lib.hid hr
    clear hr hR hs
    go_enter Tryz.func110, Tryz.ntmps110
    go_wp2_with fail
    refine HRD.out.mono ?_
    intro e w1 ho
    cases R with
    | error f =>
      obtain ⟨rfl, hb⟩ := ho
      have HB := Lib.hid hb; clear hb
      go_wp2
      go_quiet (fail)
      go_wp2
      go_ret3
      exact ⟨rfl, below_drewN (HB.out.alloc HB.out.size _) _⟩
    | ok t =>
      obtain ⟨b, rfl, h1, h2, h3⟩ := ho
      have H1 := Lib.hid (And.intro h1 (And.intro h2 h3)); clear h1 h2 h3
      go_wp2
      go_quiet (fail)
      go_wp2
      go_ret3
      have hbb := below_drewN ((RowKit.Below.refl w1.heap.size w1).alloc (Nat.le_refl _) (.cells #[.int .i64 0, .int .i64 0] 179)) nq
      exact ⟨b, rfl, H1.out.1, H1.out.2.1.below hbb, H1.out.2.2.trans (hbb.mono H1.out.2.2.size)⟩
end
end
end
end Go.Proofs.YtjgappbomohlcaaGreatDoor
