/-
  Two points held against one another: which is ahead, which counts, what the one came to.
-/
import Derived.Test.YtinjdlplbficiaaPm
namespace Go.Proofs.Ytinjdlplbficiaa
set_option linter.unusedVariables false
set_option linter.unusedSimpArgs false
open Go.RowKit
/-- A point in a box. -/
def boxPt (p : Pt) : Array Value := #[.int .i64 p.1, .int .u64 p.2.1, .int .u64 p.2.2]
def PBox (w : World) (b : Nat) (p : Pt) : Prop := w.heap[b]? = some (.cells (boxPt p) 25 (0, 0))
theorem PBox.new (w : World) (p : Pt) : PBox (w.alloc (.cells (boxPt p) 25)) w.heap.size p := heap_alloc_new w _
theorem PBox.below {w w' : World} {b : Nat} {p : Pt} (h : PBox w b p) (hb : Below w.heap.size w w') : PBox w' b p := (hb.block _ (blk_lt h)).trans h
theorem PBox.low {B : Nat} {w w' : World} {b : Nat} {p : Pt} (h : PBox w b p) (hb : Below B w w') (hB : b < B) : PBox w' b p := (hb.block _ hB).trans h
theorem PBox.alloc {w : World} {b : Nat} {p : Pt} (h : PBox w b p) (o : Obj) : PBox (w.alloc o) b p := (Below.heap_alloc w o b (blk_lt h)).trans h
theorem PBox.cells {w : World} {b : Nat} {p : Pt} (h : PBox w b p) : w.cell? ⟨b, 0, none⟩ = some (.int .i64 p.1) ∧ w.cell? ⟨b, 1, none⟩ = some (.int .u64 p.2.1) ∧ w.cell? ⟨b, 2, none⟩ = some (.int .u64 p.2.2) :=
  ⟨cell_blk h 0, cell_blk h 1, cell_blk h 2⟩
theorem PBox.rd {w : World} {b : Nat} {p : Pt} (h : PBox w b p) : Rd w (some ⟨b, 0, none⟩) (pcells [p]) := by
  intro k v hv
  refine ⟨b, 0, rfl, ?_⟩
  rw [Nat.zero_add, cell_blk h]
  simpa [pcells, boxPt] using hv
def ptL (p : Pt) : List Value := [.int .i64 p.1, .int .u64 p.2.1, .int .u64 p.2.2]
theorem ptL_box (p : Pt) : (ptL p).toArray = boxPt p := rfl
theorem ptL_one (p : Pt) : ∀ v ∈ ptL p, v.oneCell' = true := by
  intro v hv
  simp only [ptL, List.mem_cons, List.not_mem_nil, or_false] at hv
  rcases hv with rfl | rfl | rfl <;> rfl
theorem spl3 (p q : Pt) : spl (boxPt q) 0 (ptL p) = boxPt p := rfl
section
set_option maxHeartbeats 1600000
set_option maxRecDepth 100000
theorem ahead_any (p q : Pt) (w : World) : Calls Try.prog 14 #[aggPt p, aggPt q] w fun e w' => e = .returned (.bool (aheadB p q)) ∧ Below w.heap.size w w' := by
  obtain ⟨p1, p2, p3⟩ := p
  obtain ⟨q1, q2, q3⟩ := q
  unfold aheadB aggPt
  simp only
  have hb := fun a b c d e f => ((RowKit.Below.refl w.heap.size w).alloc (Nat.le_refl _) (.cells #[.int .i64 a, .int .u64 b, .int .u64 c] 25)).alloc (by simp) (.cells #[.int .i64 d, .int .u64 e, .int .u64 f] 25)
  have HB := Lib.hid hb; clear hb
  by_cases h1 : p3 < q3
  · go_enter Try.func14, Try.ntmps14
    go_wp2
    go_ret
    exact ⟨by simp [h1], HB.out _ _ _ _ _ _⟩
  · by_cases h2 : p3 = q3
    · by_cases h3 : p2 < q2
      · go_enter Try.func14, Try.ntmps14
        go_wp2
        go_ret
        exact ⟨by simp [h1, h2, h3], HB.out _ _ _ _ _ _⟩
      · go_enter Try.func14, Try.ntmps14
        go_wp2
        go_ret
        exact ⟨by simp [h1, h2, h3], HB.out _ _ _ _ _ _⟩
    · go_enter Try.func14, Try.ntmps14
      go_wp2
      go_ret
      exact ⟨by simp [h1, h2], HB.out _ _ _ _ _ _⟩
theorem few_any (A : Option Addr) (c : Nat) (l : List Pt) (w : World) : Calls Try.prog 10 #[.slice A l.length c] w fun e w' => e = .returned (.bool (decide (l.length ≤ 400))) ∧ w' = w := by
  by_cases h : l.length ≤ 400
  · have h' : (l.length : Int) ≤ 400 := by omega
    go_enter Try.func10, Try.ntmps10
    go_wp2
    go_ret
    exact ⟨by simp [h], rfl⟩
  · have h' : ¬ (l.length : Int) ≤ 400 := by omega
    go_enter Try.func10, Try.ntmps10
    go_wp2
    go_ret
    exact ⟨by simp [h], rfl⟩
theorem count_any0 (p q : Pt) (w : World) : Calls Try.prog 40 #[aggPt p, aggPt q] w fun e w' => e = .returned (aggPt (if aheadB q p then q else p)) ∧ Below w.heap.size w w' := by
  obtain ⟨W, hW⟩ : ∃ W, W = ((w.alloc (.cells (boxPt p) 25)).alloc (.cells (boxPt q) 25)).alloc (.cells (boxPt (0, 0, 0)) 25) := ⟨_, rfl⟩
  have hbw : Below w.heap.size w W := by rw [hW]; exact (((RowKit.Below.refl w.heap.size w).alloc (Nat.le_refl _) _).alloc (by simp) _).alloc (by simp; omega) _
  have hsz : W.heap.size = w.heap.size + 3 := by rw [hW]; simp
  have hp : PBox W w.heap.size p := by rw [hW]; exact ((PBox.new w p).alloc _).alloc _
  have hq : PBox W (w.heap.size + 1) q := by rw [hW]; have := (PBox.new (w.alloc (.cells (boxPt p) 25)) q).alloc (.cells (boxPt (0, 0, 0)) 25); rwa [World.size_alloc] at this
  have hz : PBox W (w.heap.size + 1 + 1) (0, 0, 0) := by rw [hW]; have := PBox.new ((w.alloc (.cells (boxPt p) 25)).alloc (.cells (boxPt q) 25)) (0, 0, 0); rwa [World.size_alloc, World.size_alloc] at this
  have hcall := ahead_any q p W
  obtain ⟨p0, p1, p2⟩ := hp.cells
  obtain ⟨q0, q1, q2⟩ := hq.cells
  have HP := Lib.hid hp; have HQ := Lib.hid hq; have HZ := Lib.hid hz; have HBW := Lib.hid hbw; have HSZ := Lib.hid hsz
  rw [hW] at p0 p1 p2 q0 q1 q2
  unfold boxPt at hW p0 p1 p2 q0 q1 q2
  clear hp hq hz hbw hsz
  unfold aggPt at *
  have HW2 := Lib.hid hW
  clear hW
  cases ha : aheadB q p
  · rw [ha] at hcall
    have HC := Lib.hid hcall; clear hcall ha
    go_enter Try.func40, Try.ntmps40
    go_wp2_with (first
      | (rw [← HW2.out]; go_at_call 14; refine HC.out.mono ?_; rintro e w1 ⟨rfl, hb⟩; obtain ⟨u0, u1, u2⟩ := (HP.out.below hb).cells; have hz1 := HZ.out.below hb; have hb1 := HBW.out.trans (hb.mono HBW.out.size); have hs1 := hb.size; rw [HSZ.out] at hs1)
      | (refine wpList_store_agg (o := ⟨none, _, _, _, _, _⟩) ?_ 25 (.tmp 4) (.tmp 9) ?_ (w.heap.size + 1 + 1) 0 (ptL p) ?_ ?_ 25 (boxPt (0, 0, 0)) hz1 ?_ ?_ ?_ ?_; rfl; rfl; rfl; rfl; kernel_rfl; (show 0 + 3 ≤ 3; decide); exact ptL_one _; intro w9 hw9 hm9 hs9; rw [spl3] at hw9)
      | fail)
    exact bodyPost_cell rfl (w.heap.size + 1 + 1) 25 (boxPt p) rfl hw9 (by kernel_rfl) (by kernel_rfl) rfl ⟨rfl, hb1.trans (hm9.belowB (by omega) (fun k hk e => by omega))⟩
  · rw [ha] at hcall
    have HC := Lib.hid hcall; clear hcall ha
    go_enter Try.func40, Try.ntmps40
    go_wp2_with (first
      | (rw [← HW2.out]; go_at_call 14; refine HC.out.mono ?_; rintro e w1 ⟨rfl, hb⟩; obtain ⟨u0, u1, u2⟩ := (HQ.out.below hb).cells; have hz1 := HZ.out.below hb; have hb1 := HBW.out.trans (hb.mono HBW.out.size); have hs1 := hb.size; rw [HSZ.out] at hs1)
      | (refine wpList_store_agg (o := ⟨none, _, _, _, _, _⟩) ?_ 25 (.tmp 4) (.tmp 8) ?_ (w.heap.size + 1 + 1) 0 (ptL q) ?_ ?_ 25 (boxPt (0, 0, 0)) hz1 ?_ ?_ ?_ ?_; rfl; rfl; rfl; rfl; kernel_rfl; (show 0 + 3 ≤ 3; decide); exact ptL_one _; intro w9 hw9 hm9 hs9; rw [spl3] at hw9)
      | fail)
    exact bodyPost_cell rfl (w.heap.size + 1 + 1) 25 (boxPt q) rfl hw9 (by kernel_rfl) (by kernel_rfl) rfl ⟨rfl, hb1.trans (hm9.belowB (by omega) (fun k hk e => by omega))⟩
theorem count_any (p q : Pt) (w : World) : Calls Try.prog 40 #[aggPt p, aggPt q] w fun e w' => e = .returned (aggPt (cntP p q)) ∧ Below w.heap.size w w' := count_any0 p q w
theorem became_any (p q r : Pt) (w : World) : Calls Try.prog 42 #[aggPt p, aggPt q, aggPt r] w fun e w' => e = .returned (.int .i64 (if p.2.1 = q.2.1 then 2 else if r = p then 3 else 4)) ∧ Below w.heap.size w w' := by
  have hb := fun p q r => (((RowKit.Below.refl w.heap.size w).alloc (Nat.le_refl _) (.cells (boxPt p) 25)).alloc (by simp) (.cells (boxPt q) 25)).alloc (by simp; omega) (.cells (boxPt r) 25)
  have HB := Lib.hid hb; clear hb
  obtain ⟨p1, p2, p3⟩ := p
  obtain ⟨q1, q2, q3⟩ := q
  obtain ⟨r1, r2, r3⟩ := r
  unfold aggPt
  simp only
  by_cases h1 : p2 = q2
  · subst h1
    go_enter Try.func42, Try.ntmps42
    go_wp2
    go_ret
    exact ⟨by simp, HB.out (p1, p2, p3) (q1, p2, q3) (r1, r2, r3)⟩
  · go_enter Try.func42, Try.ntmps42
    go_wp2
    all_goals
      go_ret
      exact ⟨by simp_all, HB.out (_, _, _) (_, _, _) (_, _, _)⟩
end
end Go.Proofs.Ytinjdlplbficiaa
