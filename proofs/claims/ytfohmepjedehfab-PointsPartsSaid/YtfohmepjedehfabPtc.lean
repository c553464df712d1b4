/-
  The points of some times, and of writes up to one.
-/
import Derived.Test.YtfohmepjedehfabPt7
namespace Go.Proofs.Ytfohmepjedehfab
set_option linter.unusedVariables false
set_option linter.unusedSimpArgs false
open Go.RowKit
section
set_option maxHeartbeats 1600000
set_option maxRecDepth 100000
theorem range1_tells (ta tb : Nat) (lo hi : Int) : TellsP 36 #[.pointer (some ⟨ta, 0, none⟩), .pointer (some ⟨tb, 0, none⟩)] (rangeB lo hi) (fun W => W.heap[ta]? = some (.cells #[.int .i64 lo] 2 (0, 0)) ∧ W.heap[tb]? = some (.cells #[.int .i64 hi] 2 (0, 0))) := by
  rintro W x ⟨ha, hb⟩
  have hbw := (RowKit.Below.refl W.heap.size W).alloc (Nat.le_refl _) (.cells (boxPt x) 25)
  have da := cell_blk ((Below.heap_alloc W (.cells (boxPt x) 25) _ (blk_lt ha)).trans ha) 0
  have db := cell_blk ((Below.heap_alloc W (.cells (boxPt x) 25) _ (blk_lt hb)).trans hb) 0
  simp only [List.getElem?_toArray, List.getElem?_cons_zero] at da db
  unfold boxPt at hbw da db
  obtain ⟨x1, x2, x3⟩ := x
  unfold aggPt rangeB
  simp only at hbw da db ⊢
  have HBW := Lib.hid hbw
  clear hbw ha hb
  by_cases h1 : lo ≤ x1
  · by_cases h2 : x1 ≤ hi
    · go_enter Try.func36, Try.ntmps36
      go_wp2
      go_ret
      exact ⟨by simp [h1, h2], HBW.out⟩
    · go_enter Try.func36, Try.ntmps36
      go_wp2
      go_ret
      exact ⟨by simp [h1, h2], HBW.out⟩
  · go_enter Try.func36, Try.ntmps36
    go_wp2
    go_ret
    exact ⟨by simp; omega, HBW.out⟩
theorem upto1_tells (ta : Nat) (seq : Int) : TellsP 37 #[.pointer (some ⟨ta, 0, none⟩)] (uptoB seq) (fun W => W.heap[ta]? = some (.cells #[.int .u64 seq] 23 (0, 0))) := by
  rintro W x ha
  have hbw := (RowKit.Below.refl W.heap.size W).alloc (Nat.le_refl _) (.cells (boxPt x) 25)
  have da := cell_blk ((Below.heap_alloc W (.cells (boxPt x) 25) _ (blk_lt ha)).trans ha) 0
  simp only [List.getElem?_toArray, List.getElem?_cons_zero] at da
  unfold boxPt at hbw da
  obtain ⟨x1, x2, x3⟩ := x
  unfold aggPt uptoB
  simp only at hbw da ⊢
  have HBW := Lib.hid hbw
  clear hbw ha
  by_cases h1 : x3 ≤ seq
  all_goals
    go_enter Try.func37, Try.ntmps37
    go_wp2
    go_ret
    exact ⟨by simp [h1], HBW.out⟩
theorem range_any (A : Option Addr) (c : Nat) (l : List Pt) (lo hi : Int) (w : World) (hx : Rd w A (pcells l)) (hl : l.length ≤ 2000) :
    Calls Try.prog 16 #[.slice A l.length c, .int .i64 lo, .int .i64 hi] w fun e w' => ∃ A' c', e = .returned (.slice A' (l.filter (rangeB lo hi)).length c') ∧ w'.ownsRow w.heap.size 25 3 (.slice A' (l.filter (rangeB lo hi)).length c') (l.filter (rangeB lo hi)).length (pcells (l.filter (rangeB lo hi))) ∧ RowKit.Below w.heap.size w w' := by
  have hmf : ∀ (fn : Fn) (first cap : Array Value) (w : World), (Instr.makeFunc fn first cap).run Try.prog w = .ok (.func fn first cap) w := fun _ _ _ _ => rfl
  obtain ⟨W, hW⟩ : ∃ W, W = (w.alloc (.cells #[.int .i64 lo] 2)).alloc (.cells #[.int .i64 hi] 2) := ⟨_, rfl⟩
  have hb0 : RowKit.Below w.heap.size w W := by rw [hW]; exact ((RowKit.Below.refl _ w).alloc (Nat.le_refl _) _).alloc (by simp) _
  have h1 : W.heap[w.heap.size]? = some (.cells #[.int .i64 lo] 2 (0, 0)) := by rw [hW]; exact (Below.heap_alloc _ _ _ (by simp)).trans (heap_alloc_new w _)
  have h2 : W.heap[w.heap.size + 1]? = some (.cells #[.int .i64 hi] 2 (0, 0)) := by rw [hW]; exact heap_alloc_new2 w _ _
  have egk : ∀ args w, (callFunc 36 args).run Try.prog w = .ok (.enter 36 args) w := enters_of Try.func36 (by kernel_rfl) rfl
  have hcl := those_any A c l W 36 #[.pointer (some ⟨w.heap.size, 0, none⟩), .pointer (some ⟨w.heap.size + 1, 0, none⟩)] (rangeB lo hi) egk
    (fun W' x hW' => range1_tells w.heap.size (w.heap.size + 1) lo hi W' x ⟨(hW'.block _ (blk_lt h1)).trans h1, (hW'.block _ (blk_lt h2)).trans h2⟩) (hx.below hb0) hl
  have HC := Lib.hid hcl; have HB0 := Lib.hid hb0; have HW := Lib.hid hW
  clear hcl hb0 hx egk h1 h2 hW
  go_enter Try.func16, Try.ntmps16
  go_wp2_with fail
  rw [← HW.out]
  go_wp2_with (first | (go_at_call 35; refine HC.out.mono ?_; rintro e w1 ⟨A', c', rfl, ho, hb⟩) | fail)
  go_ret
  exact ⟨A', c', rfl, ho.lower HB0.out.size, HB0.out.trans (hb.mono HB0.out.size)⟩
theorem upto_any (A : Option Addr) (c : Nat) (l : List Pt) (seq : Int) (w : World) (hx : Rd w A (pcells l)) (hl : l.length ≤ 2000) :
    Calls Try.prog 18 #[.slice A l.length c, .int .u64 seq] w fun e w' => ∃ A' c', e = .returned (.slice A' (l.filter (uptoB seq)).length c') ∧ w'.ownsRow w.heap.size 25 3 (.slice A' (l.filter (uptoB seq)).length c') (l.filter (uptoB seq)).length (pcells (l.filter (uptoB seq))) ∧ RowKit.Below w.heap.size w w' := by
  have hmf : ∀ (fn : Fn) (first cap : Array Value) (w : World), (Instr.makeFunc fn first cap).run Try.prog w = .ok (.func fn first cap) w := fun _ _ _ _ => rfl
  obtain ⟨W, hW⟩ : ∃ W, W = w.alloc (.cells #[.int .u64 seq] 23) := ⟨_, rfl⟩
  have hb0 : RowKit.Below w.heap.size w W := by rw [hW]; exact (RowKit.Below.refl _ w).alloc (Nat.le_refl _) _
  have h1 : W.heap[w.heap.size]? = some (.cells #[.int .u64 seq] 23 (0, 0)) := by rw [hW]; exact heap_alloc_new w _
  have egk : ∀ args w, (callFunc 37 args).run Try.prog w = .ok (.enter 37 args) w := enters_of Try.func37 (by kernel_rfl) rfl
  have hcl := those_any A c l W 37 #[.pointer (some ⟨w.heap.size, 0, none⟩)] (uptoB seq) egk
    (fun W' x hW' => upto1_tells w.heap.size seq W' x ((hW'.block _ (blk_lt h1)).trans h1)) (hx.below hb0) hl
  have HC := Lib.hid hcl; have HB0 := Lib.hid hb0; have HW := Lib.hid hW
  clear hcl hb0 hx egk h1 hW
  go_enter Try.func18, Try.ntmps18
  go_wp2_with fail
  rw [← HW.out]
  go_wp2_with (first | (go_at_call 35; refine HC.out.mono ?_; rintro e w1 ⟨A', c', rfl, ho, hb⟩) | fail)
  go_ret
  exact ⟨A', c', rfl, ho.lower HB0.out.size, HB0.out.trans (hb.mono HB0.out.size)⟩
end
end Go.Proofs.Ytfohmepjedehfab
