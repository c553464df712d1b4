/-
  A log in memory, and what is asked of it.
-/
import Derived.Deep.RegionHeld3
import Derived.Test.YtnmbjhpecblioaaGreatDoorWs0
import Derived.Test.YtnmbjhpecblioaaGreatDoorDp
import Derived.Test.YtnmbjhpecblioaaGreatDoorWp
namespace Go.Proofs.YtnmbjhpecblioaaGreatDoor
set_option linter.unusedVariables false
set_option linter.unusedSimpArgs false
open Go.Maps Go.RowKit
theorem undrewB {B : Nat} {w w' : World} {n : Nat} (h : Below B (w.drewN n) w') : Below B w w' := ⟨h.os, h.tape, h.output, h.size, h.block⟩
def logO (db seg cnt sure : Nat) : Obj := .cells #[.pointer (some ⟨db, 0, none⟩), .int .i64 (seg : Nat), .int .i64 (cnt : Nat), .int .i64 (sure : Nat)] 69 (0, 0)
def footW (lb db mb : Nat) (es : List Ent) (k : Nat) : Prop := k = lb ∨ foot db mb es k
/-- The tables lie below all that is changed. -/
def TabOn (w : World) (S : Nat → Prop) : Prop := ∃ W, TabW W ∧ Below W.heap.size W w ∧ ∀ k, S k → W.heap.size ≤ k
theorem TabOn.now {w : World} {S : Nat → Prop} (h : TabOn w S) : TabW w := by
  obtain ⟨W, h1, h2, _⟩ := h
  exact h1.below h2
theorem TabOn.mv {w w' : World} {S S' : Nat → Prop} (h : TabOn w S) (hm : Mv S w w') (hS : ∀ k, S' k → S k ∨ w.heap.size ≤ k) : TabOn w' S' := by
  obtain ⟨W, h1, h2, h3⟩ := h
  refine ⟨W, h1, h2.trans (hm.belowB h2.size fun k hk hs => by have := h3 k hs; omega), fun k hk => ?_⟩
  rcases hS k hk with hk | hk
  · exact h3 k hk
  · exact Nat.le_trans h2.size hk
theorem TabOn.below {w w' : World} {S : Nat → Prop} (h : TabOn w S) (hb : Below w.heap.size w w') : TabOn w' S := h.mv (Mv.of_below hb _) fun k hk => .inl hk
structure LogE (w : World) (lb db mb room : Nat) (es : List Ent) (seg cnt sure : Nat) : Prop where
  box : w.heap[lb]? = some (logO db seg cnt sure)
  disk : DiskE w db mb room es
  named : Named (es.map val)
  off : ¬ foot db mb es lb
  seg1 : 1 ≤ seg ∧ seg ≤ 99999999
  tab : TabOn w (footW lb db mb es)
section
variable {w w' : World} {lb db mb room : Nat} {es : List Ent} {seg cnt sure : Nat}
theorem LogE.lt (h : LogE w lb db mb room es seg cnt sure) {k : Nat} (hk : footW lb db mb es k) : k < w.heap.size := by
  rcases hk with rfl | hk
  · exact blk_lt h.box
  · exact h.disk.lt hk
theorem LogE.below (h : LogE w lb db mb room es seg cnt sure) (hb : Below w.heap.size w w') : LogE w' lb db mb room es seg cnt sure :=
  ⟨(hb.block _ (blk_lt h.box)).trans h.box, h.disk.below hb, h.named, h.off, h.seg1, h.tab.below hb⟩
theorem LogE.cells (h : LogE w lb db mb room es seg cnt sure) : w.cell? ⟨lb, 0, none⟩ = some (.pointer (some ⟨db, 0, none⟩)) ∧ w.cell? ⟨lb, 1, none⟩ = some (.int .i64 (seg : Nat)) ∧ w.cell? ⟨lb, 2, none⟩ = some (.int .i64 (cnt : Nat)) ∧ w.cell? ⟨lb, 3, none⟩ = some (.int .i64 (sure : Nat)) := by
  have c0 := cell_blk h.box 0; have c1 := cell_blk h.box 1; have c2 := cell_blk h.box 2; have c3 := cell_blk h.box 3
  simp only [List.getElem?_toArray, List.getElem?_cons_succ, List.getElem?_cons_zero] at c0 c1 c2 c3
  exact ⟨c0, c1, c2, c3⟩
theorem LogE.free (h : LogE w lb db mb room es seg cnt sure) : w.frozen? ⟨lb, 1, none⟩ = false ∧ w.frozen? ⟨lb, 2, none⟩ = false ∧ w.frozen? ⟨lb, 3, none⟩ = false := ⟨free_blk h.box 1, free_blk h.box 2, free_blk h.box 3⟩
end
section
set_option maxHeartbeats 1600000
set_option maxRecDepth 100000
variable {w : World} {lb db mb room : Nat} {es : List Ent} {seg cnt sure : Nat}
theorem wmade_any (h : LogE w lb db mb room es seg cnt sure) : Calls Tryz.prog 61 #[.pointer (some ⟨lb, 0, none⟩)] w fun e w' => e = .returned (.bool true) ∧ w = w' := by
  obtain ⟨c0, c1, c2, c3⟩ := h.cells
  clear h
  go_enter Tryz.func61, Tryz.ntmps61
  go_wp2
  go_ret
  exact ⟨rfl, rfl⟩
theorem wmade_nil (w : World) : Calls Tryz.prog 61 #[.pointer none] w fun e w' => e = .returned (.bool false) ∧ w = w' := by
  go_enter Tryz.func61, Tryz.ntmps61
  go_wp2
  go_ret
  exact ⟨rfl, rfl⟩
theorem wmade_zero {p : Nat} (hc : w.cell? ⟨p, 0, none⟩ = some (.pointer none)) : Calls Tryz.prog 61 #[.pointer (some ⟨p, 0, none⟩)] w fun e w' => e = .returned (.bool false) ∧ w = w' := by
  go_enter Tryz.func61, Tryz.ntmps61
  go_wp2
  go_ret
  exact ⟨rfl, rfl⟩
/-- What Read of a segment tells of its bytes' number. -/
theorem read_len (h : DiskE w db mb room es) (s : ByteArray) (hs : s.size ≤ maxLen) : Calls Tryz.prog 36 #[.pointer (some ⟨db, 0, none⟩), .string s] w fun e w' => (∃ A c code, e = .returned (.tuple #[.slice A (match lookL (es.map val) s with | none => 0 | some f => f.2.1.length) c, .int .i64 code])) ∧ Below w.heap.size w w' := by
  rw [look_val]
  refine (dread_any h s hs).mono ?_
  intro e w' hR
  unfold ReadOut at hR
  cases ho : lookE es s with
  | none => rw [ho] at hR; obtain ⟨rfl, rfl⟩ := hR; exact ⟨⟨_, _, _, rfl⟩, Below.refl _ _⟩
  | some x => rw [ho] at hR; obtain ⟨A, c, rfl, -, hb⟩ := hR; exact ⟨⟨_, _, _, rfl⟩, hb⟩
theorem title_le (n : Int) : (titleN n).size ≤ 12 := by
  by_cases h : n < 1 ∨ 99999999 < n
  · unfold titleN; rw [if_pos h]; decide
  · obtain ⟨m, rfl⟩ := Int.eq_ofNat_of_zero_le (show 0 ≤ n by omega)
    exact Nat.le_of_eq (title_size12 ⟨by omega, by omega⟩)
theorem has_any (h : LogE w lb db mb room es seg cnt sure) (n : Nat) (hn : n ≤ 9223372036854775807) : Calls Tryz.prog 64 #[.pointer (some ⟨lb, 0, none⟩), .int .i64 (n : Nat)] w fun e w' => e = .returned (.int .i64 (lenW (es.map val) n : Nat)) ∧ Below w.heap.size w w' := by
  have HS := Lib.hid (fun (W' : World) (hb : Below w.heap.size w W') => (h.below hb).cells.1)
  have HT := Lib.hid (fun (W' : World) (hb : Below w.heap.size w W') => title_any (n : Int) (by omega) (by omega) W' (h.below hb).tab.now)
  have HR := Lib.hid (fun (W' : World) (hb : Below w.heap.size w W') => read_len (h.disk.below hb) (titleN n) (by have := title_le n; unfold maxLen; omega))
  obtain ⟨c0, c1, c2, c3⟩ := h.cells
  have HBc := Lib.hid (Below.refl w.heap.size w)
  clear h
  obtain ⟨M, hM⟩ : ∃ M, M = (match lookL (es.map val) (titleN n) with | none => 0 | some f => f.2.1.length) := ⟨_, rfl⟩
  rw [← hM] at HR
  rw [show lenW (es.map val) n = M from hM.symm]
  clear hM
  go_enter Tryz.func64, Tryz.ntmps64
  go_wp2_with fail
  go_region_held3 (fun W' => W'.cell? ⟨lb, 0, none⟩ = some (.pointer (some ⟨db, 0, none⟩))) (first | exact HS.out _ HBc.out | exact HS.out _ (below_drewN HBc.out _)) (first
    | (go_at_call 12; go_must (refine (HT.out _ (by first | exact HBc.out | exact below_drewN HBc.out _)).mono ?_; rintro e wq ⟨rfl, hbq⟩; (try (have hq1 := undrewB hbq; clear hbq; have hbq := hq1; clear hq1)); have hq1 := HBc.out.trans (hbq.mono HBc.out.size); have HBc := Lib.hid hq1; clear hq1 hbq))
    | (go_at_call 36; go_must (refine (HR.out _ (by first | exact HBc.out | exact below_drewN HBc.out _)).mono ?_; rintro e wq ⟨⟨A, c, code, rfl⟩, hbq⟩; (try (have hq1 := undrewB hbq; clear hbq; have hbq := hq1; clear hq1)); have hq1 := HBc.out.trans (hbq.mono HBc.out.size); have HBc := Lib.hid hq1; clear hq1 hbq))
    | fail)
  all_goals
    go_wp2
    go_ret
    first | exact ⟨rfl, HBc.out⟩ | exact ⟨rfl, below_drewN HBc.out _⟩
theorem wsegs_any (h : LogE w lb db mb room es seg cnt sure) : Calls Tryz.prog 22 #[.pointer (some ⟨lb, 0, none⟩)] w fun e w' => ∃ A c, e = .returned (.slice A (segsW (es.map val)).length c) ∧ (segsW (es.map val)).length ≤ c ∧ c ≤ maxLen ∧ Rd w' A ((segsW (es.map val)).map Ni) ∧ Below w.heap.size w w' ∧ ∀ g, A.map (·.block) = some g → w.heap.size ≤ g ∧ g < w'.heap.size := by
  have HM := Lib.hid (wmade_any h)
  have HS := Lib.hid (segments_any h.disk h.tab.now h.named)
  obtain ⟨c0, c1, c2, c3⟩ := h.cells
  clear h
  go_enter Tryz.func22, Tryz.ntmps22
  go_wp2_with fail
  with_reducible refine HM.out.mono ?_
  rintro e w1 ⟨rfl, rfl⟩
  go_wp2_with fail
  with_reducible refine HS.out.mono ?_
  rintro e w1 ⟨A, c, rfl, h1, h2, h3, h4⟩
  have H := Lib.hid (And.intro h1 (And.intro h2 (And.intro h3 h4)))
  clear h1 h2 h3 h4
  go_wp2
  go_ret
  exact ⟨A, c, rfl, H.out⟩
end
end Go.Proofs.YtnmbjhpecblioaaGreatDoor
