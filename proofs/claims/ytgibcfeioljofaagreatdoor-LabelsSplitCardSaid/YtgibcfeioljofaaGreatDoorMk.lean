/-
  Make, and what is wrong with a label: the program's own.
-/
import Derived.Test.YtgibcfeioljofaaGreatDoorSo
import Derived.Test.YtgibcfeioljofaaGreatDoorDf
import Derived.Test.YtgibcfeioljofaaGreatDoorNa
import Derived.Test.YtgibcfeioljofaaGreatDoorPr
import Derived.Test.YtgibcfeioljofaaGreatDoorShelf3
namespace Go.Proofs.YtgibcfeioljofaaGreatDoor
set_option linter.unusedVariables false
set_option linter.unusedSimpArgs false
open Go.RowKit
/-- The library's two tables by which it tells valid UTF-8. -/
def Tabs (w : World) : Prop := Lib.Utf8Tabs 1 2 w
theorem Tabs.below {w w' : World} (h : Tabs w) (hb : RowKit.Below w.heap.size w w') : Tabs w' := Utf8Tabs_below h hb
section
set_option maxHeartbeats 1600000
set_option maxRecDepth 100000
theorem valued_any (s : ByteArray) (w : World) (hT : Tabs w) (hl : s.size ≤ 1000000) : Calls Tryz.prog 81 #[.string s] w fun e w' => e = .returned (.bool (valuedP (bl s))) ∧ Below w.heap.size w w' := by
  have hc := Any.utf8_ValidString Tryz.validL s w (by omega) hT
  have hc2 : Calls Tryz.prog 104 #[.string s] w fun e w' => e = .returned (.bool (Lib.validD (bl s))) ∧ Below w.heap.size w w' := hc
  unfold valuedP
  rw [bl_len]
  generalize Lib.validD (bl s) = V at hc2 ⊢
  have HC := Lib.hid hc2; clear hc hc2 hT
  by_cases h : s.size ≤ 128
  · have hz : (s.size : Int) ≤ 128 := by omega
    rw [decide_eq_true h, Bool.true_and]
    go_enter Tryz.func81, Tryz.ntmps81
    go_wp2_with (first | (go_at_call 104; refine HC.out.mono ?_; rintro e w1 ⟨rfl, hb⟩) | fail)
    go_ret
    exact ⟨rfl, hb⟩
  · have hz : ¬ (s.size : Int) ≤ 128 := by omega
    rw [decide_eq_false h, Bool.false_and]
    go_enter Tryz.func81, Tryz.ntmps81
    go_wp2
    go_ret
    exact ⟨rfl, Below.refl _ _⟩
theorem fault_any (x : Lb) (w : World) (hT : Tabs w) (h1 : x.1.size ≤ 1000000) (h2 : x.2.size ≤ 1000000) : Calls Tryz.prog 49 #[.agg #[.string x.1, .string x.2]] w fun e w' => e = .returned (.int .i64 (faultP x : Nat)) ∧ Below w.heap.size w w' := by
  obtain ⟨x1, x2⟩ := x
  simp only at h1 h2
  have hn := named_any x1 (w.alloc (.cells #[.string x1, .string x2] 26))
  have hv := fun W h => valued_any x2 W h h2
  have hbw : RowKit.Below w.heap.size w (w.alloc (.cells #[.string x1, .string x2] 26)) := (RowKit.Below.refl _ w).alloc (Nat.le_refl _) _
  unfold faultP
  simp only
  generalize namedP (bl x1) = N at hn ⊢
  generalize valuedP (bl x2) = V at hv ⊢
  have HN := Lib.hid hn; clear hn
  have HV := Lib.hid hv; clear hv
  have HT := Lib.hid hT; clear hT
  have HBW := Lib.hid hbw; clear hbw
  cases N with
  | false =>
    go_enter Tryz.func49, Tryz.ntmps49
    go_wp2_with fail
    refine HN.out.mono ?_
    rintro e w1 ⟨rfl, hb⟩
    have HB := Lib.hid hb; clear hb
    go_wp2
    go_ret
    exact ⟨rfl, HBW.out.trans (HB.out.mono HBW.out.size)⟩
  | true =>
    go_enter Tryz.func49, Tryz.ntmps49
    go_wp2_with fail
    refine HN.out.mono ?_
    rintro e w1 ⟨rfl, hb⟩
    have hbx := (hb.block w.heap.size (by simp)).trans (heap_alloc_new w _)
    have c1 := cell_blk hbx 1
    simp only [List.getElem?_toArray, List.getElem?_cons_zero, List.getElem?_cons_succ] at c1
    have HB := Lib.hid (HBW.out.trans (hb.mono HBW.out.size)); clear hb hbx
    have hv := HV.out w1 (HT.out.below HB.out)
    have HV1 := Lib.hid hv; clear hv
    cases V with
    | false =>
      go_wp2_with fail
      refine HV1.out.mono ?_
      rintro e w2 ⟨rfl, hb⟩
      have HB2 := Lib.hid hb; clear hb
      go_wp2
      go_ret
      exact ⟨rfl, HB.out.trans (HB2.out.mono HB.out.size)⟩
    | true =>
      go_wp2_with fail
      refine HV1.out.mono ?_
      rintro e w2 ⟨rfl, hb⟩
      have HB2 := Lib.hid hb; clear hb
      go_wp2
      go_ret
      exact ⟨rfl, HB.out.trans (HB2.out.mono HB.out.size)⟩
theorem empty_tells : Tells 54 #[] (fun x => x.2.size == 0) (fun _ => True) := by
  intro W x _
  obtain ⟨x1, x2⟩ := x
  simp only
  have hbw : RowKit.Below W.heap.size W (W.alloc (.cells #[.string x1, .string x2] 26)) := (RowKit.Below.refl _ W).alloc (Nat.le_refl _) _
  have HBW := Lib.hid hbw; clear hbw
  by_cases hz : x2.size = 0
  · obtain rfl := size_zero hz
    clear hz
    go_enter Tryz.func54, Tryz.ntmps54
    go_wp2
    go_ret
    exact ⟨rfl, HBW.out⟩
  · obtain ⟨e1, e2⟩ := ne_empty hz
    have : (x2.size == 0) = false := by simpa using hz
    rw [this]
    go_enter Tryz.func54, Tryz.ntmps54
    go_wp2
    go_ret
    exact ⟨rfl, HBW.out⟩
theorem run_copy_lb (w : World) (g c1 c2 : Nat) (A : Option Addr) (l : List Lb) (cur : Array Value) (hg : w.heap[g]? = some (.cells cur 26 (0, 0))) (hc : cur.size = l.length * 2) (hx : Rd w A (lcells l)) (ty : TypeId) :
    (Builtin.copy_ #[23, 23] ty #[.slice (some ⟨g, 0, none⟩) l.length c1, .slice A l.length c2]).run Tryz.prog w = .ok (goInt l.length) (w.setRow g (lcells l).toArray) := by
  obtain ⟨i, hi, _, hs, _⟩ := info_parts infoLb
  cases A with
  | none =>
    obtain rfl := lb_nil hx
    have hcur : cur = #[] := by simpa using hc
    subst hcur
    have hself := setRow_self w g #[] _ _ hg
    simp [Builtin.copy_, run_underlying Tryz.underlying23, Builtin.lenOf, Builtin.firstCells, sizeOf, typeInfo, hi, hs, storeCells, lcells, hself]
  | some a =>
    have hf := run_firstCells_some (P := Tryz.prog) w 2 l.length a l.length c2 (lcells l) (lcells_len l) (rd_cells hx)
    have hst := run_storeCells_at Tryz.prog g 0 26 (lcells l) 0 cur w hg (by rw [lcells_len]; omega) (lcells_one' l)
    simp only [Nat.add_zero, Nat.zero_add, List.take_zero, List.nil_append] at hst
    rw [List.drop_eq_nil_of_le (by rw [lcells_len, Array.length_toList]; omega), List.append_nil] at hst
    simp [Builtin.copy_, run_underlying Tryz.underlying23, Builtin.lenOf, sizeOf, typeInfo, hi, hs, hf, hst]
end
end Go.Proofs.YtgibcfeioljofaaGreatDoor
