/-
  The chapter's examples are as the document says.
-/
import Derived.Test.YtgibcfeioljofaaGreatDoorPs
import Derived.Test.YtgibcfeioljofaaGreatDoorCm
namespace Go.Proofs.YtgibcfeioljofaaGreatDoor
set_option linter.unusedVariables false
set_option linter.unusedSimpArgs false
open Go.RowKit
def lab0 : List Lb := [(⟨#[98]⟩, ⟨#[50]⟩), (⟨#[97]⟩, ⟨#[49]⟩), (⟨#[99]⟩, ⟨#[]⟩)]
def lab1 : List Lb := [(⟨#[97]⟩, ⟨#[49]⟩), (⟨#[98]⟩, ⟨#[50]⟩)]
def lab2 : List Lb := [(⟨#[98]⟩, ⟨#[120]⟩)]
theorem live1 : makeP lab0 = (0, lab1) := by decide +kernel
theorem live2 : parseP (bl ⟨#[123, 32, 98, 32, 61, 32, 34, 120, 34, 32, 44, 32, 125]⟩) = (0, lab2) := by decide +kernel
theorem live3 : printP lab1 = [123, 97, 61, 34, 49, 34, 44, 32, 98, 61, 34, 50, 34, 125] := by decide +kernel
theorem live4 : compareP lab1 lab2 = -1 := by decide +kernel
theorem few0 : Few lab0 := ⟨by decide, by decide +kernel⟩
theorem few1 : Few lab1 := ⟨by decide, by decide +kernel⟩
section
set_option maxHeartbeats 1600000
set_option maxRecDepth 100000
theorem live_make (w : World) (hT : Tabs w) : Calls Tryz.prog 27 #[.slice (some ⟨w.heap.size, 0, none⟩) 3 3] (w.alloc (.cells #[.string ⟨#[98]⟩, .string ⟨#[50]⟩, .string ⟨#[97]⟩, .string ⟨#[49]⟩, .string ⟨#[99]⟩, .string ⟨#[]⟩] 26)) fun e w' => ∃ A' c', e = .returned (.tuple #[.slice A' 2 c', .int .i64 0]) ∧ Rd w' A' (lcells lab1) ∧ Below w.heap.size w w' := by
  have hb : RowKit.Below w.heap.size w (w.alloc (.cells #[.string ⟨#[98]⟩, .string ⟨#[50]⟩, .string ⟨#[97]⟩, .string ⟨#[49]⟩, .string ⟨#[99]⟩, .string ⟨#[]⟩] 26)) := (RowKit.Below.refl _ w).alloc (Nat.le_refl _) _
  have hc := make_any (some ⟨w.heap.size, 0, none⟩) 3 lab0 (w.alloc (.cells (lcells lab0).toArray 26)) (hT.below hb) (rd_row' w (lcells lab0) 26) few0
  rw [live1] at hc
  refine (show Calls Tryz.prog 27 #[.slice (some ⟨w.heap.size, 0, none⟩) 3 3] (w.alloc (.cells #[.string ⟨#[98]⟩, .string ⟨#[50]⟩, .string ⟨#[97]⟩, .string ⟨#[49]⟩, .string ⟨#[99]⟩, .string ⟨#[]⟩] 26)) _ from hc).mono ?_
  rintro e w' ⟨A', c', he, ho, hb'⟩
  obtain ⟨A2, c2, e2, hr⟩ := own_rdL ho
  injection e2 with e3 _ _
  subst e3
  exact ⟨A', c', he, hr, hb.trans (hb'.mono hb.size)⟩
theorem live_parse (w : World) (hT : Tabs w) : Calls Tryz.prog 28 #[.string ⟨#[123, 32, 98, 32, 61, 32, 34, 120, 34, 32, 44, 32, 125]⟩] w fun e w' => ∃ A' c', e = .returned (.tuple #[.slice A' 1 c', .int .i64 0]) ∧ Rd w' A' (lcells lab2) ∧ Below w.heap.size w w' := by
  have hc := parse_any ⟨#[123, 32, 98, 32, 61, 32, 34, 120, 34, 32, 44, 32, 125]⟩ w hT (by decide)
  rw [live2] at hc
  refine hc.mono ?_
  rintro e w' ⟨A', c', he, ho, hb'⟩
  obtain ⟨A2, c2, e2, hr⟩ := own_rdL ho
  injection e2 with e3 _ _
  subst e3
  exact ⟨A', c', he, hr, hb'⟩
theorem live_print (A : Option Addr) (c : Nat) (w : World) (hx : Rd w A (lcells lab1)) : Calls Tryz.prog 29 #[.slice A 2 c] w fun e w' => e = .returned (.string ⟨#[123, 97, 61, 34, 49, 34, 44, 32, 98, 61, 34, 50, 34, 125]⟩) ∧ Below w.heap.size w w' := by
  have hc := print_any A c lab1 w hx few1
  rw [live3] at hc
  exact hc
theorem live_same (A : Option Addr) (c : Nat) (w : World) (hx : Rd w A (lcells lab2)) : Calls Tryz.prog 14 #[.slice A 1 c, .slice (some ⟨w.heap.size, 0, none⟩) 1 1] (w.alloc (.cells #[.string ⟨#[98]⟩, .string ⟨#[120]⟩] 26)) fun e w' => e = .returned (.bool true) ∧ Below w.heap.size w w' := by
  have hc := rsame_any A (some ⟨w.heap.size, 0, none⟩) c 1 lab2 lab2 (w.alloc (.cells (lcells lab2).toArray 26)) (hx.alloc _) (rd_row' w (lcells lab2) 26) (by decide) (by decide)
  rw [show decide (lab2 = lab2) = true from decide_eq_true rfl] at hc
  refine (show Calls Tryz.prog 14 #[.slice A 1 c, .slice (some ⟨w.heap.size, 0, none⟩) 1 1] (w.alloc (.cells #[.string ⟨#[98]⟩, .string ⟨#[120]⟩] 26)) _ from hc).mono ?_
  rintro e w' ⟨he, n, rfl⟩
  exact ⟨he, below_drewN ((RowKit.Below.refl _ w).alloc (Nat.le_refl _) _) n⟩
theorem live_cmp (A B : Option Addr) (c d : Nat) (w : World) (hx : Rd w A (lcells lab1)) (hy : Rd w B (lcells lab2)) : Calls Tryz.prog 30 #[.slice A 2 c, .slice B 1 d] w fun e w' => e = .returned (.int .i64 (-1)) ∧ Below w.heap.size w w' := by
  have hc := compare_any A B c d lab1 lab2 w hx hy (by decide) (by decide)
  rw [live4] at hc
  exact hc
theorem live_any (w : World) (hT : Tabs w) : Calls Tryz.prog 7 #[] w fun e w' => e = .returned (.bool true) ∧ Below w.heap.size w w' := by
  have h1 := live_make w hT
  have H1 := Lib.hid h1; clear h1
  have HT := Lib.hid hT; clear hT
  go_enter Tryz.func7, Tryz.ntmps7
  go_wp2_with fail
  refine H1.out.mono ?_
  rintro e w1 ⟨A1, c1, rfl, hr1, hb1⟩
  have h2 := live_parse w1 (HT.out.below hb1)
  have HR1 := Lib.hid hr1; clear hr1
  have HB1 := Lib.hid hb1; clear hb1
  have H2 := Lib.hid h2; clear h2 H1
  go_wp2_with fail
  refine H2.out.mono ?_
  rintro e w2 ⟨A2, c2, rfl, hr2, hb2⟩
  have hr1 := HR1.out.below hb2
  have HB2 := Lib.hid (HB1.out.trans (hb2.mono HB1.out.size)); clear hb2 H2 HB1
  have h3 := live_print A1 c1 w2 hr1
  have HR1' := Lib.hid hr1; clear hr1 HR1
  have HR2 := Lib.hid hr2; clear hr2
  have H3 := Lib.hid h3; clear h3
  go_wp2_with fail
  refine H3.out.mono ?_
  rintro e w3 ⟨rfl, hb3⟩
  have hr1 := HR1'.out.below hb3
  have hr2 := HR2.out.below hb3
  have HB3 := Lib.hid (HB2.out.trans (hb3.mono HB2.out.size)); clear hb3 H3 HB2 HR1' HR2
  have h4 := live_same A2 c2 w3 hr2
  have HR1 := Lib.hid hr1; clear hr1
  have HR2 := Lib.hid hr2; clear hr2
  have H4 := Lib.hid h4; clear h4
  go_wp2_with fail
  refine H4.out.mono ?_
  rintro e w4 ⟨rfl, hb4⟩
  have hr1 := HR1.out.below hb4
  have hr2 := HR2.out.below hb4
  have HB4 := Lib.hid (HB3.out.trans (hb4.mono HB3.out.size)); clear hb4 H4 HB3 HR1 HR2
  have h5 := live_cmp A1 A2 c1 c2 w4 hr1 hr2
  have H5 := Lib.hid h5; clear h5 hr1 hr2
  go_wp2_with fail
  refine H5.out.mono ?_
  rintro e w5 ⟨rfl, hb5⟩
  have HB5 := Lib.hid (HB4.out.trans (hb5.mono HB4.out.size)); clear hb5 H5 HB4
  go_wp2
  go_ret
  exact ⟨rfl, HB5.out⟩
end
end Go.Proofs.YtgibcfeioljofaaGreatDoor
