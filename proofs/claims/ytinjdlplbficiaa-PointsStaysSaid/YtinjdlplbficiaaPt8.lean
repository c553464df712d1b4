/-
  The chapter's examples.
-/
import Derived.Test.YtinjdlplbficiaaPt5
import Derived.Test.YtinjdlplbficiaaPt7
namespace Go.Proofs.Ytinjdlplbficiaa
set_option linter.unusedVariables false
set_option linter.unusedSimpArgs false
open Go.RowKit
theorem ex_one : putP [(5, 7, 1)] (5, 3, 2) = ([(5, 7, 1)], 4, 0) := by
  simp [putP, rightB, chainB, isAt, findP, mergeL, cntP, aheadB, codeP]
theorem ex_two : putP [(5, 7, 2)] (5, 3, 1) = ([(5, 3, 1)], 3, 0) := by
  simp [putP, rightB, chainB, isAt, findP, mergeL, cntP, aheadB, codeP]
theorem ex_three : [((3, 0, 1) : Pt), (5, 0, 1), (8, 0, 1)].filter (nearB 8 3) = [(8, 0, 1)] := by decide +kernel
section
set_option maxHeartbeats 1600000
set_option maxRecDepth 100000
theorem live_any (w : World) : Calls Try.prog 9 #[] w fun e w' => e = .returned (.bool true) ∧ RowKit.Below w.heap.size w w' := by
  obtain ⟨W1, hW1⟩ : ∃ W, W = w.alloc (.cells #[.int .i64 5, .int .u64 7, .int .u64 1] 25) := ⟨_, rfl⟩
  have hb1 : RowKit.Below w.heap.size w W1 := by rw [hW1]; exact (RowKit.Below.refl _ w).alloc (Nat.le_refl _) _
  have hp1 := put_any (some ⟨w.heap.size, 0, none⟩) 1 [(5, 7, 1)] (5, 3, 2) W1 (by rw [hW1]; exact rd_row w [.int .i64 5, .int .u64 7, .int .u64 1] 25) (by simp) (by simp)
  rw [ex_one] at hp1
  have HP1 := Lib.hid hp1; have HW1 := Lib.hid hW1; have HB1 := Lib.hid hb1
  have HPU := Lib.hid (fun (w : World) => put_any (some ⟨w.heap.size, 0, none⟩) 1 [(5, 7, 2)] (5, 3, 1) (w.alloc (.cells #[.int .i64 5, .int .u64 7, .int .u64 2] 25)) (rd_row w [.int .i64 5, .int .u64 7, .int .u64 2] 25) (by simp) (by simp))
  rw [ex_two] at HPU
  have HWI := Lib.hid (fun (w : World) => win_any (some ⟨w.heap.size, 0, none⟩) 3 [(3, 0, 1), (5, 0, 1), (8, 0, 1)] 8 3 (w.alloc (.cells #[.int .i64 3, .int .u64 0, .int .u64 1, .int .i64 5, .int .u64 0, .int .u64 1, .int .i64 8, .int .u64 0, .int .u64 1] 25)) (rd_row w [.int .i64 3, .int .u64 0, .int .u64 1, .int .i64 5, .int .u64 0, .int .u64 1, .int .i64 8, .int .u64 0, .int .u64 1] 25) (by simp))
  rw [ex_three] at HWI
  clear hp1 hW1 hb1
  go_enter Try.func9, Try.ntmps9
  go_wp2_with fail
  rw [← HW1.out]
  go_wp2_with fail
  refine HP1.out.mono ?_
  rintro e w1 ⟨A1, c1, rfl, ho1, hm1⟩
  have HO1 := Lib.hid ho1; have HM1 := Lib.hid (HB1.out.trans (hm1.mono HB1.out.size)); clear ho1 hm1
  go_wp2_with fail
  refine (HPU.out w1).mono ?_
  rintro e w2 ⟨A2, c2, rfl, ho2, hm2⟩
  have hal := (RowKit.Below.refl w1.heap.size w1).alloc (Nat.le_refl _) (.cells #[.int .i64 5, .int .u64 7, .int .u64 2] 25)
  have hm2' := hal.trans (hm2.mono hal.size)
  have HO2 := Lib.hid ho2; have HM2 := Lib.hid hm2'; clear ho2 hm2 hal hm2'
  go_wp2_with fail
  refine (HWI.out w2).mono ?_
  rintro e w3 ⟨A3, c3, rfl, ho3, hm3⟩
  have hal := (RowKit.Below.refl w2.heap.size w2).alloc (Nat.le_refl _) (.cells #[.int .i64 3, .int .u64 0, .int .u64 1, .int .i64 5, .int .u64 0, .int .u64 1, .int .i64 8, .int .u64 0, .int .u64 1] 25)
  have hm3' := hal.trans (hm3.mono hal.size)
  obtain ⟨X1, k1, e1, r1, -, -⟩ := own_rd_pt (own_below_pt (own_below_pt HO1.out HM2.out) hm3')
  obtain ⟨X2, k2, e2, r2, -, -⟩ := own_rd_pt (own_below_pt HO2.out hm3')
  obtain ⟨X3, k3, e3, r3, -, -⟩ := own_rd_pt ho3
  injection e1 with e1 _ _; injection e2 with e2 _ _; injection e3 with e3 _ _
  subst e1; subst e2; subst e3
  obtain ⟨b1, o1, rfl, f0, f1, f2⟩ := pt_at' r1 (k := 0) rfl
  obtain ⟨b2, o2, rfl, g0, g1, g2⟩ := pt_at' r2 (k := 0) rfl
  obtain ⟨b3, o3, rfl, h0, h1, h2⟩ := pt_at' r3 (k := 0) rfl
  simp only [Nat.zero_mul, Nat.add_zero] at f0 f1 f2 g0 g1 g2 h0 h1 h2
  have HB := Lib.hid (HM1.out.trans ((HM2.out.trans (hm3'.mono HM2.out.size)).mono HM1.out.size))
  clear r1 r2 r3 ho3 hm3 hm3' hal
  go_wp2
  go_ret
  exact ⟨rfl, HB.out⟩
end
end Go.Proofs.Ytinjdlplbficiaa
