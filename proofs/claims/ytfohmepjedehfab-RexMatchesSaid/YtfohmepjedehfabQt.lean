/-
  A group; all groups, as deep as they may be.
-/
import Derived.Test.YtfohmepjedehfabQv
namespace Go.Proofs.Ytfohmepjedehfab
set_option linter.unusedVariables false
set_option linter.unusedSimpArgs false
open Go.RowKit
section
set_option maxHeartbeats 1600000
set_option maxRecDepth 100000
theorem group_deep (p : Nat) (l : List Pc) (v : Value) (us : List Value) (L : List Atm) (w : World) (h : PIs w p l v us L) :
    Calls Try.prog 102 #[.pointer (some ⟨p, 0, none⟩), .int .i64 20] w (OutP p v L w (grpP 0 l)) := by
  obtain ⟨W, hW⟩ : ∃ W, W = w.alloc (.cells #[.int .u64 0, .int .u64 0, .int .u64 0, .int .u64 0, .int .u64 0, .int .u64 0, .int .u64 0, .int .u64 0, .bool false] 85) := ⟨_, rfl⟩
  have hz : Zs w W := by rw [hW]; exact Zs.mk' w
  have h1 := hz.pis h
  have HW := Lib.hid hW; have HZ := Lib.hid hz; have H := Lib.hid h
  clear hW hz
  have hr := refuse_any p l v us L 60 W h1
  have hR : grpP 0 l = .error (atP l, 60) := rfl
  rw [hR]
  generalize atP l = x at hr ⊢
  have HRF := Lib.hid hr; clear hr h hR h1
  go_enter Try.func102, Try.ntmps102
  go_wp2_with fail
  rw [← HW.out]
  refine HRF.out.mono ?_
  rintro e w1 ⟨rfl, rfl⟩
  go_wp2
  exact ⟨rfl, rfl, HZ.out.err (Mv.refl _ _)⟩
theorem group_in (d n : Nat) (hn : n < 20) (hG : GC (grpP d) (n + 1)) (p : Nat) (l : List Pc) (v : Value) (us : List Value) (L : List Atm) (w : World) (h : PIs w p l v us L) (h40 : nowP l = 40) :
    Calls Try.prog 102 #[.pointer (some ⟨p, 0, none⟩), .int .i64 (n : Nat)] w (OutP p v L w (grpP (d + 1) l)) := by
  obtain ⟨R, hR⟩ : ∃ R, R = grpP (d + 1) l := ⟨_, rfl⟩
  rw [← hR]
  unfold grpP at hR
  have hn1 : nowP l ≠ -1 := by rw [h40]; decide
  obtain ⟨W, hW⟩ : ∃ W, W = w.alloc (.cells #[.int .u64 0, .int .u64 0, .int .u64 0, .int .u64 0, .int .u64 0, .int .u64 0, .int .u64 0, .int .u64 0, .bool false] 85) := ⟨_, rfl⟩
  have hz : Zs w W := by rw [hW]; exact Zs.mk' w
  have h1 := hz.pis h
  have HW := Lib.hid hW; have HZ := Lib.hid hz; have H := Lib.hid h
  clear hW hz
  have HP := Lib.hid (pass_any p l v us L W h1 hn1)
  have HT := Lib.hid (fun W' (k : PIs W' p l.tail v us L) => pattern_any (grpP d) (n + 1) hG p l.tail v us L W' k)
  clear h h40 hn1 hG h1
  generalize patP (grpP d) l.tail = R1 at hR HT
  have HRR := Lib.hid hR; clear hR
  have n20 : ((n : Int) == 20) = false := by rw [beq_eq_false_iff_ne]; omega
  have n21 : IntKind.i64.wrap ((n : Int) + 1) = ((n + 1 : Nat) : Int) := by simp [IntKind.wrap, IntKind.bits, IntKind.signed]; omega
  have n22 : (n : Int) + 1 = ((n + 1 : Nat) : Int) := by omega
  go_enter Try.func102, Try.ntmps102
  go_wp2_with fail
  rw [← HW.out]
  go_wp2_with fail
  refine HP.out.mono ?_
  rintro e w1 ⟨rfl, h1, hm1⟩
  have H1 := Lib.hid h1; have HM1 := Lib.hid hm1; clear h1 hm1
  have HTT := Lib.hid (HT.out _ H1.out)
  clear n22
  go_wp2_with fail
  refine HTT.out.mono ?_
  intro e w2 ho
  clear HTT HT
  cases R1 with
  | error f =>
    have hR := HRR.out
    simp only at hR
    have HR := Lib.hid hR; clear hR HRR
    obtain ⟨rfl, hm2⟩ := ho
    have HM2 := Lib.hid hm2; clear hm2
    unfold flE
    go_wp2
    rw [HR.out]
    exact ⟨rfl, rfl, HZ.out.err ((Mvd.box HM1.out).err HM2.out)⟩
  | ok x =>
    obtain ⟨t, l1⟩ := x
    have hR := HRR.out
    simp only at hR
    clear HRR
    obtain ⟨v', us', rfl, h2, hm2⟩ := ho
    obtain ⟨X2, hX⟩ : ∃ X2, compP t L = X2 := ⟨_, rfl⟩
    have hm2' := (Mvd.box HM1.out).trans hm2
    rw [hX] at h2 ⊢
    obtain ⟨⟨f, la, em⟩, L1⟩ := X2
    replace h2 : PIs w2 p l1 v' us' L1 := h2
    simp only [partV, partC]
    have HX := Lib.hid hX
    obtain ⟨w3, hw3⟩ : ∃ w3, w3 = w2.alloc (.cells #[.int .u64 (wd f 0 : Nat), .int .u64 (wd f 1 : Nat), .int .u64 (wd f 2 : Nat), .int .u64 (wd f 3 : Nat), .int .u64 (wd la 0 : Nat), .int .u64 (wd la 1 : Nat), .int .u64 (wd la 2 : Nat), .int .u64 (wd la 3 : Nat), .bool em] 85) := ⟨_, rfl⟩
    obtain ⟨gg, hgg⟩ : ∃ gg, gg = w2.heap.size := ⟨_, rfl⟩
    have hbl : RowKit.Below w2.heap.size w2 w3 := by rw [hw3]; exact (RowKit.Below.refl _ _).alloc (Nat.le_refl _) _
    have h3 := h2.below hbl
    have HM3 := Lib.hid (hm2'.trans (Mvd.of_below hbl))
    have hbe : w3.heap[gg]? = some (.cells (partL ⟨f, la, em⟩).toArray 85 (0, 0)) := by rw [hw3, hgg]; exact heap_alloc_new _ _
    have HBE := Lib.hid hbe
    have HPG := Lib.hid (show p < gg by rw [hgg]; exact h2.lt)
    have hN := now_any p l1 v' us' L1 w3 h3
    have HW3 := Lib.hid hw3; have HGE := Lib.hid hgg
    have H3 := Lib.hid h3
    clear h2 hm2 hm2' hbl hbe hw3 hgg hX h3 HM1
    by_cases h41 : nowP l1 = 41
    · rw [if_pos h41] at hR
      have HR := Lib.hid hR
      have hn2 : nowP l1 ≠ -1 := by rw [h41]; decide
      have HPP := Lib.hid (pass_any p l1 v' us' L1 w3 H3.out hn2)
      have HYY := Lib.hid (fun W => must_yes p W)
      rw [h41] at hN
      have HN := Lib.hid hN; clear hR hN hn2 h41
      go_wp2_with fail
      rw [← HW3.out, ← HGE.out]
      refine HN.out.mono ?_
      rintro e w4 ⟨rfl, rfl⟩
      go_wp2_with fail
      refine (HYY.out _).mono ?_
      rintro e w5 ⟨rfl, rfl⟩
      go_wp2_with fail
      refine HPP.out.mono ?_
      rintro e w6 ⟨rfl, h6, hm6⟩
      have HB6 := Lib.hid (pass_keep HBE.out HPG.out hm6)
      have HM6 := Lib.hid (HM3.out.trans (Mvd.box hm6))
      have H6 := Lib.hid h6
      clear h6 hm6
      go_wp2_with (first
        | (refine wpList_load_agg (o := ⟨some 23, _, _, _, _, _⟩) ?_ 85 (.tmp 5) ?_ (gg) 0 ?_ (partL ⟨f, la, em⟩) ?_ ?_ ?_ ?_; rfl; rfl; rfl; kernel_rfl; kernel_rfl; exact part_cells HB6.out)
        | (refine wpList_store_agg (o := ⟨none, _, _, _, _, _⟩) ?_ 85 (.tmp 4) (.tmp 23) ?_ (w.heap.size) 0 (partL ⟨f, la, em⟩) ?_ ?_ 85 zP (HZ.out.at' H.out HM6.out.mv) ?_ ?_ ?_ ?_; rfl; rfl; rfl; rfl; kernel_rfl; (show 0 + 9 ≤ 9; decide); exact partL_one _; intro w9 hw9 hm9 hs9; rw [spl9 _ rfl] at hw9)
        | fail)
      refine bodyPost_cell rfl (w.heap.size) 85 (partL ⟨f, la, em⟩).toArray rfl hw9 (by kernel_rfl) (by kernel_rfl) rfl ?_
      rw [HR.out]
      exact HZ.out.fin' H.out HX.out H6.out HM6.out hm9
    · rw [if_neg h41] at hR
      have HR := Lib.hid hR
      have g41 : (nowP l1 == 41) = false := by rw [beq_eq_false_iff_ne]; exact h41
      have HNO := Lib.hid (must_no p l1 v' us' L1 w3 H3.out)
      generalize nowP l1 = c at g41 hN
      generalize atP l1 = a at HNO HR
      have HN := Lib.hid hN; clear hR hN h41
      go_wp2_with fail
      rw [← HW3.out, ← HGE.out]
      refine HN.out.mono ?_
      rintro e w4 ⟨rfl, rfl⟩
      go_wp2_with fail
      refine HNO.out.mono ?_
      rintro e w5 ⟨rfl, rfl⟩
      go_wp2
      rw [HR.out]
      exact ⟨rfl, rfl, HZ.out.err HM3.out.mv⟩
theorem group_any : ∀ (d n : Nat), n + d = 20 → GC (grpP d) n
  | 0, n, e => by
    obtain rfl : n = 20 := by omega
    exact ⟨grpP_ok 0, fun p l v us L w h h40 => group_deep p l v us L w h⟩
  | d + 1, n, e => ⟨grpP_ok _, fun p l v us L w h h40 => group_in d n (by omega) (group_any d (n + 1) (by omega)) p l v us L w h h40⟩
theorem whole_any (p : Nat) (l : List Pc) (v : Value) (us : List Value) (L : List Atm) (w : World) (h : PIs w p l v us L) :
    Calls Try.prog 59 #[.pointer (some ⟨p, 0, none⟩), .int .i64 0] w (OutP p v L w (patP (grpP 20) l)) := pattern_any (grpP 20) 0 (group_any 20 0 rfl) p l v us L w h
end
end Go.Proofs.Ytfohmepjedehfab
