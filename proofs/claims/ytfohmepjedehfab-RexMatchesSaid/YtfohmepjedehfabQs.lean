/-
  A piece: an atom, and how often it may come.
-/
import Derived.Test.YtfohmepjedehfabQo
import Derived.Test.YtfohmepjedehfabQq
namespace Go.Proofs.Ytfohmepjedehfab
set_option linter.unusedVariables false
set_option linter.unusedSimpArgs false
open Go.RowKit
theorem Zs.fin' {w W w2 w3 : World} (hz : Zs w W) {p : Nat} {l l' : List Pc} {v v' : Value} {us us' : List Value} {L L2 : List Atm} {t : Re} {X : Prt} (h : PIs w p l v us L) (hc : compP t L = (X, L2)) (h2 : PIs w2 p l' v' us' L2) (m2 : Mvd p v v' W w2) (m3 : Mv (fun k => k = w.heap.size) w2 w3) :
    OutP p v L w (.ok (t, l')) (.returned (.agg (partL X).toArray)) w3 := by
  have := hz.fin (t := t) h (by rw [hc]; exact h2) m2 m3
  rwa [hc] at this
section
set_option maxHeartbeats 1600000
set_option maxRecDepth 100000
theorem follow_keep {p : Nat} {l : List Pc} {v : Value} {us : List Value} {L : List Atm} {w w' : World} {g : Nat} {cs : Array Value} {t : TypeId} (h : PIs w p l v us L) (hg : w.heap[g]? = some (.cells cs t (0, 0))) (ht : 124 ≠ t) (m : Mv (fun k => v.ownBlock = some k) w w') : w'.heap[g]? = some (.cells cs t (0, 0)) :=
  (m.block _ (blk_lt hg) (own_blk h.at'.row hg ht)).trans hg
theorem pass_keep {p : Nat} {w w' : World} {g : Nat} {o : Obj} (hg : w.heap[g]? = some o) (hp : p < g) (m : Mv (fun k => k = p) w w') : w'.heap[g]? = some o :=
  (m.block _ (blk_lt hg) (by omega)).trans hg
/-- A box of a part's own turns. -/
theorem Mvd.part {p : Nat} {v v' : Value} {W w w' : World} {g : Nat} (h : Mvd p v v' W w) (hg : W.heap.size ≤ g) (m : Mv (fun k => k = g) w w') : Mvd p v v' W w' :=
  ⟨h.mv.trans m fun i hi e => by omega, h.own⟩
theorem piece_any (grp : List Pc → Rs Re) (n : Nat) (hG : GC grp n) (p : Nat) (l : List Pc) (v : Value) (us : List Value) (L : List Atm) (w : World) (h : PIs w p l v us L) :
    Calls Try.prog 90 #[.pointer (some ⟨p, 0, none⟩), .int .i64 (n : Nat)] w (OutP p v L w (pieceP grp l)) := by
  obtain ⟨R, hR⟩ : ∃ R, R = pieceP grp l := ⟨_, rfl⟩
  rw [← hR]
  unfold pieceP at hR
  obtain ⟨W, hW⟩ : ∃ W, W = w.alloc (.cells #[.int .u64 0, .int .u64 0, .int .u64 0, .int .u64 0, .int .u64 0, .int .u64 0, .int .u64 0, .int .u64 0, .bool false] 85) := ⟨_, rfl⟩
  have hz : Zs w W := by rw [hW]; exact Zs.mk' w
  have h1 := hz.pis h
  have HW := Lib.hid hW; have HZ := Lib.hid hz; have H := Lib.hid h
  clear hW hz
  have ha := atom_any grp n hG p l v us L W h1
  clear h1 h
  generalize atomP grp l = R1 at hR ha
  have HA := Lib.hid ha; clear ha
  cases R1 with
  | error f =>
    have HR := Lib.hid hR; clear hR
    go_enter Try.func90, Try.ntmps90
    go_wp2_with fail
    rw [← HW.out]
    go_wp2_with fail
    refine HA.out.mono ?_
    rintro e w1 ⟨rfl, hm1⟩
    have HM1 := Lib.hid hm1; clear hm1
    unfold flE
    go_wp2
    rw [HR.out]
    exact ⟨rfl, rfl, HZ.out.err (HM1.out)⟩
  | ok x =>
    obtain ⟨t, l1⟩ := x
    have HRR := Lib.hid hR; clear hR
    go_enter Try.func90, Try.ntmps90
    go_wp2_with fail
    rw [← HW.out]
    go_wp2_with fail
    refine HA.out.mono ?_
    rintro e w2 ⟨v', us', rfl, h2, hm2⟩
    obtain ⟨X2, hX⟩ : ∃ X2, compP t L = X2 := ⟨_, rfl⟩
    rw [hX] at h2 ⊢
    obtain ⟨⟨f, la, em⟩, L1⟩ := X2
    replace h2 : PIs w2 p l1 v' us' L1 := h2

    simp only [partV, partC]
    have HX := Lib.hid hX; clear hX
    obtain ⟨w3, hw3⟩ : ∃ w3, w3 = w2.alloc (.cells #[.int .u64 (wd f 0 : Nat), .int .u64 (wd f 1 : Nat), .int .u64 (wd f 2 : Nat), .int .u64 (wd f 3 : Nat), .int .u64 (wd la 0 : Nat), .int .u64 (wd la 1 : Nat), .int .u64 (wd la 2 : Nat), .int .u64 (wd la 3 : Nat), .bool em] 85) := ⟨_, rfl⟩
    obtain ⟨gg, hgg⟩ : ∃ gg, gg = w2.heap.size := ⟨_, rfl⟩
    have hbl : RowKit.Below w2.heap.size w2 w3 := by rw [hw3]; exact (RowKit.Below.refl _ _).alloc (Nat.le_refl _) _
    have H3 := Lib.hid (h2.below hbl)
    have HM3 := Lib.hid (hm2.trans (Mvd.of_below hbl))
    have hbe : w3.heap[gg]? = some (.cells (partL ⟨f, la, em⟩).toArray 85 (0, 0)) := by rw [hw3, hgg]; exact heap_alloc_new _ _
    have HBE := Lib.hid hbe
    have HPG := Lib.hid (show p < gg by rw [hgg]; exact h2.lt)
    have HWG := Lib.hid (show W.heap.size ≤ gg by rw [hgg]; exact hm2.size)
    have hN := now_any p l1 v' us' L1 w3 H3.out
    have HW3 := Lib.hid hw3; have HGE := Lib.hid hgg
    have z0 := cell_blk hbe 0
    have z1 := cell_blk hbe 1
    have z2 := cell_blk hbe 2
    have z3 := cell_blk hbe 3
    have z4 := cell_blk hbe 4
    have z5 := cell_blk hbe 5
    have z6 := cell_blk hbe 6
    have z7 := cell_blk hbe 7
    have z8 := cell_blk hbe 8
    simp only [partL, List.getElem?_toArray, List.getElem?_cons_zero, List.getElem?_cons_succ] at z0 z1 z2 z3 z4 z5 z6 z7 z8
    have zf := fun i => free_blk hbe i
    clear h2 hm2 hbl hbe hw3 hgg
    go_wp2_with fail
    rw [← HW3.out, ← HGE.out]
    by_cases h42 : nowP l1 = 42
    · have hR := HRR.out
      clear HRR
      try simp only at hR
      rw [h42] at hR
      have hR2 : R = .ok (.star t, l1.tail) := hR
      have HR := Lib.hid hR2; clear hR hR2
      have hn1 : nowP l1 ≠ -1 := by rw [h42]; decide
      rw [h42] at hN
      have HN := Lib.hid hN; clear hN
      go_wp2_with fail
      refine HN.out.mono ?_
      rintro e w4 ⟨rfl, rfl⟩
      go_wp2_with fail
      obtain ⟨w5, hw5⟩ : ∃ w5, w5 = w4.setCell ⟨gg, 8, none⟩ (.bool true) := ⟨_, rfl⟩
      rw [← hw5]
      have ms : Mv (fun k => k = gg) w4 w5 := by rw [hw5]; exact (Mv.refl (fun k => k = gg) w4).setCell (p := ⟨gg, 8, none⟩) (fun _ => rfl) _
      have hb5 : w5.heap[gg]? = some (.cells (partL ⟨f, la, true⟩).toArray 85 (0, 0)) := by rw [hw5]; exact set_blk HBE.out 8 (.bool true)
      have h5 := H3.out.store HBE.out HPG.out ms
      have hm5 := HM3.out.part HWG.out ms
      have HFO := Lib.hid (follow_lit p l1 v' us' L1 la f w5 h5)
      have x0 := cell_blk hb5 0
      have x1 := cell_blk hb5 1
      have x2 := cell_blk hb5 2
      have x3 := cell_blk hb5 3
      have x4 := cell_blk hb5 4
      have x5 := cell_blk hb5 5
      have x6 := cell_blk hb5 6
      have x7 := cell_blk hb5 7
      have x8 := cell_blk hb5 8
      simp only [partL, List.getElem?_toArray, List.getElem?_cons_zero, List.getElem?_cons_succ] at x0 x1 x2 x3 x4 x5 x6 x7 x8
      have HB5 := Lib.hid hb5; have HM5 := Lib.hid hm5; have H5 := Lib.hid h5
      clear z0 z1 z2 z3 z4 z5 z6 z7 z8 zf hb5 hm5 h5 hw5
      refine HFO.out.mono ?_
      rintro e w6 ⟨rfl, h6, hm6⟩
      have hb6 := follow_keep H5.out HB5.out (by decide) hm6
      have hm6' := HM5.out.trans (Mvd.row hm6)
      clear x0 x1 x2 x3 x4 x5 x6 x7 x8 HBE HB5
      have HPA := Lib.hid (pass_any p l1 v' us' _ w6 h6 hn1)
      have HB6 := Lib.hid hb6; have HM6 := Lib.hid hm6'
      go_wp2_with fail
      refine HPA.out.mono ?_
      rintro e w7 ⟨rfl, h7, hm7⟩
      have HBE := Lib.hid (pass_keep HB6.out HPG.out hm7)
      have HM7 := Lib.hid (HM6.out.trans (Mvd.box hm7))
      have H7 := Lib.hid h7
      clear h7 hm7
      go_wp2_with (first
        | (refine wpList_load_agg (o := ⟨some 28, _, _, _, _, _⟩) ?_ 85 (.tmp 5) ?_ (gg) 0 ?_ (partL ⟨f, la, true⟩) ?_ ?_ ?_ ?_; rfl; rfl; rfl; kernel_rfl; kernel_rfl; exact part_cells HBE.out)
        | (refine wpList_store_agg (o := ⟨none, _, _, _, _, _⟩) ?_ 85 (.tmp 4) (.tmp 28) ?_ (w.heap.size) 0 (partL ⟨f, la, true⟩) ?_ ?_ 85 zP (HZ.out.at' H.out HM7.out.mv) ?_ ?_ ?_ ?_; rfl; rfl; rfl; rfl; kernel_rfl; (show 0 + 9 ≤ 9; decide); exact partL_one _; intro w9 hw9 hm9 hs9; rw [spl9 _ rfl] at hw9)
        | fail)
      refine bodyPost_cell rfl (w.heap.size) 85 (partL ⟨f, la, true⟩).toArray rfl hw9 (by kernel_rfl) (by kernel_rfl) rfl ?_
      rw [HR.out]
      exact HZ.out.fin' H.out (show compP (.star t) L = (⟨f, la, true⟩, followP la f L1) by simp only [compP, HX.out]) H7.out HM7.out hm9
    by_cases h43 : nowP l1 = 43
    · have hR := HRR.out
      clear HRR
      try simp only at hR
      rw [h43] at hR
      have hR2 : R = .ok (.plus t, l1.tail) := hR
      have HR := Lib.hid hR2; clear hR hR2
      have hn1 : nowP l1 ≠ -1 := by rw [h43]; decide
      rw [h43] at hN
      have HN := Lib.hid hN; clear hN
      go_wp2_with fail
      refine HN.out.mono ?_
      rintro e w4 ⟨rfl, rfl⟩
      obtain ⟨w5, hw5⟩ : ∃ w5, w5 = w4 := ⟨_, rfl⟩
      have hb5 : w5.heap[gg]? = some (.cells (partL ⟨f, la, em⟩).toArray 85 (0, 0)) := by rw [hw5]; exact HBE.out
      have h5 : PIs w5 p l1 v' us' L1 := by rw [hw5]; exact H3.out
      have hm5 : Mvd p v v' W w5 := by rw [hw5]; exact HM3.out
      have HFO := Lib.hid (follow_lit p l1 v' us' L1 la f w5 h5)
      have x0 := cell_blk hb5 0
      have x1 := cell_blk hb5 1
      have x2 := cell_blk hb5 2
      have x3 := cell_blk hb5 3
      have x4 := cell_blk hb5 4
      have x5 := cell_blk hb5 5
      have x6 := cell_blk hb5 6
      have x7 := cell_blk hb5 7
      have x8 := cell_blk hb5 8
      simp only [partL, List.getElem?_toArray, List.getElem?_cons_zero, List.getElem?_cons_succ] at x0 x1 x2 x3 x4 x5 x6 x7 x8
      have HB5 := Lib.hid hb5; have HM5 := Lib.hid hm5; have H5 := Lib.hid h5
      clear z0 z1 z2 z3 z4 z5 z6 z7 z8 zf hb5 hm5 h5
      subst hw5
      go_wp2_with fail
      refine HFO.out.mono ?_
      rintro e w6 ⟨rfl, h6, hm6⟩
      have hb6 := follow_keep H5.out HB5.out (by decide) hm6
      have hm6' := HM5.out.trans (Mvd.row hm6)
      clear x0 x1 x2 x3 x4 x5 x6 x7 x8 HBE HB5
      have HPA := Lib.hid (pass_any p l1 v' us' _ w6 h6 hn1)
      have HB6 := Lib.hid hb6; have HM6 := Lib.hid hm6'
      go_wp2_with fail
      refine HPA.out.mono ?_
      rintro e w7 ⟨rfl, h7, hm7⟩
      have HBE := Lib.hid (pass_keep HB6.out HPG.out hm7)
      have HM7 := Lib.hid (HM6.out.trans (Mvd.box hm7))
      have H7 := Lib.hid h7
      clear h7 hm7
      go_wp2_with (first
        | (refine wpList_load_agg (o := ⟨some 28, _, _, _, _, _⟩) ?_ 85 (.tmp 5) ?_ (gg) 0 ?_ (partL ⟨f, la, em⟩) ?_ ?_ ?_ ?_; rfl; rfl; rfl; kernel_rfl; kernel_rfl; exact part_cells HBE.out)
        | (refine wpList_store_agg (o := ⟨none, _, _, _, _, _⟩) ?_ 85 (.tmp 4) (.tmp 28) ?_ (w.heap.size) 0 (partL ⟨f, la, em⟩) ?_ ?_ 85 zP (HZ.out.at' H.out HM7.out.mv) ?_ ?_ ?_ ?_; rfl; rfl; rfl; rfl; kernel_rfl; (show 0 + 9 ≤ 9; decide); exact partL_one _; intro w9 hw9 hm9 hs9; rw [spl9 _ rfl] at hw9)
        | fail)
      refine bodyPost_cell rfl (w.heap.size) 85 (partL ⟨f, la, em⟩).toArray rfl hw9 (by kernel_rfl) (by kernel_rfl) rfl ?_
      rw [HR.out]
      exact HZ.out.fin' H.out (show compP (.plus t) L = (⟨f, la, em⟩, followP la f L1) by simp only [compP, HX.out]) H7.out HM7.out hm9
    by_cases h63 : nowP l1 = 63
    · have hR := HRR.out
      clear HRR
      try simp only at hR
      rw [h63] at hR
      have hR2 : R = .ok (.may t, l1.tail) := hR
      have HR := Lib.hid hR2; clear hR hR2
      have hn1 : nowP l1 ≠ -1 := by rw [h63]; decide
      rw [h63] at hN
      have HN := Lib.hid hN; clear hN
      go_wp2_with fail
      refine HN.out.mono ?_
      rintro e w4 ⟨rfl, rfl⟩
      go_wp2_with fail
      obtain ⟨w5, hw5⟩ : ∃ w5, w5 = w4.setCell ⟨gg, 8, none⟩ (.bool true) := ⟨_, rfl⟩
      rw [← hw5]
      have ms : Mv (fun k => k = gg) w4 w5 := by rw [hw5]; exact (Mv.refl (fun k => k = gg) w4).setCell (p := ⟨gg, 8, none⟩) (fun _ => rfl) _
      have hb5 : w5.heap[gg]? = some (.cells (partL ⟨f, la, true⟩).toArray 85 (0, 0)) := by rw [hw5]; exact set_blk HBE.out 8 (.bool true)
      have h5 := H3.out.store HBE.out HPG.out ms
      have hm5 := HM3.out.part HWG.out ms
      clear z0 z1 z2 z3 z4 z5 z6 z7 z8 zf ms hw5 HBE
      have HPA := Lib.hid (pass_any p l1 v' us' _ w5 h5 hn1)
      have HB6 := Lib.hid hb5; have HM6 := Lib.hid hm5
      refine HPA.out.mono ?_
      rintro e w7 ⟨rfl, h7, hm7⟩
      have HBE := Lib.hid (pass_keep HB6.out HPG.out hm7)
      have HM7 := Lib.hid (HM6.out.trans (Mvd.box hm7))
      have H7 := Lib.hid h7
      clear h7 hm7
      go_wp2_with (first
        | (refine wpList_load_agg (o := ⟨some 28, _, _, _, _, _⟩) ?_ 85 (.tmp 5) ?_ (gg) 0 ?_ (partL ⟨f, la, true⟩) ?_ ?_ ?_ ?_; rfl; rfl; rfl; kernel_rfl; kernel_rfl; exact part_cells HBE.out)
        | (refine wpList_store_agg (o := ⟨none, _, _, _, _, _⟩) ?_ 85 (.tmp 4) (.tmp 28) ?_ (w.heap.size) 0 (partL ⟨f, la, true⟩) ?_ ?_ 85 zP (HZ.out.at' H.out HM7.out.mv) ?_ ?_ ?_ ?_; rfl; rfl; rfl; rfl; kernel_rfl; (show 0 + 9 ≤ 9; decide); exact partL_one _; intro w9 hw9 hm9 hs9; rw [spl9 _ rfl] at hw9)
        | fail)
      refine bodyPost_cell rfl (w.heap.size) 85 (partL ⟨f, la, true⟩).toArray rfl hw9 (by kernel_rfl) (by kernel_rfl) rfl ?_
      rw [HR.out]
      exact HZ.out.fin' H.out (show compP (.may t) L = (⟨f, la, true⟩, L1) by simp only [compP, HX.out]) H7.out HM7.out hm9
    have hR := HRR.out
    clear HRR
    try simp only at hR
    have ht : timesP (nowP l1) t = none := by unfold timesP; rw [if_neg h42, if_neg h43, if_neg h63]
    rw [ht] at hR
    have HR := Lib.hid hR; clear hR ht
    have g42 : (nowP l1 == 42) = false := by rw [beq_eq_false_iff_ne]; exact h42
    have g43 : (nowP l1 == 43) = false := by rw [beq_eq_false_iff_ne]; exact h43
    have g63 : (nowP l1 == 63) = false := by rw [beq_eq_false_iff_ne]; exact h63
    generalize nowP l1 = cn at g42 g43 g63 hN
    have HN := Lib.hid hN; clear hN
    go_wp2_with fail
    refine HN.out.mono ?_
    rintro e w4 ⟨rfl, rfl⟩
    clear z0 z1 z2 z3 z4 z5 z6 z7 z8 zf
    go_wp2_with (first
      | (refine wpList_load_agg (o := ⟨some 25, _, _, _, _, _⟩) ?_ 85 (.tmp 5) ?_ (gg) 0 ?_ (partL ⟨f, la, em⟩) ?_ ?_ ?_ ?_; rfl; rfl; rfl; kernel_rfl; kernel_rfl; exact part_cells HBE.out)
      | (refine wpList_store_agg (o := ⟨none, _, _, _, _, _⟩) ?_ 85 (.tmp 4) (.tmp 25) ?_ (w.heap.size) 0 (partL ⟨f, la, em⟩) ?_ ?_ 85 zP (HZ.out.at' H.out HM3.out.mv) ?_ ?_ ?_ ?_; rfl; rfl; rfl; rfl; kernel_rfl; (show 0 + 9 ≤ 9; decide); exact partL_one _; intro w9 hw9 hm9 hs9; rw [spl9 _ rfl] at hw9)
      | fail)
    refine bodyPost_cell rfl (w.heap.size) 85 (partL ⟨f, la, em⟩).toArray rfl hw9 (by kernel_rfl) (by kernel_rfl) rfl ?_
    rw [HR.out]
    exact HZ.out.fin' H.out HX.out H3.out HM3.out hm9
end
end Go.Proofs.Ytfohmepjedehfab
