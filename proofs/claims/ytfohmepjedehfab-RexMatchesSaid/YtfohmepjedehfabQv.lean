/-
  Branches and patterns, groups given.
-/
import Derived.Test.YtfohmepjedehfabQs
import Derived.Test.YtfohmepjedehfabQbe
namespace Go.Proofs.Ytfohmepjedehfab
set_option linter.unusedVariables false
set_option linter.unusedSimpArgs false
open Go.RowKit
/-- What a branch, or several, are while they are read: the tree so far, its part in block gg. -/
structure AccIs (W wr : World) (p gg : Nat) (v : Value) (L : List Atm) (t : Re) (l' : List Pc) (v' : Value) (us' : List Value) : Prop where
  box : wr.heap[gg]? = some (.cells (partL (compP t L).1).toArray 85 (0, 0))
  pis : PIs wr p l' v' us' (compP t L).2
  mv : Mvd p v v' W wr
theorem undrewMvd {p : Nat} {v v' : Value} {w w' : World} (h : Mvd p v v' w.drew w') : Mvd p v v' w w' := ⟨undrewMv h.mv, h.own⟩
theorem keepP {p : Nat} {l : List Pc} {v : Value} {us : List Value} {L : List Atm} {w w' : World} {g : Nat} {cs : Array Value} (h : PIs w p l v us L) (hg : w.heap[g]? = some (.cells cs 85 (0, 0))) (hp : p < g) (m : Mv (PM p v) w w') : w'.heap[g]? = some (.cells cs 85 (0, 0)) := by
  refine (m.block _ (blk_lt hg) ?_).trans hg
  rintro (e | e)
  · omega
  · exact own_blk h.at'.row hg (by decide) e
theorem AccIs.step {W wr wj w9 : World} {p gg : Nat} {v : Value} {L L3 : List Atm} {t t2 : Re} {l' l3 : List Pc} {v' v2 : Value} {us' us2 : List Value} {J : Prt} {cs : Array Value} (k : AccIs W wr p gg v L t l' v' us') (hW : W.heap.size ≤ gg) (hp : p < gg) (mq : Mvd p v' v2 wr wj) (hj : PIs wj p l3 v2 us2 L3)
    (bj : wj.heap[gg]? = some (.cells cs 85 (0, 0))) (hc : compP t2 L = (J, L3)) (m9 : Mv (fun k => k = gg) wj w9) (b9 : w9.heap[gg]? = some (.cells (partL J).toArray 85 (0, 0))) : AccIs W w9 p gg v L t2 l3 v2 us2 :=
  ⟨by rw [hc]; exact b9, by rw [hc]; exact hj.store bj hp m9, (k.mv.trans mq).part hW m9⟩
theorem set9 (w : World) (g : Nat) (v0 v1 v2 v3 v4 v5 v6 v7 v8 : Value) : Mv (fun k => k = g) w (((((((((w.setCell ⟨g, 0, none⟩ v0).setCell ⟨g, 1, none⟩ v1).setCell ⟨g, 2, none⟩ v2).setCell ⟨g, 3, none⟩ v3).setCell ⟨g, 4, none⟩ v4).setCell ⟨g, 5, none⟩ v5).setCell ⟨g, 6, none⟩ v6).setCell ⟨g, 7, none⟩ v7).setCell ⟨g, 8, none⟩ v8) :=
  (((((((((Mv.refl (fun k => k = g) w).setCell (fun _ => rfl) v0).setCell (fun _ => rfl) v1).setCell (fun _ => rfl) v2).setCell (fun _ => rfl) v3).setCell (fun _ => rfl) v4).setCell (fun _ => rfl) v5).setCell (fun _ => rfl) v6).setCell (fun _ => rfl) v7).setCell (fun _ => rfl) v8
section
set_option maxHeartbeats 1600000
set_option maxRecDepth 100000
theorem join_lit (p : Nat) (l : List Pc) (v : Value) (us : List Value) (L : List Atm) (f la : Nat) (em : Bool) (f2 la2 : Nat) (em2 : Bool) (J : Prt) (hJ : joinP ⟨f, la, em⟩ ⟨f2, la2, em2⟩ = J) (w : World) (h : PIs w p l v us L) :
    Calls Try.prog 89 #[.pointer (some ⟨p, 0, none⟩), .agg #[.int .u64 (wd f 0 : Nat), .int .u64 (wd f 1 : Nat), .int .u64 (wd f 2 : Nat), .int .u64 (wd f 3 : Nat), .int .u64 (wd la 0 : Nat), .int .u64 (wd la 1 : Nat), .int .u64 (wd la 2 : Nat), .int .u64 (wd la 3 : Nat), .bool em], .agg #[.int .u64 (wd f2 0 : Nat), .int .u64 (wd f2 1 : Nat), .int .u64 (wd f2 2 : Nat), .int .u64 (wd f2 3 : Nat), .int .u64 (wd la2 0 : Nat), .int .u64 (wd la2 1 : Nat), .int .u64 (wd la2 2 : Nat), .int .u64 (wd la2 3 : Nat), .bool em2]] w fun e w' => e = .returned (.agg #[.int .u64 (wd J.first 0 : Nat), .int .u64 (wd J.first 1 : Nat), .int .u64 (wd J.first 2 : Nat), .int .u64 (wd J.first 3 : Nat), .int .u64 (wd J.last 0 : Nat), .int .u64 (wd J.last 1 : Nat), .int .u64 (wd J.last 2 : Nat), .int .u64 (wd J.last 3 : Nat), .bool J.empty]) ∧ PIs w' p l v us (followP la f2 L) ∧ Mv (fun k => v.ownBlock = some k) w w' := by
  have := join_any p l v us L ⟨f, la, em⟩ ⟨f2, la2, em2⟩ w h
  rw [hJ] at this
  exact this
theorem either_lit (f la : Nat) (em : Bool) (f2 la2 : Nat) (em2 : Bool) (J : Prt) (hJ : eitherP ⟨f, la, em⟩ ⟨f2, la2, em2⟩ = J) (w : World) :
    Calls Try.prog 77 #[.agg #[.int .u64 (wd f 0 : Nat), .int .u64 (wd f 1 : Nat), .int .u64 (wd f 2 : Nat), .int .u64 (wd f 3 : Nat), .int .u64 (wd la 0 : Nat), .int .u64 (wd la 1 : Nat), .int .u64 (wd la 2 : Nat), .int .u64 (wd la 3 : Nat), .bool em], .agg #[.int .u64 (wd f2 0 : Nat), .int .u64 (wd f2 1 : Nat), .int .u64 (wd f2 2 : Nat), .int .u64 (wd f2 3 : Nat), .int .u64 (wd la2 0 : Nat), .int .u64 (wd la2 1 : Nat), .int .u64 (wd la2 2 : Nat), .int .u64 (wd la2 3 : Nat), .bool em2]] w fun e w' => e = .returned (.agg #[.int .u64 (wd J.first 0 : Nat), .int .u64 (wd J.first 1 : Nat), .int .u64 (wd J.first 2 : Nat), .int .u64 (wd J.first 3 : Nat), .int .u64 (wd J.last 0 : Nat), .int .u64 (wd J.last 1 : Nat), .int .u64 (wd J.last 2 : Nat), .int .u64 (wd J.last 3 : Nat), .bool J.empty]) ∧ RowKit.Below w.heap.size w w' := by
  have := either_any ⟨f, la, em⟩ ⟨f2, la2, em2⟩ w
  rw [hJ] at this
  exact this
theorem branch_any (grp : List Pc → Rs Re) (n : Nat) (hG : GC grp n) (p : Nat) (l : List Pc) (v : Value) (us : List Value) (L : List Atm) (w : World) (h : PIs w p l v us L) :
    Calls Try.prog 75 #[.pointer (some ⟨p, 0, none⟩), .int .i64 (n : Nat)] w (OutP p v L w (branchP grp l.length .none l)) := by
  obtain ⟨R, hR⟩ : ∃ R, branchP grp l.length .none l = R := ⟨_, rfl⟩
  rw [hR]
  obtain ⟨W, hW⟩ : ∃ W, W = w.alloc (.cells #[.int .u64 0, .int .u64 0, .int .u64 0, .int .u64 0, .int .u64 0, .int .u64 0, .int .u64 0, .int .u64 0, .bool false] 85) := ⟨_, rfl⟩
  have hz : Zs w W := by rw [hW]; exact Zs.mk' w
  have h1 := hz.pis h
  have HW := Lib.hid hW; have HZ := Lib.hid hz; have H := Lib.hid h
  clear hW hz
  obtain ⟨W2, hW2⟩ : ∃ W2, W2 = W.alloc (.cells #[.int .u64 0, .int .u64 0, .int .u64 0, .int .u64 0, .int .u64 0, .int .u64 0, .int .u64 0, .int .u64 0, .bool true] 85) := ⟨_, rfl⟩
  obtain ⟨gg, hgg⟩ : ∃ gg, gg = W.heap.size := ⟨_, rfl⟩
  have hb2 : RowKit.Below W.heap.size W W2 := by rw [hW2]; exact (RowKit.Below.refl _ _).alloc (Nat.le_refl _) _
  have HC0 := Lib.hid (show AccIs W W2 p gg v L .none l v us from ⟨by rw [hW2, hgg]; have := heap_alloc_new W (.cells #[.int .u64 0, .int .u64 0, .int .u64 0, .int .u64 0, .int .u64 0, .int .u64 0, .int .u64 0, .int .u64 0, .bool true] 85); simpa [compP, partL, wd] using this, h1.below hb2, Mvd.of_below hb2⟩)
  have HWG := Lib.hid (show W.heap.size ≤ gg by omega)
  have HPG := Lib.hid (show p < gg by rw [hgg]; exact h1.lt)
  have HGE := Lib.hid (show gg = w.heap.size + 1 by rw [hgg]; exact HZ.out.sz)
  have HW2 := Lib.hid (show W2 = (w.alloc (.cells #[.int .u64 0, .int .u64 0, .int .u64 0, .int .u64 0, .int .u64 0, .int .u64 0, .int .u64 0, .int .u64 0, .bool false] 85)).alloc (.cells #[.int .u64 0, .int .u64 0, .int .u64 0, .int .u64 0, .int .u64 0, .int .u64 0, .int .u64 0, .int .u64 0, .bool true] 85) by rw [hW2, HW.out])
  have HRS := Lib.hid hR
  clear hW2 hgg hb2 h1 h hR
  go_enter Try.func75, Try.ntmps75
  go_wp2_with fail
  rw [← HW2.out, ← HGE.out]
  go_loopw [] (fun wr => ∃ (t : Re) (l' : List Pc) (v' : Value) (us' : List Value), Aside (AccIs W wr p gg v L t l' v' us') ∧ Aside (branchP grp l'.length t l' = R)) (fun wr => restN p wr)
  case atStart => exact ⟨.none, l, v, us, HC0.out, HRS.out⟩
  case round =>
    obtain ⟨t, l', v', us', HC, HE⟩ := hrel
    have hE := HE.out
    rw [branch_step hG.1 t HC.out.pis.ok] at hE
    have hN := now_any p l' v' us' _ wr HC.out.pis
    by_cases h124 : nowP l' = 124
    · rw [if_pos (by rw [h124]; rfl)] at hE
      have HR9 := Lib.hid hE.symm
      rw [h124] at hN
      have HN := Lib.hid hN; clear hN hE h124 HE
      go_wp2_with fail
      refine HN.out.mono ?_
      rintro e w4 ⟨rfl, rfl⟩
      go_wp2_with (first
        | (refine wpList_load_agg (o := ⟨some 26, _, _, _, _, _⟩) ?_ 85 (.tmp 5) ?_ (gg) 0 ?_ (partL (compP t L).1) ?_ ?_ ?_ ?_; rfl; rfl; rfl; kernel_rfl; kernel_rfl; exact part_cells HC.out.box)
        | (refine wpList_store_agg (o := ⟨none, _, _, _, _, _⟩) ?_ 85 (.tmp 4) (.tmp 26) ?_ (w.heap.size) 0 (partL (compP t L).1) ?_ ?_ 85 zP (HZ.out.at' H.out HC.out.mv.mv) ?_ ?_ ?_ ?_; rfl; rfl; rfl; rfl; kernel_rfl; (show 0 + 9 ≤ 9; decide); exact partL_one _; intro w9 hw9 hm9 hs9; rw [spl9 _ rfl] at hw9)
        | fail)
      refine bodyPost_cell rfl (w.heap.size) 85 (partL (compP t L).1).toArray rfl hw9 (by kernel_rfl) (by kernel_rfl) rfl ?_
      rw [HR9.out]
      exact HZ.out.fin H.out HC.out.pis HC.out.mv hm9
    by_cases h41 : nowP l' = 41
    · rw [if_pos (by rw [h41]; rfl)] at hE
      have HR9 := Lib.hid hE.symm
      rw [h41] at hN
      clear h124
      have HN := Lib.hid hN; clear hN hE h41 HE
      go_wp2_with fail
      refine HN.out.mono ?_
      rintro e w4 ⟨rfl, rfl⟩
      go_wp2_with fail
      refine HN.out.mono ?_
      rintro e w4 ⟨rfl, rfl⟩
      go_wp2_with (first
        | (refine wpList_load_agg (o := ⟨some 26, _, _, _, _, _⟩) ?_ 85 (.tmp 5) ?_ (gg) 0 ?_ (partL (compP t L).1) ?_ ?_ ?_ ?_; rfl; rfl; rfl; kernel_rfl; kernel_rfl; exact part_cells HC.out.box)
        | (refine wpList_store_agg (o := ⟨none, _, _, _, _, _⟩) ?_ 85 (.tmp 4) (.tmp 26) ?_ (w.heap.size) 0 (partL (compP t L).1) ?_ ?_ 85 zP (HZ.out.at' H.out HC.out.mv.mv) ?_ ?_ ?_ ?_; rfl; rfl; rfl; rfl; kernel_rfl; (show 0 + 9 ≤ 9; decide); exact partL_one _; intro w9 hw9 hm9 hs9; rw [spl9 _ rfl] at hw9)
        | fail)
      refine bodyPost_cell rfl (w.heap.size) 85 (partL (compP t L).1).toArray rfl hw9 (by kernel_rfl) (by kernel_rfl) rfl ?_
      rw [HR9.out]
      exact HZ.out.fin H.out HC.out.pis HC.out.mv hm9
    by_cases hm1 : nowP l' = -1
    · rw [if_pos (by rw [hm1]; rfl)] at hE
      have HR9 := Lib.hid hE.symm
      rw [hm1] at hN
      clear h124 h41
      have HN := Lib.hid hN; clear hN hE hm1 HE
      go_wp2_with fail
      refine HN.out.mono ?_
      rintro e w4 ⟨rfl, rfl⟩
      go_wp2_with fail
      refine HN.out.mono ?_
      rintro e w4 ⟨rfl, rfl⟩
      go_wp2_with fail
      refine HN.out.mono ?_
      rintro e w4 ⟨rfl, rfl⟩
      go_wp2_with (first
        | (refine wpList_load_agg (o := ⟨some 26, _, _, _, _, _⟩) ?_ 85 (.tmp 5) ?_ (gg) 0 ?_ (partL (compP t L).1) ?_ ?_ ?_ ?_; rfl; rfl; rfl; kernel_rfl; kernel_rfl; exact part_cells HC.out.box)
        | (refine wpList_store_agg (o := ⟨none, _, _, _, _, _⟩) ?_ 85 (.tmp 4) (.tmp 26) ?_ (w.heap.size) 0 (partL (compP t L).1) ?_ ?_ 85 zP (HZ.out.at' H.out HC.out.mv.mv) ?_ ?_ ?_ ?_; rfl; rfl; rfl; rfl; kernel_rfl; (show 0 + 9 ≤ 9; decide); exact partL_one _; intro w9 hw9 hm9 hs9; rw [spl9 _ rfl] at hw9)
        | fail)
      refine bodyPost_cell rfl (w.heap.size) 85 (partL (compP t L).1).toArray rfl hw9 (by kernel_rfl) (by kernel_rfl) rfl ?_
      rw [HR9.out]
      exact HZ.out.fin H.out HC.out.pis HC.out.mv hm9
    have hst : stopP (nowP l') = false := by
      unfold stopP
      simp only [Bool.or_eq_false_iff, beq_eq_false_iff_ne]
      exact ⟨⟨h124, h41⟩, hm1⟩
    rw [if_neg (by rw [hst]; simp)] at hE
    have g124 : (nowP l' != 124) = true := by rw [bne_iff_ne]; exact h124
    have g41 : (nowP l' != 41) = true := by rw [bne_iff_ne]; exact h41
    have gm1 : (nowP l' != -1) = true := by rw [bne_iff_ne]; exact hm1
    have hshr := fun a l3 (e : pieceP grp l' = .ok (a, l3)) => pieceP_shr hG.1 HC.out.pis.ok e
    have hbox := HC.out.box
    have hpis := HC.out.pis
    obtain ⟨X2, hX⟩ : ∃ X2, compP t L = X2 := ⟨_, rfl⟩
    rw [hX] at hbox hpis
    obtain ⟨⟨f, la, em⟩, L1⟩ := X2
    replace hbox : wr.heap[gg]? = some (.cells (partL ⟨f, la, em⟩).toArray 85 (0, 0)) := hbox
    replace hpis : PIs wr p l' v' us' L1 := hpis
    have HX := Lib.hid hX; have HBX := Lib.hid hbox; have HPS := Lib.hid hpis
    have x0 := cell_blk hbox 0
    have x1 := cell_blk hbox 1
    have x2 := cell_blk hbox 2
    have x3 := cell_blk hbox 3
    have x4 := cell_blk hbox 4
    have x5 := cell_blk hbox 5
    have x6 := cell_blk hbox 6
    have x7 := cell_blk hbox 7
    have x8 := cell_blk hbox 8
    simp only [partL, List.getElem?_toArray, List.getElem?_cons_zero, List.getElem?_cons_succ] at x0 x1 x2 x3 x4 x5 x6 x7 x8
    have xf := fun i => free_blk hbox i
    clear hX hbox hpis
    have hpi := fun W' (m : Mv (fun _ => False) wr W') => piece_any grp n hG p l' v' us' L1 W' (HPS.out.other m (fun _ _ f => f) (fun _ _ f => f))
    generalize pieceP grp l' = R2 at hE hpi hshr
    generalize nowP l' = cn at g124 g41 gm1 hN
    have HN := Lib.hid hN; have HE2 := Lib.hid hE; have HSH := Lib.hid hshr
    clear hN hE hshr hst h124 h41 hm1 HE
    cases R2 with
    | error f0 =>
      have hE := HE2.out
      simp only at hE
      have HPI := Lib.hid hpi
      have HERR := Lib.hid (show ∀ W', Mv (PM p v') wr W' → OutP p v L w R (flE f0) W' from fun W' m => by rw [← hE]; exact ⟨rfl, HZ.out.err (HC.out.mv.err m)⟩)
      clear hE HE2 HSH hpi
      go_wp2_with fail
      refine HN.out.mono ?_
      rintro e w4 ⟨rfl, rfl⟩
      go_wp2_with fail
      refine HN.out.mono ?_
      rintro e w4 ⟨rfl, rfl⟩
      go_wp2_with fail
      refine HN.out.mono ?_
      rintro e w4 ⟨rfl, rfl⟩
      go_wp2_with fail
      refine wp_region_any (by kernel_rfl) ?_
      try (change wpAny _ _ _ _ _ _ _ (World.drew _))
      refine wpAny_take (i := 0) (v := ?_) rfl (by kernel_rfl) (by kernel_rfl) (by kernel_rfl) (fun _ _ _ h => h) (Or.inl ⟨by rfl, ?_⟩) ?_
      rotate_left
      · intro w; go_simp; try with_reducible rfl
      refine wpAny_take (i := 2) (v := ?_) rfl (by kernel_rfl) (by kernel_rfl) (by kernel_rfl) (fun _ _ _ h => h) (Or.inl ⟨by rfl, ?_⟩) ?_
      rotate_left
      · intro w; go_simp; try with_reducible rfl
      refine wpAny_take (i := 3) (v := ?_) rfl (by kernel_rfl) (by kernel_rfl) (by kernel_rfl) (fun _ _ _ h => h) (Or.inl ⟨by rfl, ?_⟩) ?_
      rotate_left
      · intro w; go_simp; try with_reducible rfl
      refine wpAny_ready (rs := [1, 4]) (by kernel_rfl) (by simp) ?_
      refine AllReady.cons rfl (fun K hK => ?_) ?_
      · go_simp
        refine hK _ _ ?_
        clear hK K
        refine wpAny_ready (rs := [4]) (by kernel_rfl) (by simp) ?_
        refine AllReady.cons rfl (fun K hK => ?_) AllReady.nil
        · go_simp
          (with_reducible refine (HPI.out _ (by repeat (first | exact Mv.refl _ w4 | refine Mv.drew ?_))).mono ?_); rintro e wq ⟨rfl, hmq⟩; have hmq2 : Mv (PM p v') w4 wq := (by first | exact hmq | exact undrewMv hmq | exact undrewMv (undrewMv hmq)); exact ⟨rfl, HERR.out _ hmq2⟩
      refine AllReady.cons rfl (fun K hK => ?_) AllReady.nil
      · go_simp
        (with_reducible refine (HPI.out _ (by repeat (first | exact Mv.refl _ w4 | refine Mv.drew ?_))).mono ?_); rintro e wq ⟨rfl, hmq⟩; have hmq2 : Mv (PM p v') w4 wq := (by first | exact hmq | exact undrewMv hmq | exact undrewMv (undrewMv hmq)); exact ⟨rfl, HERR.out _ hmq2⟩
    | ok x =>
      obtain ⟨a, l3⟩ := x
      have hE := HE2.out
      simp only at hE
      have HE3 := Lib.hid hE
      have HL3 := Lib.hid (HSH.out a l3 rfl).lt
      obtain ⟨X3, hX3⟩ : ∃ X3, compP a L1 = X3 := ⟨_, rfl⟩
      obtain ⟨⟨f2, la2, em2⟩, L2⟩ := X3
      obtain ⟨J, hJ⟩ : ∃ J, joinP ⟨f, la, em⟩ ⟨f2, la2, em2⟩ = J := ⟨_, rfl⟩
      have HJE := Lib.hid hJ
      have HCE := Lib.hid (show compP (.cat t a) L = (J, followP la f2 L2) by simp only [compP, HX.out, hX3, hJ])
      have HPI := Lib.hid (show ∀ W', Mv (fun _ => False) wr W' → Calls Try.prog 90 #[.pointer (some ⟨p, 0, none⟩), .int .i64 (n : Nat)] W' (fun e w2 => ∃ v2 us2, e = .returned (.agg #[.int .u64 (wd f2 0 : Nat), .int .u64 (wd f2 1 : Nat), .int .u64 (wd f2 2 : Nat), .int .u64 (wd f2 3 : Nat), .int .u64 (wd la2 0 : Nat), .int .u64 (wd la2 1 : Nat), .int .u64 (wd la2 2 : Nat), .int .u64 (wd la2 3 : Nat), .bool em2]) ∧ PIs w2 p l3 v2 us2 L2 ∧ Mvd p v' v2 W' w2) from fun W' m => by
        refine (hpi W' m).mono ?_
        rintro e w2 ⟨v2, us2, e1, h2, h3⟩
        rw [hX3] at e1 h2
        exact ⟨v2, us2, e1, h2, h3⟩)
      clear hE HE2 HSH hpi hX3 hJ
      go_wp2_with fail
      refine HN.out.mono ?_
      rintro e w4 ⟨rfl, rfl⟩
      go_wp2_with fail
      refine HN.out.mono ?_
      rintro e w4 ⟨rfl, rfl⟩
      go_wp2_with fail
      refine HN.out.mono ?_
      rintro e w4 ⟨rfl, rfl⟩
      go_wp2_with fail
      go_region_law (first
        | (go_simp; go_at_call 90; go_must ((with_reducible refine (HPI.out _ (by repeat (first | exact Mv.refl _ w4 | refine Mv.drew ?_))).mono ?_); rintro e wq ⟨v2, us2, rfl, hq, hmq⟩; have hmq2 : Mvd p v' v2 w4 wq := (by first | exact hmq | exact undrewMvd hmq | exact undrewMvd (undrewMvd hmq)); have hbq := keepP HPS.out HBX.out HPG.out hmq2.mv; have y0 := cell_blk hbq 0; have y1 := cell_blk hbq 1; have y2 := cell_blk hbq 2; have y3 := cell_blk hbq 3; have y4 := cell_blk hbq 4; have y5 := cell_blk hbq 5; have y6 := cell_blk hbq 6; have y7 := cell_blk hbq 7; have y8 := cell_blk hbq 8; simp only [partL, List.getElem?_toArray, List.getElem?_cons_zero, List.getElem?_cons_succ] at y0 y1 y2 y3 y4 y5 y6 y7 y8; have HBQ := Lib.hid hbq; have HQ := Lib.hid hq; have HMQ := Lib.hid hmq2; have HJ := Lib.hid (fun W' (m : Mv (fun _ => False) wq W') => join_lit p l3 v2 us2 L2 f la em f2 la2 em2 J HJE.out W' (HQ.out.other m (fun _ _ f => f) (fun _ _ f => f))); clear hq hmq hmq2 hbq))
        | (go_simp; go_at_call 89; (with_reducible refine (HJ.out _ (by repeat (first | exact Mv.refl _ wq | refine Mv.drew ?_))).mono ?_); rintro e wj ⟨rfl, hj, hmj⟩; have hmj2 : Mv (fun k => v2.ownBlock = some k) wq wj := (by first | exact hmj | exact undrewMv hmj | exact undrewMv (undrewMv hmj)); have hbj := follow_keep HQ.out HBQ.out (by decide) hmj2; have z0 := cell_blk hbj 0; have z1 := cell_blk hbj 1; have z2 := cell_blk hbj 2; have z3 := cell_blk hbj 3; have z4 := cell_blk hbj 4; have z5 := cell_blk hbj 5; have z6 := cell_blk hbj 6; have z7 := cell_blk hbj 7; have z8 := cell_blk hbj 8; simp only [partL, List.getElem?_toArray, List.getElem?_cons_zero, List.getElem?_cons_succ] at z0 z1 z2 z3 z4 z5 z6 z7 z8; have zf := fun i => free_blk hbj i; have HBJ := Lib.hid hbj; have HPJ := Lib.hid hj; have HMJ := Lib.hid (HMQ.out.trans (Mvd.row hmj2)); clear hj hmj hmj2 hbj)
        | fail)
      all_goals
        go_wp2
        go_roundw
        case rel => exact ⟨.cat t a, l3, v2, us2, AccIs.step HC.out HWG.out HPG.out HMJ.out HPJ.out HBJ.out HCE.out (set9 _ _ _ _ _ _ _ _ _ _ _) (stored9 HBJ.out), HE3.out⟩
        case measure => rw [((AccIs.step HC.out HWG.out HPG.out HMJ.out HPJ.out HBJ.out HCE.out (set9 _ _ _ _ _ _ _ _ _ _ _) (stored9 HBJ.out) : AccIs W _ p gg v L (.cat t a) l3 v2 us2)).pis.restN, HC.out.pis.restN]; exact HL3.out
theorem pattern_any (grp : List Pc → Rs Re) (n : Nat) (hG : GC grp n) (p : Nat) (l : List Pc) (v : Value) (us : List Value) (L : List Atm) (w : World) (h : PIs w p l v us L) :
    Calls Try.prog 59 #[.pointer (some ⟨p, 0, none⟩), .int .i64 (n : Nat)] w (OutP p v L w (patP grp l)) := by
  obtain ⟨R, hR⟩ : ∃ R, patP grp l = R := ⟨_, rfl⟩
  rw [hR]
  unfold patP at hR
  obtain ⟨W, hW⟩ : ∃ W, W = w.alloc (.cells #[.int .u64 0, .int .u64 0, .int .u64 0, .int .u64 0, .int .u64 0, .int .u64 0, .int .u64 0, .int .u64 0, .bool false] 85) := ⟨_, rfl⟩
  have hz : Zs w W := by rw [hW]; exact Zs.mk' w
  have h1 := hz.pis h
  have HW := Lib.hid hW; have HZ := Lib.hid hz; have H := Lib.hid h
  clear hW hz
  have HBR := Lib.hid (branch_any grp n hG p l v us L W h1)
  have H1 := Lib.hid h1
  have HRR := Lib.hid hR; clear h1 h hR
  go_enter Try.func59, Try.ntmps59
  go_wp2_with fail
  rw [← HW.out]
  refine HBR.out.mono ?_
  intro e w2 ho
  have hR := HRR.out
  generalize branchP grp l.length .none l = R1 at hR ho
  clear HBR HRR
  cases R1 with
  | error f =>
    simp only at hR
    have HR := Lib.hid hR.symm; clear hR
    obtain ⟨rfl, hm1⟩ := ho
    have HM1 := Lib.hid hm1; clear hm1
    unfold flE
    go_wp2
    rw [HR.out]
    exact ⟨rfl, rfl, HZ.out.err (HM1.out)⟩
  | ok x =>
    obtain ⟨t0, l1⟩ := x
    simp only at hR
    have HRS := Lib.hid hR; clear hR
    obtain ⟨v1, us1, rfl, h2, hm2⟩ := ho
    obtain ⟨X2, hX⟩ : ∃ X2, compP t0 L = X2 := ⟨_, rfl⟩
    have H2 := Lib.hid h2; have HM2 := Lib.hid hm2
    rw [hX]
    obtain ⟨⟨f, la, em⟩, L1⟩ := X2
    obtain ⟨W2, hW2⟩ : ∃ W2, W2 = w2.alloc (.cells #[.int .u64 (wd f 0 : Nat), .int .u64 (wd f 1 : Nat), .int .u64 (wd f 2 : Nat), .int .u64 (wd f 3 : Nat), .int .u64 (wd la 0 : Nat), .int .u64 (wd la 1 : Nat), .int .u64 (wd la 2 : Nat), .int .u64 (wd la 3 : Nat), .bool em] 85) := ⟨_, rfl⟩
    obtain ⟨gg, hgg⟩ : ∃ gg, gg = w2.heap.size := ⟨_, rfl⟩
    have hb2 : RowKit.Below w2.heap.size w2 W2 := by rw [hW2]; exact (RowKit.Below.refl _ _).alloc (Nat.le_refl _) _
    have HC0 := Lib.hid (show AccIs W W2 p gg v L t0 l1 v1 us1 from ⟨by rw [hX, hW2, hgg]; exact heap_alloc_new _ _, H2.out.below hb2, HM2.out.trans (Mvd.of_below hb2)⟩)
    have HWG := Lib.hid (show W.heap.size ≤ gg by rw [hgg]; exact hm2.size)
    have HPG := Lib.hid (show p < gg by rw [hgg]; exact h2.lt)
    have HGE := Lib.hid hgg
    have HW2 := Lib.hid hW2
    clear hW2 hgg hb2 h2 hm2 hX
    simp only [partV, partC]
    go_wp2_with fail
    rw [← HW2.out, ← HGE.out]
    go_loopw [] (fun wr => ∃ (t : Re) (l' : List Pc) (v' : Value) (us' : List Value), Aside (AccIs W wr p gg v L t l' v' us') ∧ Aside (altsP grp l'.length t l' = R)) (fun wr => restN p wr)
    case atStart => exact ⟨t0, l1, v1, us1, HC0.out, HRS.out⟩
    case round =>
      obtain ⟨t, l', v', us', HC, HE⟩ := hrel
      have hE := HE.out
      rw [alts_step hG.1 t HC.out.pis.ok] at hE
      have hN := now_any p l' v' us' _ wr HC.out.pis
      by_cases h124 : nowP l' = 124
      · rw [if_pos h124] at hE
        have hn1 : nowP l' ≠ -1 := by rw [h124]; decide
        rw [h124] at hN
        have hp := pass_any p l' v' us' _ wr HC.out.pis hn1
        have htl := tail_lt HC.out.pis.ok
        have hok := HC.out.pis.ok.tail hn1
        have HN := Lib.hid hN; have HPA := Lib.hid hp
        have HE0 := Lib.hid hE
        have HTL := Lib.hid htl; have HOK := Lib.hid hok
        clear hN hE hp hn1 htl hok h124 HE
        go_wp2_with fail
        refine HN.out.mono ?_
        rintro e w4 ⟨rfl, rfl⟩
        go_wp2_with fail
        refine HPA.out.mono ?_
        rintro e w5 ⟨rfl, hp5, hm5⟩
        have HC5 := Lib.hid (show AccIs W w5 p gg v L t l'.tail v' us' from ⟨(hm5.block _ (blk_lt HC.out.box) (by have := HPG.out; omega)).trans HC.out.box, hp5, HC.out.mv.trans (Mvd.box hm5)⟩)
        have HRN := Lib.hid HC.out.pis.restN
        clear hp5 hm5 HN HPA
        obtain ⟨wr2, hwr2⟩ : ∃ wr2, wr2 = w5 := ⟨_, rfl⟩
        subst hwr2
        have hbox := HC5.out.box
        have hpis := HC5.out.pis
        obtain ⟨X2, hX⟩ : ∃ X2, compP t L = X2 := ⟨_, rfl⟩
        rw [hX] at hbox hpis
        obtain ⟨⟨f, la, em⟩, L1⟩ := X2
        replace hbox : wr2.heap[gg]? = some (.cells (partL ⟨f, la, em⟩).toArray 85 (0, 0)) := hbox
        replace hpis : PIs wr2 p l'.tail v' us' L1 := hpis
        have HX := Lib.hid hX; have HBX := Lib.hid hbox; have HPS := Lib.hid hpis
        have x0 := cell_blk hbox 0
        have x1 := cell_blk hbox 1
        have x2 := cell_blk hbox 2
        have x3 := cell_blk hbox 3
        have x4 := cell_blk hbox 4
        have x5 := cell_blk hbox 5
        have x6 := cell_blk hbox 6
        have x7 := cell_blk hbox 7
        have x8 := cell_blk hbox 8
        simp only [partL, List.getElem?_toArray, List.getElem?_cons_zero, List.getElem?_cons_succ] at x0 x1 x2 x3 x4 x5 x6 x7 x8
        have xf := fun i => free_blk hbox i
        clear hX hbox hpis
        have hpi := fun W' (m : Mv (fun _ => False) wr2 W') => branch_any grp n hG p l'.tail v' us' L1 W' (HPS.out.other m (fun _ _ f => f) (fun _ _ f => f))
        have hshr := fun a l3 (e : branchP grp l'.tail.length .none l'.tail = .ok (a, l3)) => (branchP_less hG.1 _ _ _ HOK.out e).1.len
        have hE := HE0.out
        generalize branchP grp l'.tail.length .none l'.tail = R2 at hE hpi hshr
        have HE2 := Lib.hid hE; have HSH := Lib.hid hshr
        clear hE hshr HE0
        cases R2 with
        | error f0 =>
          have hE := HE2.out
          simp only at hE
          have HPI := Lib.hid hpi
          have HERR := Lib.hid (show ∀ W', Mv (PM p v') wr2 W' → OutP p v L w R (flE f0) W' from fun W' m => by rw [← hE]; exact ⟨rfl, HZ.out.err (HC5.out.mv.err m)⟩)
          clear hE HE2 HSH hpi
          go_wp2_with fail
          refine wp_region_any (by kernel_rfl) ?_
          try (change wpAny _ _ _ _ _ _ _ (World.drew _))
          refine wpAny_take (i := 1) (v := ?_) rfl (by kernel_rfl) (by kernel_rfl) (by kernel_rfl) (fun _ _ _ h => h) (Or.inl ⟨by rfl, ?_⟩) ?_
          rotate_left
          · intro w; go_simp; try with_reducible rfl
          refine wpAny_take (i := 2) (v := ?_) rfl (by kernel_rfl) (by kernel_rfl) (by kernel_rfl) (fun _ _ _ h => h) (Or.inl ⟨by rfl, ?_⟩) ?_
          rotate_left
          · intro w; go_simp; try with_reducible rfl
          refine wpAny_ready (rs := [0, 3]) (by kernel_rfl) (by simp) ?_
          refine AllReady.cons rfl (fun K hK => ?_) ?_
          · go_simp
            refine hK _ _ ?_
            clear hK K
            refine wpAny_ready (rs := [3]) (by kernel_rfl) (by simp) ?_
            refine AllReady.cons rfl (fun K hK => ?_) AllReady.nil
            · go_simp
              (with_reducible refine (HPI.out _ (by repeat (first | exact Mv.refl _ wr2 | refine Mv.drew ?_))).mono ?_); rintro e wq ⟨rfl, hmq⟩; have hmq2 : Mv (PM p v') wr2 wq := (by first | exact hmq | exact undrewMv hmq | exact undrewMv (undrewMv hmq)); exact ⟨rfl, HERR.out _ hmq2⟩
          refine AllReady.cons rfl (fun K hK => ?_) AllReady.nil
          · go_simp
            (with_reducible refine (HPI.out _ (by repeat (first | exact Mv.refl _ wr2 | refine Mv.drew ?_))).mono ?_); rintro e wq ⟨rfl, hmq⟩; have hmq2 : Mv (PM p v') wr2 wq := (by first | exact hmq | exact undrewMv hmq | exact undrewMv (undrewMv hmq)); exact ⟨rfl, HERR.out _ hmq2⟩
        | ok x =>
          obtain ⟨a, l3⟩ := x
          have hE := HE2.out
          simp only at hE
          have HE3 := Lib.hid hE
          have HL3 := Lib.hid (show l3.length < l'.length by have := HSH.out a l3 rfl; have := HTL.out; omega)
          obtain ⟨X3, hX3⟩ : ∃ X3, compP a L1 = X3 := ⟨_, rfl⟩
          obtain ⟨⟨f2, la2, em2⟩, L2⟩ := X3
          obtain ⟨J, hJ⟩ : ∃ J, eitherP ⟨f, la, em⟩ ⟨f2, la2, em2⟩ = J := ⟨_, rfl⟩
          have HJE := Lib.hid hJ
          have HCE := Lib.hid (show compP (.alt t a) L = (J, L2) by simp only [compP, HX.out, hX3, hJ])
          have HPI := Lib.hid (show ∀ W', Mv (fun _ => False) wr2 W' → Calls Try.prog 75 #[.pointer (some ⟨p, 0, none⟩), .int .i64 (n : Nat)] W' (fun e w2 => ∃ v2 us2, e = .returned (.agg #[.int .u64 (wd f2 0 : Nat), .int .u64 (wd f2 1 : Nat), .int .u64 (wd f2 2 : Nat), .int .u64 (wd f2 3 : Nat), .int .u64 (wd la2 0 : Nat), .int .u64 (wd la2 1 : Nat), .int .u64 (wd la2 2 : Nat), .int .u64 (wd la2 3 : Nat), .bool em2]) ∧ PIs w2 p l3 v2 us2 L2 ∧ Mvd p v' v2 W' w2) from fun W' m => by
            refine (hpi W' m).mono ?_
            rintro e w2 ⟨v2, us2, e1, h2, h3⟩
            rw [hX3] at e1 h2
            exact ⟨v2, us2, e1, h2, h3⟩)
          clear hE HE2 HSH hpi hX3 hJ
          go_wp2_with fail
          go_region_law (first
            | (go_simp; go_at_call 75; go_must ((with_reducible refine (HPI.out _ (by repeat (first | exact Mv.refl _ wr2 | refine Mv.drew ?_))).mono ?_); rintro e wq ⟨v2, us2, rfl, hq, hmq⟩; have hmq2 : Mvd p v' v2 wr2 wq := (by first | exact hmq | exact undrewMvd hmq | exact undrewMvd (undrewMvd hmq)); have hbq := keepP HPS.out HBX.out HPG.out hmq2.mv; have y0 := cell_blk hbq 0; have y1 := cell_blk hbq 1; have y2 := cell_blk hbq 2; have y3 := cell_blk hbq 3; have y4 := cell_blk hbq 4; have y5 := cell_blk hbq 5; have y6 := cell_blk hbq 6; have y7 := cell_blk hbq 7; have y8 := cell_blk hbq 8; simp only [partL, List.getElem?_toArray, List.getElem?_cons_zero, List.getElem?_cons_succ] at y0 y1 y2 y3 y4 y5 y6 y7 y8; have HBQ := Lib.hid hbq; have HQ := Lib.hid hq; have HMQ := Lib.hid hmq2; have HJ := Lib.hid (fun W' => either_lit f la em f2 la2 em2 J HJE.out W'); clear hq hmq hmq2 hbq))
            | (go_simp; go_at_call 77; (with_reducible refine (HJ.out _).mono ?_); rintro e wj ⟨rfl, hbl⟩; have hbl2 : RowKit.Below wq.heap.size wq wj := (by first | exact hbl | exact undrew hbl | exact undrew (undrew hbl)); have hbj := (hbl2.block _ (blk_lt HBQ.out)).trans HBQ.out; have z0 := cell_blk hbj 0; have z1 := cell_blk hbj 1; have z2 := cell_blk hbj 2; have z3 := cell_blk hbj 3; have z4 := cell_blk hbj 4; have z5 := cell_blk hbj 5; have z6 := cell_blk hbj 6; have z7 := cell_blk hbj 7; have z8 := cell_blk hbj 8; simp only [partL, List.getElem?_toArray, List.getElem?_cons_zero, List.getElem?_cons_succ] at z0 z1 z2 z3 z4 z5 z6 z7 z8; have zf := fun i => free_blk hbj i; have HBJ := Lib.hid hbj; have HPJ := Lib.hid (HQ.out.below hbl2); have HMJ := Lib.hid (HMQ.out.trans (Mvd.of_below hbl2)); clear hbl hbl2 hbj)
            | fail)
          all_goals
            go_wp2
            go_roundw
            case rel => exact ⟨.alt t a, l3, v2, us2, AccIs.step HC5.out HWG.out HPG.out HMJ.out HPJ.out HBJ.out HCE.out (set9 _ _ _ _ _ _ _ _ _ _ _) (stored9 HBJ.out), HE3.out⟩
            case measure => rw [((AccIs.step HC5.out HWG.out HPG.out HMJ.out HPJ.out HBJ.out HCE.out (set9 _ _ _ _ _ _ _ _ _ _ _) (stored9 HBJ.out) : AccIs W _ p gg v L (.alt t a) l3 v2 us2)).pis.restN, HRN.out]; exact HL3.out
      · rw [if_neg h124] at hE
        have HR9 := Lib.hid hE.symm
        have g124 : (nowP l' == 124) = false := by rw [beq_eq_false_iff_ne]; exact h124
        generalize nowP l' = cn at g124 hN
        have HN := Lib.hid hN; clear hN hE h124 HE
        go_wp2_with fail
        refine HN.out.mono ?_
        rintro e w4 ⟨rfl, rfl⟩
        go_wp2_with (first
          | (refine wpList_load_agg (o := ⟨some 19, _, _, _, _, _⟩) ?_ 85 (.tmp 5) ?_ (gg) 0 ?_ (partL (compP t L).1) ?_ ?_ ?_ ?_; rfl; rfl; rfl; kernel_rfl; kernel_rfl; exact part_cells HC.out.box)
          | (refine wpList_store_agg (o := ⟨none, _, _, _, _, _⟩) ?_ 85 (.tmp 4) (.tmp 19) ?_ (w.heap.size) 0 (partL (compP t L).1) ?_ ?_ 85 zP (HZ.out.at' H.out HC.out.mv.mv) ?_ ?_ ?_ ?_; rfl; rfl; rfl; rfl; kernel_rfl; (show 0 + 9 ≤ 9; decide); exact partL_one _; intro w9 hw9 hm9 hs9; rw [spl9 _ rfl] at hw9)
          | fail)
        refine bodyPost_cell rfl (w.heap.size) 85 (partL (compP t L).1).toArray rfl hw9 (by kernel_rfl) (by kernel_rfl) rfl ?_
        rw [HR9.out]
        exact HZ.out.fin H.out HC.out.pis HC.out.mv hm9
end
end Go.Proofs.Ytfohmepjedehfab
