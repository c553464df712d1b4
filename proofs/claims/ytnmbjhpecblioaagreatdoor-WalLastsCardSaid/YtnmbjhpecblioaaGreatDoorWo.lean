/-
  A log is opened.
-/
import Derived.BigQuiet
import Derived.Deep.QuietTactic
import Derived.Test.YtnmbjhpecblioaaGreatDoorWr0
namespace Go.Proofs.YtnmbjhpecblioaaGreatDoor
set_option linter.unusedVariables false
set_option linter.unusedSimpArgs false
open Go.Maps Go.RowKit
theorem undrewMv {S : Nat → Prop} {w w' : World} {n : Nat} (m : Mv S (w.drewN n) w') : Mv S w w' := ⟨m.os, m.tape, m.output, m.size, m.block⟩
theorem AllIs.lower {w : World} {B B' : Nat} {v : Value} {P : List (Option Addr × Nat × List UInt8)} (h : AllIs w B v P) (hB : B' ≤ B) : AllIs w B' v P := ⟨h.1.lower hB, fun p hp => (h.2 p hp).lower hB⟩
theorem cell_off {w w' : World} {b o : Nat} (h : w'.heap[b]? = w.heap[b]?) : w'.cell? ⟨b, o, none⟩ = w.cell? ⟨b, o, none⟩ := by simp only [World.cell?, h]
def lastW (S : List Nat) : Nat := (S[S.length - 1]?).getD 1
def firstW (S : List Nat) : Nat := (S[0]?).getD 0
/-- The numbers do not follow one another. -/
def gapW (S : List Nat) : Prop := 0 < S.length ∧ (lastW S : Int) - (firstW S : Int) ≠ (S.length : Int) - 1
def WOpenOut (w : World) (db mb room : Nat) (es : List Ent) (e : Ending) (w' : World) : Prop :=
  (gapW (segsW (es.map val)) ∧ e = .returned (.tuple #[.pointer none, .slice none 0 0, .int .i64 8]) ∧ Below w.heap.size w w') ∨
  (¬ gapW (segsW (es.map val)) ∧ (openR (es.map val) (lastW (segsW (es.map val))) (segsW (es.map val))).2.1 ≠ 0 ∧ e = .returned (.tuple #[.pointer none, .slice none 0 0, .int .i64 ((openR (es.map val) (lastW (segsW (es.map val))) (segsW (es.map val))).2.1 : Nat)]) ∧ Below w.heap.size w w') ∨
  (¬ gapW (segsW (es.map val)) ∧ (openR (es.map val) (lastW (segsW (es.map val))) (segsW (es.map val))).2.1 = 0 ∧ ∃ lb v P es', e = .returned (.tuple #[.pointer (some ⟨lb, 0, none⟩), v, .int .i64 0]) ∧ AllIs w' w.heap.size v P ∧
    P.map (·.2.2) = (openR (es.map val) (lastW (segsW (es.map val))) (segsW (es.map val))).1 ∧ LogE w' lb db mb room es' (lastW (segsW (es.map val))) P.length P.length ∧
    es'.map val = cutW (es.map val) (lastW (segsW (es.map val))) (openR (es.map val) (lastW (segsW (es.map val))) (segsW (es.map val))).2.2 ∧ Mv (foot db mb es) w w' ∧ (∀ k, foot db mb es' k → foot db mb es k ∨ w.heap.size ≤ k) ∧ w.heap.size ≤ lb)
section
set_option maxHeartbeats 3200000
set_option maxRecDepth 100000
variable {w : World} {db mb room : Nat} {es : List Ent}
theorem wopen_any (h : DiskE w db mb room es) (hn : Named (es.map val)) (hT : TabOn w (foot db mb es)) : Calls Tryz.prog 27 #[.pointer (some ⟨db, 0, none⟩)] w (WOpenOut w db mb room es) := by
  have hlk : lookE es ⟨#[]⟩ = none := by
    cases ho : lookE es ⟨#[]⟩ with
    | none => rfl
    | some x =>
      obtain ⟨h1, h2⟩ := lookE_mem ho
      have := hn (val x) (List.mem_map.2 ⟨x, h1, rfl⟩)
      rw [show (val x).1 = x.nm from rfl, h2] at this
      exact absurd rfl this
  have hls := dlasts_any h ⟨#[]⟩ (by decide)
  simp only [hlk] at hls
  have HLS := Lib.hid hls
  have hrise := segs_rise (by rw [List.pairwise_map]; exact h.srt) hn
  have hpw := distinct (L := es.map val) (by rw [List.pairwise_map]; exact h.srt)
  have hin : ∀ n ∈ segsW (es.map val), (1 ≤ n ∧ n ≤ 99999999) ∧ lookL (es.map val) (titleN n) ≠ none := fun n hm => by
    obtain ⟨b, f, hf, e⟩ := (mem_segs hn).1 hm
    refine ⟨b, ?_⟩
    rw [← e, look_of hpw hf]
    exact fun e => by cases e
  have hlen : (segsW (es.map val)).length ≤ 64 := Nat.le_trans (List.length_filterMap_le _ _) (by rw [List.length_map]; exact h.fits.2.2)
  have HIN := Lib.hid hin
  obtain ⟨w1, hw1⟩ : ∃ w1, w1 = w.alloc (logO db 1 0 0) := ⟨_, rfl⟩
  have hb1 : Below w.heap.size w w1 := by rw [hw1]; exact (Below.refl _ w).alloc (Nat.le_refl _) _
  have hbx : w1.heap[w.heap.size]? = some (logO db 1 0 0) := by rw [hw1]; exact heap_alloc_new w _
  have hL1 : LogE w1 w.heap.size db mb room es 1 0 0 := ⟨hbx, h.below hb1, hn, fun hf => by have := h.lt hf; omega, by omega, by
    obtain ⟨W, t1, t2, t3⟩ := hT
    exact ⟨W, t1, t2.trans (hb1.mono t2.size), fun k hk => hk.elim (fun e => by rw [e]; exact t2.size) (t3 k)⟩⟩
  have HSG := Lib.hid (segments_any hL1.disk hL1.tab.now hn)
  have HB1 := Lib.hid hb1; have HL1 := Lib.hid hL1
  have HW1 := Lib.hid (show w1 = w.alloc (.cells #[.pointer (some ⟨db, 0, none⟩), .int .i64 1, .int .i64 0, .int .i64 0] 69) from hw1)
  have HFO := Lib.hid (fun k (hk : foot db mb es k) => h.lt hk)
  unfold WOpenOut
  obtain ⟨S, hS⟩ : ∃ S, S = segsW (es.map val) := ⟨_, rfl⟩
  rw [← hS] at HIN HSG hlen ⊢
  clear h hn hT hlk hls hrise hpw hin hw1 hb1 hbx hL1 hS
  by_cases hS0 : S.length = 0
  · obtain rfl : S = [] := List.eq_nil_of_length_eq_zero hS0
    have hgap : ¬ gapW [] := fun hg => absurd hg.1 (by decide)
    have HGP := Lib.hid hgap
    have hl : lastW [] = 1 := rfl
    rw [hl]
    have ho : openR (es.map val) 1 [] = ([], 0, none) := by rw [openR]
    rw [ho]
    clear hgap hl ho
    go_enter Tryz.func27, Tryz.ntmps27
    go_wp2_with fail
    with_reducible refine HLS.out.mono ?_
    rintro e w0 ⟨rfl, rfl⟩
    go_wp2_with fail
    rw [← HW1.out]
    go_wp2_with fail
    with_reducible refine HSG.out.mono ?_
    rintro e w2 ⟨A, c, rfl, hc1, hc2, hr, hb2, hnew⟩
    have HB2 := Lib.hid (HB1.out.trans (hb2.mono HB1.out.size))
    have hrd := wread_any (HL1.out.below hb2) A c [] hr (Nat.zero_le _) (by unfold maxLen at hc2; omega) (by decide) (fun n hn => by cases hn)
    have HXL := Lib.hid (show w.heap.size < w2.heap.size from Nat.lt_of_lt_of_le (by rw [HW1.out, World.size_alloc]; omega) hb2.size)
    rw [List.length_nil] at hrd
    have HRD := Lib.hid hrd
    clear hrd
    clear hr hb2 hnew
    go_wp2_with fail
    with_reducible refine HRD.out.mono ?_
    rintro e w3 hR
    unfold WReadOut at hR
    rw [openR] at hR
    rcases hR with ⟨h0, -⟩ | ⟨h0, v, P, es3, rfl, ⟨hP, hPl⟩, hPm, L3, v3, m3, f3⟩
    · exact absurd rfl h0
    · have hlt3 := blk_lt L3.box
      have H0 := Lib.hid h0; have HPM := Lib.hid hPm; have HL3 := Lib.hid L3; have HV3 := Lib.hid v3; have HP := Lib.hid hP
      have HM3 := Lib.hid (show Mv (footW w.heap.size db mb es) w2 w3 from (by first | exact m3 | exact undrewMv m3)); have HF3 := Lib.hid f3
      obtain ⟨A9, c9, rfl, -⟩ := own_rd hP.1
      obtain ⟨d0, d1, d2, d3⟩ := L3.cells
      obtain ⟨z1, z2, z3⟩ := L3.free
      have HFN := Lib.hid (show LogE ((w3.setCell ⟨w.heap.size, 2, none⟩ (.int .i64 (P.length : Nat))).setCell ⟨w.heap.size, 3, none⟩ (.int .i64 (P.length : Nat))) w.heap.size db mb room es3 1 P.length P.length from (L3.setCnt P.length).setSure P.length)
      have HMS := Lib.hid (((Mv.refl (fun k => k = w.heap.size) w3).setCell (p := ⟨w.heap.size, 2, none⟩) (fun _ => rfl) (.int .i64 (P.length : Nat))).setCell (p := ⟨w.heap.size, 3, none⟩) (fun _ => rfl) (.int .i64 (P.length : Nat)))
      clear h0 hP hPm L3 v3 m3 f3
      go_wp2
      try go_region
      try go_wp2
      go_ret3
      refine .inr (.inr ⟨HGP.out, H0.out, w.heap.size, _, P, es3, rfl, (HP.out.mv HMS.out (fun k hk => by rw [hk]; exact HXL.out)).lower HB2.out.size, HPM.out, HFN.out, HV3.out, ?_, fun k hk => ?_, Nat.le_refl _⟩)
      · exact ((Mv.of_below HB2.out _).trans (HM3.out.trans HMS.out (fun _ _ hk => .inl hk)) (fun k hk0 hk => hk.elim (fun e => absurd hk0 (by omega)) id))
      · rcases HF3.out k hk with hk | hk
        · exact .inl hk
        · exact .inr (Nat.le_trans HB2.out.size hk)
  · have hpos : (0 : Int) < (S.length : Int) := by omega
    obtain ⟨la, hla⟩ : ∃ la, S[S.length - 1]? = some la := ⟨_, List.getElem?_eq_getElem (by omega)⟩
    obtain ⟨fi, hfi⟩ : ∃ fi, S[0]? = some fi := ⟨_, List.getElem?_eq_getElem (by omega)⟩
    have hlw : lastW S = la := by unfold lastW; rw [hla]; rfl
    have hfw : firstW S = fi := by unfold firstW; rw [hfi]; rfl
    obtain ⟨la1, -⟩ := HIN.out la (List.mem_of_getElem? hla)
    obtain ⟨fi1, -⟩ := HIN.out fi (List.mem_of_getElem? hfi)
    have q1 : IntKind.i64.wrap ((S.length : Int) - 1) = ((S.length - 1 : Nat) : Int) := by rw [IntWalk.i64_in _ (by omega)]; omega
    obtain ⟨N1, hN1⟩ : ∃ N1, N1 = S.length - 1 := ⟨_, rfl⟩
    rw [← hN1] at q1 hla
    have n10 : (0 : Int) ≤ (N1 : Int) := by omega
    have n11 : (N1 : Int) < (S.length : Int) := by omega
    have q2 : IntKind.i64.wrap ((la : Int) - (fi : Int)) = (la : Int) - (fi : Int) := IntWalk.i64_in _ (by omega)
    have hgd : gapW S ↔ ¬ (la : Int) - (fi : Int) = (N1 : Int) := by
      unfold gapW
      rw [hlw, hfw]
      constructor
      · intro hg e; exact hg.2 (by omega)
      · intro hg; exact ⟨by omega, fun e => hg (by omega)⟩
    rw [hlw]
    have HLA := Lib.hid hla; have HFI := Lib.hid hfi; have HGD := Lib.hid hgd; have HN1 := Lib.hid hN1
    clear hla hfi hlw hfw hgd hN1
    by_cases hg : (la : Int) - (fi : Int) = (N1 : Int)
    · have hng : ¬ gapW S := fun h => HGD.out.1 h hg
      have g1 : ((la : Int) - (fi : Int) != (N1 : Int)) = false := by simp [hg]
      have HNG := Lib.hid hng; have HG := Lib.hid hg
      clear hng hg
      go_enter Tryz.func27, Tryz.ntmps27
      go_wp2_with fail
      with_reducible refine HLS.out.mono ?_
      rintro e w0 ⟨rfl, rfl⟩
      go_wp2_with fail
      rw [← HW1.out]
      go_wp2_with fail
      with_reducible refine HSG.out.mono ?_
      rintro e w2 ⟨A, c, rfl, hc1, hc2, hr, hb2, hnew⟩
      unfold maxLen at hc2
      obtain ⟨ab, ao, rfl, hA1⟩ := rd_at hr (k := N1) (v := Ni la) (by rw [List.getElem?_map, HLA.out]; rfl)
      obtain ⟨ab', ao', e9, hA0⟩ := rd_at hr (k := 0) (v := Ni fi) (by rw [List.getElem?_map, HFI.out]; rfl)
      injection e9 with e9; injection e9 with e9 e10
      subst e9; subst e10
      have HL2 := Lib.hid (HL1.out.below hb2)
      have HLS2 := Lib.hid (HL2.out.setSeg (n := la) la1)
      have hxl : ab ≠ w.heap.size := fun e => by have h8 := (hnew ab rfl).1; rw [HW1.out, World.size_alloc] at h8; omega
      have a1 := hA1 w2 (Below.refl _ _)
      have a0 := hA0 w2 (Below.refl _ _)
      have b0 : (w2.setCell ⟨w.heap.size, 1, none⟩ (.int .i64 (la : Nat))).cell? ⟨ab, ao + 0, none⟩ = some (Ni fi) := by
        rw [← a0]; exact cell_off (set_other _ _ _ _ hxl)
      unfold Ni at a1 a0 b0
      rw [Nat.add_zero] at a0 b0
      have HRS := Lib.hid (show Rd (w2.setCell ⟨w.heap.size, 1, none⟩ (.int .i64 (la : Nat))) (some ⟨ab, ao, none⟩) (S.map Ni) from hr.setCell (p := ⟨w.heap.size, 1, none⟩) (fun e => hxl (by injection e)) _)
      have HB2 := Lib.hid (show Below w.heap.size w (w2.setCell ⟨w.heap.size, 1, none⟩ (.int .i64 (la : Nat))) from ((Mv.of_below (HB1.out.trans (hb2.mono HB1.out.size)) (fun k => k = w.heap.size)).setCell (p := ⟨w.heap.size, 1, none⟩) (fun _ => rfl) _).belowB (Nat.le_refl _) fun k hk e => by omega)
      have HRD := Lib.hid (fun q => wread_any (HLS2.out.drewN q) (some ⟨ab, ao, none⟩) c S (HRS.out.drewN q) hc1 (by omega) hlen HIN.out)
      have HXL := Lib.hid (show w.heap.size < (w2.setCell ⟨w.heap.size, 1, none⟩ (.int .i64 (la : Nat))).heap.size from blk_lt HLS2.out.box)
      obtain ⟨d0, d1, d2, d3⟩ := HL2.out.cells
      obtain ⟨f1, f2, f3⟩ := HL2.out.free
      obtain ⟨k0, k1, k2, k3⟩ := HLS2.out.cells
      obtain ⟨j1, j2, j3⟩ := HLS2.out.free
      clear hr hA1 hA0 hb2 hnew
      go_wp2_with fail
      go_quiet (fail)
      go_wp2_with fail
      with_reducible refine (HRD.out _).mono ?_
      rintro e w3 hR
      unfold WReadOut at hR
      rcases hR with ⟨h0, rfl, hb3⟩ | ⟨h0, v, P, es3, rfl, ⟨hP, hPl⟩, hPm, L3, v3, m3, f3⟩
      · have H0 := Lib.hid h0; have HB3 := Lib.hid (HB2.out.trans ((undrewB hb3).mono HB2.out.size))
        have c3 : (((openR (es.map val) la S).2.1 : Int) != 0) = true := by rw [bne_iff_ne]; omega
        clear h0 hb3
        go_wp2
        go_ret3
        exact .inr (.inl ⟨HNG.out, H0.out, rfl, HB3.out⟩)
      · have hlt3 := blk_lt L3.box
        have H0 := Lib.hid h0; have HPM := Lib.hid hPm; have HL3 := Lib.hid L3; have HV3 := Lib.hid v3; have HP := Lib.hid hP
        have HM3 := Lib.hid (show Mv (footW w.heap.size db mb es) (w2.setCell ⟨w.heap.size, 1, none⟩ (.int .i64 (la : Nat))) w3 from (by first | exact m3 | exact undrewMv m3)); have HF3 := Lib.hid f3
        obtain ⟨A9, c9, rfl, -⟩ := own_rd hP.1
        obtain ⟨d0, d1, d2, d3⟩ := L3.cells
        obtain ⟨z1, z2, z3⟩ := L3.free
        have HFN := Lib.hid (show LogE ((w3.setCell ⟨w.heap.size, 2, none⟩ (.int .i64 (P.length : Nat))).setCell ⟨w.heap.size, 3, none⟩ (.int .i64 (P.length : Nat))) w.heap.size db mb room es3 la P.length P.length from (L3.setCnt P.length).setSure P.length)
        have HMS := Lib.hid (((Mv.refl (fun k => k = w.heap.size) w3).setCell (p := ⟨w.heap.size, 2, none⟩) (fun _ => rfl) (.int .i64 (P.length : Nat))).setCell (p := ⟨w.heap.size, 3, none⟩) (fun _ => rfl) (.int .i64 (P.length : Nat)))
        clear h0 hP hPm L3 v3 m3 f3
        go_wp2
        try go_region
        try go_wp2
        go_ret3
        refine .inr (.inr ⟨HNG.out, H0.out, w.heap.size, _, P, es3, rfl, (HP.out.mv HMS.out (fun k hk => by rw [hk]; exact HXL.out)).lower HB2.out.size, HPM.out, HFN.out, HV3.out, ?_, fun k hk => ?_, Nat.le_refl _⟩)
        · exact ((Mv.of_below HB2.out _).trans (HM3.out.trans HMS.out (fun _ _ hk => .inl hk)) (fun k hk0 hk => hk.elim (fun e => absurd hk0 (by omega)) id))
        · rcases HF3.out k hk with hk | hk
          · exact .inl hk
          · exact .inr (Nat.le_trans HB2.out.size hk)
    · have hng : gapW S := HGD.out.2 hg
      have g1 : ((la : Int) - (fi : Int) != (N1 : Int)) = true := by rw [bne_iff_ne]; exact hg
      have HNG := Lib.hid hng; have HG := Lib.hid hg
      clear hng hg
      go_enter Tryz.func27, Tryz.ntmps27
      go_wp2_with fail
      with_reducible refine HLS.out.mono ?_
      rintro e w0 ⟨rfl, rfl⟩
      go_wp2_with fail
      rw [← HW1.out]
      go_wp2_with fail
      with_reducible refine HSG.out.mono ?_
      rintro e w2 ⟨A, c, rfl, hc1, hc2, hr, hb2, hnew⟩
      unfold maxLen at hc2
      obtain ⟨ab, ao, rfl, hA1⟩ := rd_at hr (k := N1) (v := Ni la) (by rw [List.getElem?_map, HLA.out]; rfl)
      obtain ⟨ab', ao', e9, hA0⟩ := rd_at hr (k := 0) (v := Ni fi) (by rw [List.getElem?_map, HFI.out]; rfl)
      injection e9 with e9; injection e9 with e9 e10
      subst e9; subst e10
      have HL2 := Lib.hid (HL1.out.below hb2)
      have HLS2 := Lib.hid (HL2.out.setSeg (n := la) la1)
      have hxl : ab ≠ w.heap.size := fun e => by have h8 := (hnew ab rfl).1; rw [HW1.out, World.size_alloc] at h8; omega
      have a1 := hA1 w2 (Below.refl _ _)
      have a0 := hA0 w2 (Below.refl _ _)
      have b0 : (w2.setCell ⟨w.heap.size, 1, none⟩ (.int .i64 (la : Nat))).cell? ⟨ab, ao + 0, none⟩ = some (Ni fi) := by
        rw [← a0]; exact cell_off (set_other _ _ _ _ hxl)
      unfold Ni at a1 a0 b0
      rw [Nat.add_zero] at a0 b0
      have HRS := Lib.hid (show Rd (w2.setCell ⟨w.heap.size, 1, none⟩ (.int .i64 (la : Nat))) (some ⟨ab, ao, none⟩) (S.map Ni) from hr.setCell (p := ⟨w.heap.size, 1, none⟩) (fun e => hxl (by injection e)) _)
      have HB2 := Lib.hid (show Below w.heap.size w (w2.setCell ⟨w.heap.size, 1, none⟩ (.int .i64 (la : Nat))) from ((Mv.of_below (HB1.out.trans (hb2.mono HB1.out.size)) (fun k => k = w.heap.size)).setCell (p := ⟨w.heap.size, 1, none⟩) (fun _ => rfl) _).belowB (Nat.le_refl _) fun k hk e => by omega)
      have HRD := Lib.hid (fun q => wread_any (HLS2.out.drewN q) (some ⟨ab, ao, none⟩) c S (HRS.out.drewN q) hc1 (by omega) hlen HIN.out)
      have HXL := Lib.hid (show w.heap.size < (w2.setCell ⟨w.heap.size, 1, none⟩ (.int .i64 (la : Nat))).heap.size from blk_lt HLS2.out.box)
      obtain ⟨d0, d1, d2, d3⟩ := HL2.out.cells
      obtain ⟨f1, f2, f3⟩ := HL2.out.free
      obtain ⟨k0, k1, k2, k3⟩ := HLS2.out.cells
      obtain ⟨j1, j2, j3⟩ := HLS2.out.free
      clear hr hA1 hA0 hb2 hnew
      go_wp2_with fail
      go_quiet (fail)
      go_wp2_with fail
      try go_wp2
      go_ret3
      exact .inl ⟨HNG.out, rfl, below_drewN HB2.out _⟩
end
end Go.Proofs.YtnmbjhpecblioaaGreatDoor
