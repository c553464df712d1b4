/-
  Classes, walked.
-/
import Derived.Test.YtinjdlplbficiaaGreatDoorPz5
namespace Go.Proofs.YtinjdlplbficiaaGreatDoor
set_option linter.unusedVariables false
set_option linter.unusedSimpArgs false
open Go.RowKit

theorem RE.keep {w w' : World} {p : Nat} {E : Env} {f : Flt} {v : Value} {M : Nat} (h : RE w p E f v M) {B : Nat} (hv : ∀ k, v.ownBlock = some k → k < B) (hp : p < B) (m : Mv (fun k => B ≤ k) w w') : RE w' p E f v M := by
  obtain ⟨i, top, s, size, plain, d, hb⟩ := h.box
  obtain ⟨n, xs, hn, ho⟩ := h.ns
  exact ⟨⟨i, top, s, size, plain, d, (m.block _ (blk_lt hb) (by omega)).trans hb⟩, h.err, n, xs, hn, own_mv ho m fun k hk => by have := hv k hk; omega⟩
theorem cell_more {w : World} {b i : Nat} (h : b < w.heap.size) (o : Obj) : (w.alloc o).cell? ⟨b, i, none⟩ = w.cell? ⟨b, i, none⟩ := World.cell?_of_block (Below.heap_alloc w o b h)
theorem set_high {w w9 : World} {nb : Nat} (u : Value) (hb : nb ≤ nb) : Mv (fun k => nb ≤ k) w9 (w9.setCell ⟨nb, 3, none⟩ u) := (Mv.refl (fun k => nb ≤ k) w9).setCell (p := ⟨nb, 3, none⟩) (fun _ => hb) _
theorem high_p {w W w9 : World} {p : Nat} (h : Mv (fun k => k = p) w W) (m : Mv (fun k => w.heap.size ≤ k) W w9) : Mv (fun k => k = p) w w9 := h.trans m fun i hi e => absurd hi (by omega)
theorem ClsR.next {w W w9 : World} {p : Nat} {E : Env} {d : Nat} {v u v4 : Value} {us : List Value} {N : List Nd} {neg : Bool} {RES : Rs Re} {acc m : Spans} {l' : List Pc}
    (hv : ∀ k, v.ownBlock = some k → k < w.heap.size) (hus : ∀ (i : Nat) (u : Value), us[i]? = some u → ∀ k, u.ownBlock = some k → k < w.heap.size) (hp : p < w.heap.size)
    (h : RP W p E l' d v us N) (hb : w9.heap[w.heap.size]? = some (.cells #[.int .i64 0, .int .i64 0, .int .i64 0, u, .bool neg] 172 (0, 0))) (m9 : Mv (fun k => w.heap.size ≤ k) W w9) (mW : Mv (fun k => k = p) w W)
    (ho : w9.ownsRow (w.heap.size + 1) 181 2 v4 (acc.length + m.length) (spC acc ++ spC m)) (hf : acc.length + m.length + 4 * l'.length ≤ 4100) (hr : RES = clsT neg (restC (acc ++ m) l')) :
    ClsR w (w9.setCell ⟨w.heap.size, 3, none⟩ v4) p E d v us N neg RES (acc ++ m) l' v4 := by
  have ms : Mv (fun k => w.heap.size ≤ k) w9 (w9.setCell ⟨w.heap.size, 3, none⟩ v4) := set_high (w := w) v4 (Nat.le_refl _)
  have mt := m9.trans ms fun _ _ h => h
  refine ⟨h.keep hv hus hp mt, set_blk hb 3 v4, ?_, high_p mW mt, by rw [List.length_append]; exact hf, hr⟩
  have me : Mv (fun k => k = w.heap.size) w9 (w9.setCell ⟨w.heap.size, 3, none⟩ v4) := (Mv.refl (fun k => k = w.heap.size) w9).setCell (p := ⟨w.heap.size, 3, none⟩) (fun _ => rfl) _
  have := own_mv ho me fun k hk e => by have := (ho.lt k hk).1; omega
  rw [List.length_append, spC_app]; exact this
theorem nowR_93 {l : List Pc} (h : nowP l ≠ 93) : (nowR l == 93) = false := by
  rw [beq_eq_false_iff_ne]; unfold nowR; split
  · decide
  · split
    · decide
    · exact h
theorem nowR_45 {l : List Pc} (h : nowP l ≠ 45) : (nowR l == 45) = false := by
  rw [beq_eq_false_iff_ne]; unfold nowR; split
  · decide
  · split
    · decide
    · exact h
theorem nowR_94 {l : List Pc} (h : nowP l ≠ 94) : (nowR l == 94) = false := by
  rw [beq_eq_false_iff_ne]; unfold nowR; split
  · decide
  · split
    · decide
    · exact h
theorem nowR_eq {l : List Pc} {c : Int} (h : nowP l = c) (hc : 0 ≤ c) : nowR l = c := by
  unfold nowR; rw [h, if_neg (by omega), if_neg (by omega)]
section
set_option maxHeartbeats 1600000
set_option maxRecDepth 100000
theorem class_pos (p : Nat) (E : Env) (l : List Pc) (d : Nat) (v : Value) (us : List Value) (N : List Nd) (w : World) (h : RP w p E l d v us N) (h91 : nowP l = 91) (h94 : nowP l.tail ≠ 94) (hnl : N.length ≤ 3000) : Calls Tryz.prog 116 #[.pointer (some ⟨p, 0, none⟩)] w (OutN p E d v N (N.length + 4 * l.length - 2) N.length w (classP l)) := by
  have hn1 : nowP l ≠ -1 := by rw [h91]; decide
  have hsh := fun t l' e => (classP_shr h.ok hn1 (r := t) (l1 := l') e).lt
  obtain ⟨RES, hres⟩ : ∃ RES, RES = classP l := ⟨_, rfl⟩
  rw [← hres] at hsh ⊢
  have hres2 := hres
  rw [classP_eq, decide_eq_false h94] at hres2
  simp only [if_true, Bool.false_eq_true, if_false] at hres2
  have HSH := Lib.hid hsh; have HNL := Lib.hid hnl
  have HV := Lib.hid (fun k hk => (h.ns.row.lt k hk).2)
  have HUS := Lib.hid (show ∀ (i : Nat) (u : Value), us[i]? = some u → ∀ k, u.ownBlock = some k → k < w.heap.size from fun i u hu k hk => by
    have hi : i < N.length := by rw [← h.ns.len]; exact (List.getElem?_eq_some_iff.mp hu).1
    exact ((h.ns.sp i u N[i] hu (List.getElem?_eq_getElem hi)).lt k hk).2)
  have HPN := Lib.hid h.lt
  have hb1 : Below w.heap.size w (w.alloc (.cells #[.int .i64 0, .int .i64 0, .int .i64 0, .slice none 0 0, .bool false] 172)) := (RowKit.Below.refl _ w).alloc (Nat.le_refl _) _
  have h1 := h.below hb1
  have hnbox := heap_alloc_new w (.cells #[.int .i64 0, .int .i64 0, .int .i64 0, .slice none 0 0, .bool false] 172)
  obtain ⟨top, s, size, plain, bad, hb, c0, c1, c2, c3, c6, c7, c8, c9, c10⟩ := h1.cells
  have f1 := free_blk hb 1
  have hwr : IntKind.i64.wrap ((E.at' l : Int) + 1) = (E.at' l : Int) + 1 := by have := h.small; simp [IntKind.wrap, IntKind.bits, IntKind.signed]; omega
  have hp2 := (h1.pass hn1).2 _ rfl
  have hlt1 := (Shr.tail h.ok hn1).lt
  have hls : l.length ≤ 1001 := by
    have h4 := places_len (bl E.s) 0
    rw [bl_len] at h4
    have h5 : E.pl.length ≤ E.s.size + 1 := h4
    have := h.suf.length_le
    have := h.few
    omega
  have HOK1 := Lib.hid (h.ok.tail hn1)
  obtain ⟨w2, hw2⟩ : ∃ w2, w2 = (w.alloc (.cells #[.int .i64 0, .int .i64 0, .int .i64 0, .slice none 0 0, .bool false] 172)).setCell ⟨p, 1, none⟩ (.int .i64 ((E.at' l : Int) + 1)) := ⟨_, rfl⟩
  rw [← hw2] at hp2
  have HBX2 := Lib.hid ((hp2.2.block _ (by rw [World.size_alloc]; omega) (by have := h.lt; omega)).trans hnbox)
  have HN := Lib.hid (now_rp p E l.tail d v us N w2 hp2.1)
  have HM2 := Lib.hid (Mp.trans (Mv.of_below hb1 _) hp2.2)
  have HW2 := Lib.hid hw2; have HRS := Lib.hid hres2; have H94 := Lib.hid h94
  clear h1 hb c0 c2 c3 c6 c7 c8 c9 c10 hp2 hw2 hnbox hres hres2 hsh h hn1 h91 hnl h94
  go_enter Tryz.func116, Tryz.ntmps116
  go_wp2_with fail
  rw [← HW2.out]
  refine HN.out.mono ?_
  rintro e w3 ⟨rfl, h3, m3⟩
  have HBX3 := Lib.hid ((m3.block _ (blk_lt HBX2.out) (by have := HPN.out; omega)).trans HBX2.out)
  have HM3 := Lib.hid (Mp.trans HM2.out m3)
  clear m3 c1 f1 hwr
  have q94 := nowR_94 H94.out
  obtain ⟨neg, hneg⟩ : ∃ neg, neg = false := ⟨_, rfl⟩
  have HST := Lib.hid (show ClsR w w3 p E d v us N neg RES [] l.tail (.slice none 0 0) from ⟨h3, by rw [hneg]; exact HBX3.out, ⟨rfl, .inl ⟨rfl, rfl⟩⟩, HM3.out, by simp; omega, by rw [hneg]; exact HRS.out⟩)
  have HL1 := Lib.hid (show l.tail.length ≤ l.length by omega)
  clear hneg h3
  generalize nowR l.tail = x at q94
  go_wp2_with fail
  go_loopw [] (fun wr => Aside (ClsRel w p E d v us N neg RES l.length wr)) (fun wr => clN E.pl.length p wr)
  case atStart => exact .inl ⟨_, [], _, HST.out, HL1.out⟩
  case round =>
    rcases hrel with ⟨u, acc, l2, hc, hln⟩ | ⟨f, hre, hmv, hres⟩
    · obtain ⟨Au, cu, rfl, hau1, hau2, hau3⟩ := own_rdg hc.row
      have HRP := Lib.hid hc.rp; have HBXr := Lib.hid hc.box; have HOWr := Lib.hid hc.row; have HMR := Lib.hid hc.mv; have hfew := hc.few; have HRES := Lib.hid hc.res
      have HCL := Lib.hid hc.rp.clN
      obtain ⟨top', s', size', plain', bad', hb, e0, e1, e2, e3, e6, e7, e8, e9, e10⟩ := hc.rp.cells
      have HN := Lib.hid (now_rp p E l2 d v us N wr hc.rp)
      clear hc hb e0 e1 e2 e3 e6 e7 e8 e10 hau1
      go_wp2_with fail
      refine HN.out.mono ?_
      rintro e w3 ⟨rfl, h3, m3⟩
      have H3 := Lib.hid h3; have M3 := Lib.hid (Mp.trans HMR.out m3)
      have HOW0 := Lib.hid (own_mv HOWr.out m3 fun k hk e => by have := (HOWr.out.lt k hk).1; have := HPN.out; omega)
      have HBX0 := Lib.hid ((m3.block _ (blk_lt HBXr.out) (by have := HPN.out; omega)).trans HBXr.out)
      have o0 := cell_blk HBX0.out 0
      have o1 := cell_blk HBX0.out 1
      have o2 := cell_blk HBX0.out 2
      have o3 := cell_blk HBX0.out 3
      have o4 := cell_blk HBX0.out 4
      simp only [List.getElem?_toArray, List.getElem?_cons_succ, List.getElem?_cons_zero] at o0 o1 o2 o3 o4
      clear h3 m3 HN e9
      by_cases h93 : nowP l2 = 93
      · rw [nowR_eq h93 (by decide)]
        by_cases hacc : acc = []
        · have HH93 := Lib.hid (show ¬ (acc ≠ [] ∧ nowP l2 = 93) from fun h => h.1 hacc)
          have hz : acc.length = 0 := by rw [hacc]; rfl
          have hg1 : ¬ (0 : Int) < (acc.length : Int) := by omega
          have hg2 : decide ((0 : Int) < (acc.length : Int)) = false := decide_eq_false hg1
          have hg3 : decide (0 < acc.length) = false := decide_eq_false (by omega)
          have HZ := Lib.hid hz
          clear h93 o0 o1 o2 o4 hz hacc
          have HS := Lib.hid (single_is p E l2 d v us N w3 H3.out)
          have HOKL := Lib.hid H3.out.ok
          go_wp2_with fail
          refine HS.out.mono ?_
          intro e w4 ho
          clear HS
          obtain ⟨SG, hsg⟩ : ∃ SG, SG = sngG l2 := ⟨_, rfl⟩
          rw [← hsg] at ho
          cases SG with
          | error f =>
            obtain ⟨rfl, h4, m4⟩ := ho
            have HR := Lib.hid (show RES = .error f by rw [HRES.out, restC_err HOKL.out (member_err hsg.symm) HH93.out]; rfl)
            have H4 := Lib.hid h4; have M4 := Lib.hid (Mp.trans M3.out m4)
            have HOW := Lib.hid (own_mv HOW0.out m4 fun k hk e => by have := (HOW0.out.lt k hk).1; have := HPN.out; omega)
            have HBX := Lib.hid ((m4.block _ (blk_lt HBX0.out) (by have := HPN.out; omega)).trans HBX0.out)
            have n3 := cell_blk HBX.out 3
            simp only [List.getElem?_toArray, List.getElem?_cons_succ, List.getElem?_cons_zero] at n3
            have n3a : ∀ o, (w4.alloc o).cell? ⟨w.heap.size, 3, none⟩ = w4.cell? ⟨w.heap.size, 3, none⟩ := fun o => cell_more (blk_lt HBX.out) o
            rw [n3] at n3a
            have HSZ := Lib.hid (show w.heap.size + 1 ≤ w4.heap.size from blk_lt HBX.out)
            obtain ⟨i, top', s', size', plain', d', hb, e0, e1, e3, e6, e7, e8, e9, e10⟩ := h4.cells
            have he := h4.err
            have f1 : ((f.2 : Int) != 0) = true := by rw [bne_iff_ne]; omega
            have f2 : ((f.2 : Int) == 0) = false := by rw [beq_eq_false_iff_ne]; omega
            obtain ⟨c, hc⟩ : ∃ c : Int, c = 0 := ⟨_, rfl⟩
            clear h4 m4 hb he e0 e1 e3 e6 e7 e8 e10 hsg HOKL
            generalize f.2 = y at e9 f1 f2
            go_wp2_with (first
              | (at_builtin
                 go_must (refine wpList_append_g rfl _ _ 170 181 _ 2 8 infoPair Tryz.underlying170 rfl (by decide) rfl (w.heap.size + 1) (.slice Au acc.length cu) acc.length (spC acc) rfl (HOW.out.alloc _) _ 1 1 (spC [(0, 0)]) rfl (rd_row w4 (spC [(0, 0)]) 181) (spC_len _) (spC_one' _) (by unfold maxLen; omega) (by omega) (by have := HSZ.out; first | omega | (rw [World.size_alloc]; omega)) ?_)
                 intro v4 w9 ho9 hg9
                 have m9 : Mv (fun k => w.heap.size ≤ k) w4 w9 := by first | exact (Mv.refl (fun k => w.heap.size ≤ k) w4).grown hg9 (fun k _ e => by have := (HOW.out.lt k e).1; omega) | exact ((Mv.refl (fun k => w.heap.size ≤ k) w4).alloc _).grown hg9 (fun k _ e => by have := (HOW.out.lt k e).1; omega)
                 have hb9 : w9.heap[w.heap.size]? = some (.cells #[.int .i64 0, .int .i64 0, .int .i64 0, .slice Au acc.length cu, .bool neg] 172 (0, 0)) := by
                   have mo : Mv (fun k => (Value.slice Au acc.length cu).ownBlock = some k) w4 w9 := by first | exact (Mv.refl (fun k => (Value.slice Au acc.length cu).ownBlock = some k) w4).grown hg9 (fun k _ e => e) | exact ((Mv.refl (fun k => (Value.slice Au acc.length cu).ownBlock = some k) w4).alloc _).grown hg9 (fun k _ e => e)
                   exact (mo.block _ (blk_lt HBX.out) (fun e => by have := (HOW.out.lt _ e).1; omega)).trans HBX.out
                 obtain ⟨A4, c4, rfl, -, -, -⟩ := own_rdg ho9
                 have b93 := cell_blk hb9 3
                 have f93 := free_blk hb9 3
                 simp only [List.getElem?_toArray, List.getElem?_cons_succ, List.getElem?_cons_zero] at b93
                 have HC := Lib.hid (And.intro (H4.out.keep HV.out HPN.out (m9.trans (set_high (w := w) (.slice A4 (acc.length + 1) c4) (Nat.le_refl _)) fun _ _ h => h)) (high_p M4.out (m9.trans (set_high (w := w) (.slice A4 (acc.length + 1) c4) (Nat.le_refl _)) fun _ _ h => h)))
                 clear ho9 hg9 m9 hb9)
              | fail)
            go_roundw
            case rel => exact .inr ⟨_, HC.out.1, HC.out.2, HR.out⟩
            case measure => rw [HC.out.1.clN, HCL.out]; omega
          | ok r =>
            obtain ⟨⟨c, g⟩, l3⟩ := r
            obtain ⟨A, k, rfl, hog, h4, m4⟩ := ho
            have hlt := (sng_shr HOKL.out hsg.symm).lt
            have H4 := Lib.hid h4; have M4 := Lib.hid (Mp.trans M3.out m4)
            have HOW := Lib.hid (own_mv HOW0.out m4 fun k hk e => by have := (HOW0.out.lt k hk).1; have := HPN.out; omega)
            have HBX := Lib.hid ((m4.block _ (blk_lt HBX0.out) (by have := HPN.out; omega)).trans HBX0.out)
            obtain ⟨A', k', e', hrd, hgk, hgm⟩ := own_rdg hog
            injection e' with q1 _ q3; subst q1; subst q3
            obtain ⟨top', s', size', plain', bad', hb, e0, e1, e2, e3, e6, e7, e8, e9, e10⟩ := h4.cells
            have f1 := free_blk hb 1
            have HRD := Lib.hid hrd
            by_cases hg : g = []
            · subst hg
              obtain ⟨hc0, hmem⟩ := member_one hsg.symm
              have HMEM := Lib.hid hmem
              have HN4 := Lib.hid (now_rp p E l3 d v us N w4 H4.out)
              clear h4 m4 hb e0 e1 e2 e3 e6 e7 e8 e10 hog hrd hsg HRD f1 hmem
              have HOWp := HOW; have HBXp := HBX
              clear HOW HBX
              go_wp2_with fail
              refine HN4.out.mono ?_
              rintro e w5 ⟨rfl, h5, m5⟩
              have H5 := Lib.hid h5; have M5 := Lib.hid (Mp.trans M4.out m5)
              have HOW := Lib.hid (own_mv HOWp.out m5 fun k hk e => by have := (HOWp.out.lt k hk).1; have := HPN.out; omega)
              have HBX := Lib.hid ((m5.block _ (blk_lt HBXp.out) (by have := HPN.out; omega)).trans HBXp.out)
              clear h5 m5 HN4 e9
              by_cases h45 : nowP l3 = 45
              · have hnr := nowR_eq h45 (by decide)
                rw [hnr]
                have hn1 : nowP l3 ≠ -1 := by rw [h45]; decide
                have hmem := HMEM.out
                rw [if_pos h45] at hmem
                obtain ⟨top', s', size', plain', bad', hb, e0, e1, e2, e3, e6, e7, e8, e9, e10⟩ := H5.out.cells
                have f1 := free_blk hb 1
                have hwr : IntKind.i64.wrap ((E.at' l3 : Int) + 1) = (E.at' l3 : Int) + 1 := by have := H5.out.small; simp [IntKind.wrap, IntKind.bits, IntKind.signed]; omega
                have HP6 := Lib.hid ((H5.out.pass hn1).2 _ rfl)
                have hlt2 := (Shr.tail H5.out.ok hn1).lt
                have hoklt := H5.out.ok.tail hn1
                have HLA := Lib.hid (last_is p E l3.tail d v us N _ HP6.out.1 c hc0)
                have HMEM2 := Lib.hid hmem
                have HOWp := HOW; have HBXp := HBX
                clear hb e0 e1 e2 e3 e6 e7 e8 e9 e10 hmem HMEM hnr hn1 HOW HBX
                obtain ⟨w6, hw6⟩ : ∃ w6, w6 = w5.setCell ⟨p, 1, none⟩ (.int .i64 ((E.at' l3 : Int) + 1)) := ⟨_, rfl⟩
                rw [← hw6] at HP6 HLA
                have HW6 := Lib.hid hw6; clear hw6
                obtain ⟨top2, s2, size2, plain2, bad2, hb2, k0, k1, k2, k3, k6, k7, k8, k9, k10⟩ := H5.out.cells
                clear hb2 k0 k2 k3 k6 k7 k8 k9 k10
                go_wp2_with fail
                rw [← HW6.out]
                refine HLA.out.mono ?_
                intro e w7 ho
                obtain ⟨SL, hsl⟩ : ∃ SL, SL = singleP c l3.tail := ⟨_, rfl⟩
                rw [← hsl] at ho
                have hmem := HMEM2.out
                rw [← hsl] at hmem
                clear HMEM2 HLA k1 f1
                cases SL with
                | error f =>
                  obtain ⟨hi, rfl, h7, m7⟩ := ho
                  have HR := Lib.hid (show RES = .error f by rw [HRES.out, restC_err HOKL.out hmem HH93.out]; rfl)
                  have m57 := Mp.trans HP6.out.2 m7
                  have H7 := Lib.hid h7; have M7 := Lib.hid (Mp.trans M5.out m57)
                  have HOW := Lib.hid (own_mv HOWp.out m57 fun k hk e => by have := (HOWp.out.lt k hk).1; have := HPN.out; omega)
                  have HBX := Lib.hid ((m57.block _ (blk_lt HBXp.out) (by have := HPN.out; omega)).trans HBXp.out)
                  have n3 := cell_blk HBX.out 3
                  simp only [List.getElem?_toArray, List.getElem?_cons_succ, List.getElem?_cons_zero] at n3
                  have n3a : ∀ o, (w7.alloc o).cell? ⟨w.heap.size, 3, none⟩ = w7.cell? ⟨w.heap.size, 3, none⟩ := fun o => cell_more (blk_lt HBX.out) o
                  rw [n3] at n3a
                  have HSZ := Lib.hid (show w.heap.size + 1 ≤ w7.heap.size from blk_lt HBX.out)
                  clear h7 m7 m57 hsl hmem HOKL HOWp HBXp
                  go_wp2_with (first
                    | (at_builtin
                       go_must (refine wpList_append_g rfl _ _ 170 181 _ 2 8 infoPair Tryz.underlying170 rfl (by decide) rfl (w.heap.size + 1) (.slice Au acc.length cu) acc.length (spC acc) rfl (HOW.out.alloc _) _ 1 1 (spC [(c, hi)]) rfl (rd_row w7 (spC [(c, hi)]) 181) (spC_len _) (spC_one' _) (by unfold maxLen; omega) (by omega) (by have := HSZ.out; first | omega | (rw [World.size_alloc]; omega)) ?_)
                       intro v4 w9 ho9 hg9
                       have m9 : Mv (fun k => w.heap.size ≤ k) w7 w9 := by first | exact (Mv.refl (fun k => w.heap.size ≤ k) w7).grown hg9 (fun k _ e => by have := (HOW.out.lt k e).1; omega) | exact ((Mv.refl (fun k => w.heap.size ≤ k) w7).alloc _).grown hg9 (fun k _ e => by have := (HOW.out.lt k e).1; omega)
                       have hb9 : w9.heap[w.heap.size]? = some (.cells #[.int .i64 0, .int .i64 0, .int .i64 0, .slice Au acc.length cu, .bool neg] 172 (0, 0)) := by
                         have mo : Mv (fun k => (Value.slice Au acc.length cu).ownBlock = some k) w7 w9 := by first | exact (Mv.refl (fun k => (Value.slice Au acc.length cu).ownBlock = some k) w7).grown hg9 (fun k _ e => e) | exact ((Mv.refl (fun k => (Value.slice Au acc.length cu).ownBlock = some k) w7).alloc _).grown hg9 (fun k _ e => e)
                         exact (mo.block _ (blk_lt HBX.out) (fun e => by have := (HOW.out.lt _ e).1; omega)).trans HBX.out
                       obtain ⟨A4, c4, rfl, -, -, -⟩ := own_rdg ho9
                       have b93 := cell_blk hb9 3
                       have f93 := free_blk hb9 3
                       simp only [List.getElem?_toArray, List.getElem?_cons_succ, List.getElem?_cons_zero] at b93
                       have HC := Lib.hid (And.intro (H7.out.keep HV.out HPN.out (m9.trans (set_high (w := w) (.slice A4 (acc.length + 1) c4) (Nat.le_refl _)) fun _ _ h => h)) (high_p M7.out (m9.trans (set_high (w := w) (.slice A4 (acc.length + 1) c4) (Nat.le_refl _)) fun _ _ h => h)))
                       clear ho9 hg9 m9 hb9)
                    | fail)
                  go_roundw
                  case rel => exact .inr ⟨_, HC.out.1, HC.out.2, HR.out⟩
                  case measure => rw [HC.out.1.clN, HCL.out]; omega
                | ok r =>
                  obtain ⟨hi, l4⟩ := r
                  obtain ⟨rfl, h7, m7⟩ := ho
                  have hlt3 := (singleP_shr hoklt hc0 hsl.symm).1.lt
                  have HR := Lib.hid (show RES = clsT neg (restC (acc ++ [(c, hi)]) l4) by rw [HRES.out, restC_step HOKL.out hmem (by simp) HH93.out])
                  have m57 := Mp.trans HP6.out.2 m7
                  have H7 := Lib.hid h7; have M7 := Lib.hid (Mp.trans M5.out m57)
                  have HOW := Lib.hid (own_mv HOWp.out m57 fun k hk e => by have := (HOWp.out.lt k hk).1; have := HPN.out; omega)
                  have HBX := Lib.hid ((m57.block _ (blk_lt HBXp.out) (by have := HPN.out; omega)).trans HBXp.out)
                  have n3 := cell_blk HBX.out 3
                  simp only [List.getElem?_toArray, List.getElem?_cons_succ, List.getElem?_cons_zero] at n3
                  have n3a : ∀ o, (w7.alloc o).cell? ⟨w.heap.size, 3, none⟩ = w7.cell? ⟨w.heap.size, 3, none⟩ := fun o => cell_more (blk_lt HBX.out) o
                  rw [n3] at n3a
                  have HSZ := Lib.hid (show w.heap.size + 1 ≤ w7.heap.size from blk_lt HBX.out)
                  clear h7 m7 m57 hsl hmem HOKL HOWp HBXp
                  go_wp2_with (first
                    | (at_builtin
                       go_must (refine wpList_append_g rfl _ _ 170 181 _ 2 8 infoPair Tryz.underlying170 rfl (by decide) rfl (w.heap.size + 1) (.slice Au acc.length cu) acc.length (spC acc) rfl (HOW.out.alloc _) _ 1 1 (spC [(c, hi)]) rfl (rd_row w7 (spC [(c, hi)]) 181) (spC_len _) (spC_one' _) (by unfold maxLen; omega) (by omega) (by have := HSZ.out; first | omega | (rw [World.size_alloc]; omega)) ?_)
                       intro v4 w9 ho9 hg9
                       have m9 : Mv (fun k => w.heap.size ≤ k) w7 w9 := by first | exact (Mv.refl (fun k => w.heap.size ≤ k) w7).grown hg9 (fun k _ e => by have := (HOW.out.lt k e).1; omega) | exact ((Mv.refl (fun k => w.heap.size ≤ k) w7).alloc _).grown hg9 (fun k _ e => by have := (HOW.out.lt k e).1; omega)
                       have hb9 : w9.heap[w.heap.size]? = some (.cells #[.int .i64 0, .int .i64 0, .int .i64 0, .slice Au acc.length cu, .bool neg] 172 (0, 0)) := by
                         have mo : Mv (fun k => (Value.slice Au acc.length cu).ownBlock = some k) w7 w9 := by first | exact (Mv.refl (fun k => (Value.slice Au acc.length cu).ownBlock = some k) w7).grown hg9 (fun k _ e => e) | exact ((Mv.refl (fun k => (Value.slice Au acc.length cu).ownBlock = some k) w7).alloc _).grown hg9 (fun k _ e => e)
                         exact (mo.block _ (blk_lt HBX.out) (fun e => by have := (HOW.out.lt _ e).1; omega)).trans HBX.out
                       obtain ⟨A4, c4, rfl, -, -, -⟩ := own_rdg ho9
                       have b93 := cell_blk hb9 3
                       have f93 := free_blk hb9 3
                       simp only [List.getElem?_toArray, List.getElem?_cons_succ, List.getElem?_cons_zero] at b93
                       have HC := Lib.hid (ClsR.next (m := [(c, hi)]) HV.out HUS.out HPN.out H7.out hb9 m9 M7.out ho9 (by simp; omega) (HR.out))
                       clear ho9 hg9 m9 hb9)
                    | fail)
                  go_roundw
                  case rel => exact .inl ⟨_, _, _, HC.out, by omega⟩
                  case measure => rw [HC.out.rp.clN, HCL.out]; omega
              · have hnr := nowR_45 h45
                have hmem := HMEM.out
                rw [if_neg h45] at hmem
                have HR := Lib.hid (show RES = clsT neg (restC (acc ++ [(c, c)]) l3) by rw [HRES.out, restC_step HOKL.out hmem (by simp) HH93.out])
                have n3 := cell_blk HBX.out 3
                simp only [List.getElem?_toArray, List.getElem?_cons_succ, List.getElem?_cons_zero] at n3
                have n3a : ∀ o, (w5.alloc o).cell? ⟨w.heap.size, 3, none⟩ = w5.cell? ⟨w.heap.size, 3, none⟩ := fun o => cell_more (blk_lt HBX.out) o
                rw [n3] at n3a
                have HSZ := Lib.hid (show w.heap.size + 1 ≤ w5.heap.size from blk_lt HBX.out)
                clear hmem HMEM HOKL h45
                generalize nowR l3 = x at hnr
                go_wp2_with (first
                  | (at_builtin
                     go_must (refine wpList_append_g rfl _ _ 170 181 _ 2 8 infoPair Tryz.underlying170 rfl (by decide) rfl (w.heap.size + 1) (.slice Au acc.length cu) acc.length (spC acc) rfl (HOW.out.alloc _) _ 1 1 (spC [(c, c)]) rfl (rd_row w5 (spC [(c, c)]) 181) (spC_len _) (spC_one' _) (by unfold maxLen; omega) (by omega) (by have := HSZ.out; first | omega | (rw [World.size_alloc]; omega)) ?_)
                     intro v4 w9 ho9 hg9
                     have m9 : Mv (fun k => w.heap.size ≤ k) w5 w9 := by first | exact (Mv.refl (fun k => w.heap.size ≤ k) w5).grown hg9 (fun k _ e => by have := (HOW.out.lt k e).1; omega) | exact ((Mv.refl (fun k => w.heap.size ≤ k) w5).alloc _).grown hg9 (fun k _ e => by have := (HOW.out.lt k e).1; omega)
                     have hb9 : w9.heap[w.heap.size]? = some (.cells #[.int .i64 0, .int .i64 0, .int .i64 0, .slice Au acc.length cu, .bool neg] 172 (0, 0)) := by
                       have mo : Mv (fun k => (Value.slice Au acc.length cu).ownBlock = some k) w5 w9 := by first | exact (Mv.refl (fun k => (Value.slice Au acc.length cu).ownBlock = some k) w5).grown hg9 (fun k _ e => e) | exact ((Mv.refl (fun k => (Value.slice Au acc.length cu).ownBlock = some k) w5).alloc _).grown hg9 (fun k _ e => e)
                       exact (mo.block _ (blk_lt HBX.out) (fun e => by have := (HOW.out.lt _ e).1; omega)).trans HBX.out
                     obtain ⟨A4, c4, rfl, -, -, -⟩ := own_rdg ho9
                     have b93 := cell_blk hb9 3
                     have f93 := free_blk hb9 3
                     simp only [List.getElem?_toArray, List.getElem?_cons_succ, List.getElem?_cons_zero] at b93
                     have HC := Lib.hid (ClsR.next (m := [(c, c)]) HV.out HUS.out HPN.out H5.out hb9 m9 M5.out ho9 (by simp; omega) (HR.out))
                     clear ho9 hg9 m9 hb9)
                  | fail)
                go_roundw
                case rel => exact .inl ⟨_, _, _, HC.out, by omega⟩
                case measure => rw [HC.out.rp.clN, HCL.out]; omega
            · obtain ⟨hmem, hg4⟩ := member_many hsg.symm hg
              have HR := Lib.hid (show RES = clsT neg (restC (acc ++ g) l3) by rw [HRES.out, restC_step HOKL.out hmem hg HH93.out])
              have hgp : 0 < g.length := List.length_pos_iff.2 hg
              have hg0 : ((g.length : Int) == 0) = false := by rw [beq_eq_false_iff_ne]; omega
              have n3 := cell_blk HBX.out 3
              simp only [List.getElem?_toArray, List.getElem?_cons_succ, List.getElem?_cons_zero] at n3
              have HSZ := Lib.hid (show w.heap.size + 1 ≤ w4.heap.size from blk_lt HBX.out)
              clear h4 m4 hb e0 e1 e2 e3 e6 e7 e8 e10 hog hrd hsg hmem HOKL hg f1
              go_wp2_with (first
                | (at_builtin
                   go_must (refine wpList_append_g rfl _ _ 170 181 _ 2 8 infoPair Tryz.underlying170 rfl (by decide) rfl (w.heap.size + 1) (.slice Au acc.length cu) acc.length (spC acc) rfl (HOW.out) _ g.length _ (spC g) rfl (HRD.out) (spC_len _) (spC_one' _) (by unfold maxLen; omega) (by omega) (by have := HSZ.out; first | omega | (rw [World.size_alloc]; omega)) ?_)
                   intro v4 w9 ho9 hg9
                   have m9 : Mv (fun k => w.heap.size ≤ k) w4 w9 := by first | exact (Mv.refl (fun k => w.heap.size ≤ k) w4).grown hg9 (fun k _ e => by have := (HOW.out.lt k e).1; omega) | exact ((Mv.refl (fun k => w.heap.size ≤ k) w4).alloc _).grown hg9 (fun k _ e => by have := (HOW.out.lt k e).1; omega)
                   have hb9 : w9.heap[w.heap.size]? = some (.cells #[.int .i64 0, .int .i64 0, .int .i64 0, .slice Au acc.length cu, .bool neg] 172 (0, 0)) := by
                     have mo : Mv (fun k => (Value.slice Au acc.length cu).ownBlock = some k) w4 w9 := by first | exact (Mv.refl (fun k => (Value.slice Au acc.length cu).ownBlock = some k) w4).grown hg9 (fun k _ e => e) | exact ((Mv.refl (fun k => (Value.slice Au acc.length cu).ownBlock = some k) w4).alloc _).grown hg9 (fun k _ e => e)
                     exact (mo.block _ (blk_lt HBX.out) (fun e => by have := (HOW.out.lt _ e).1; omega)).trans HBX.out
                   obtain ⟨A4, c4, rfl, -, -, -⟩ := own_rdg ho9
                   have b93 := cell_blk hb9 3
                   have f93 := free_blk hb9 3
                   simp only [List.getElem?_toArray, List.getElem?_cons_succ, List.getElem?_cons_zero] at b93
                   have HC := Lib.hid (ClsR.next (m := g) HV.out HUS.out HPN.out H4.out hb9 m9 M4.out ho9 (by omega) (HR.out))
                   clear ho9 hg9 m9 hb9)
                | fail)
              go_roundw
              case rel => exact .inl ⟨_, _, _, HC.out, by omega⟩
              case measure => rw [HC.out.rp.clN, HCL.out]; omega
        · have hap : 0 < acc.length := List.length_pos_iff.2 hacc
          have hg1 : (0 : Int) < (acc.length : Int) := by omega
          have hg2 : decide ((0 : Int) < (acc.length : Int)) = true := decide_eq_true hg1
          have hg3 : decide (0 < acc.length) = true := decide_eq_true hap
          have hn1 : nowP l2 ≠ -1 := by rw [h93]; decide
          have HR := Lib.hid (show RES = .ok (.set acc neg, l2.tail) by rw [HRES.out, restC_end H3.out.ok hacc h93]; rfl)
          obtain ⟨top', s', size', plain', bad', hb, e0, e1, e2, e3, e6, e7, e8, e9, e10⟩ := H3.out.cells
          have f1 := free_blk hb 1
          have hwr : IntKind.i64.wrap ((E.at' l2 : Int) + 1) = (E.at' l2 : Int) + 1 := by have := H3.out.small; simp [IntKind.wrap, IntKind.bits, IntKind.signed]; omega
          have HP4 := Lib.hid ((H3.out.pass hn1).2 _ rfl)
          obtain ⟨w4, hw4⟩ : ∃ w4, w4 = w3.setCell ⟨p, 1, none⟩ (.int .i64 ((E.at' l2 : Int) + 1)) := ⟨_, rfl⟩
          rw [← hw4] at HP4
          have HOW4 := own_mv HOW0.out HP4.out.2 fun k hk e => by have := (HOW0.out.lt k hk).1; have := HPN.out; omega
          have HA := Lib.hid (add_rp p E l2.tail d v us N ⟨0, 0, 0, acc, neg⟩ (.slice Au acc.length cu) w4 HP4.out.1 (HOW4.lower (by have := HPN.out; omega)) HNL.out)
          have HW4 := Lib.hid hw4
          have HLT := Lib.hid (HSH.out _ _ HR.out)
          have hpn1 : w.heap.size ≠ p := by have := HPN.out; omega
          have hpn2 : p ≠ w.heap.size := by have := HPN.out; omega
          have hpn3 : ¬ w.heap.size = p := hpn1
          clear hb e0 e2 e3 e6 e7 e8 e9 e10 hw4 HOW4 hacc hap h93 hn1
          go_wp2_with fail
          rw [← HW4.out]
          refine HA.out.mono ?_
          rintro e w5 ⟨v', rfl, h5, m5⟩
          have H5 := Lib.hid h5; have M5 := Lib.hid m5
          clear h5 m5
          go_wp2
          go_ret
          rw [HR.out]
          exact ⟨N.length, v', _, [⟨0, 0, 0, acc, neg⟩], rfl, H5.out, ⟨_, get_last N _, rfl, rfl, rfl⟩, by have := HLT.out; rw [List.length_append]; simp only [List.length_cons, List.length_nil]; omega, (Mvd.box (Mp.trans M3.out HP4.out.2)).trans M5.out⟩
      · have q93 := nowR_93 h93
        have HH93 := Lib.hid (show ¬ (acc ≠ [] ∧ nowP l2 = 93) from fun h => h93 h.2)
        clear h93 o0 o1 o2 o4
        generalize nowR l2 = x at q93
        have HS := Lib.hid (single_is p E l2 d v us N w3 H3.out)
        have HOKL := Lib.hid H3.out.ok
        go_wp2_with fail
        refine HS.out.mono ?_
        intro e w4 ho
        clear HS
        obtain ⟨SG, hsg⟩ : ∃ SG, SG = sngG l2 := ⟨_, rfl⟩
        rw [← hsg] at ho
        cases SG with
        | error f =>
          obtain ⟨rfl, h4, m4⟩ := ho
          have HR := Lib.hid (show RES = .error f by rw [HRES.out, restC_err HOKL.out (member_err hsg.symm) HH93.out]; rfl)
          have H4 := Lib.hid h4; have M4 := Lib.hid (Mp.trans M3.out m4)
          have HOW := Lib.hid (own_mv HOW0.out m4 fun k hk e => by have := (HOW0.out.lt k hk).1; have := HPN.out; omega)
          have HBX := Lib.hid ((m4.block _ (blk_lt HBX0.out) (by have := HPN.out; omega)).trans HBX0.out)
          have n3 := cell_blk HBX.out 3
          simp only [List.getElem?_toArray, List.getElem?_cons_succ, List.getElem?_cons_zero] at n3
          have n3a : ∀ o, (w4.alloc o).cell? ⟨w.heap.size, 3, none⟩ = w4.cell? ⟨w.heap.size, 3, none⟩ := fun o => cell_more (blk_lt HBX.out) o
          rw [n3] at n3a
          have HSZ := Lib.hid (show w.heap.size + 1 ≤ w4.heap.size from blk_lt HBX.out)
          obtain ⟨i, top', s', size', plain', d', hb, e0, e1, e3, e6, e7, e8, e9, e10⟩ := h4.cells
          have he := h4.err
          have f1 : ((f.2 : Int) != 0) = true := by rw [bne_iff_ne]; omega
          have f2 : ((f.2 : Int) == 0) = false := by rw [beq_eq_false_iff_ne]; omega
          obtain ⟨c, hc⟩ : ∃ c : Int, c = 0 := ⟨_, rfl⟩
          clear h4 m4 hb he e0 e1 e3 e6 e7 e8 e10 hsg HOKL
          generalize f.2 = y at e9 f1 f2
          go_wp2_with (first
            | (at_builtin
               go_must (refine wpList_append_g rfl _ _ 170 181 _ 2 8 infoPair Tryz.underlying170 rfl (by decide) rfl (w.heap.size + 1) (.slice Au acc.length cu) acc.length (spC acc) rfl (HOW.out.alloc _) _ 1 1 (spC [(0, 0)]) rfl (rd_row w4 (spC [(0, 0)]) 181) (spC_len _) (spC_one' _) (by unfold maxLen; omega) (by omega) (by have := HSZ.out; first | omega | (rw [World.size_alloc]; omega)) ?_)
               intro v4 w9 ho9 hg9
               have m9 : Mv (fun k => w.heap.size ≤ k) w4 w9 := by first | exact (Mv.refl (fun k => w.heap.size ≤ k) w4).grown hg9 (fun k _ e => by have := (HOW.out.lt k e).1; omega) | exact ((Mv.refl (fun k => w.heap.size ≤ k) w4).alloc _).grown hg9 (fun k _ e => by have := (HOW.out.lt k e).1; omega)
               have hb9 : w9.heap[w.heap.size]? = some (.cells #[.int .i64 0, .int .i64 0, .int .i64 0, .slice Au acc.length cu, .bool neg] 172 (0, 0)) := by
                 have mo : Mv (fun k => (Value.slice Au acc.length cu).ownBlock = some k) w4 w9 := by first | exact (Mv.refl (fun k => (Value.slice Au acc.length cu).ownBlock = some k) w4).grown hg9 (fun k _ e => e) | exact ((Mv.refl (fun k => (Value.slice Au acc.length cu).ownBlock = some k) w4).alloc _).grown hg9 (fun k _ e => e)
                 exact (mo.block _ (blk_lt HBX.out) (fun e => by have := (HOW.out.lt _ e).1; omega)).trans HBX.out
               obtain ⟨A4, c4, rfl, -, -, -⟩ := own_rdg ho9
               have b93 := cell_blk hb9 3
               have f93 := free_blk hb9 3
               simp only [List.getElem?_toArray, List.getElem?_cons_succ, List.getElem?_cons_zero] at b93
               have HC := Lib.hid (And.intro (H4.out.keep HV.out HPN.out (m9.trans (set_high (w := w) (.slice A4 (acc.length + 1) c4) (Nat.le_refl _)) fun _ _ h => h)) (high_p M4.out (m9.trans (set_high (w := w) (.slice A4 (acc.length + 1) c4) (Nat.le_refl _)) fun _ _ h => h)))
               clear ho9 hg9 m9 hb9)
            | fail)
          go_roundw
          case rel => exact .inr ⟨_, HC.out.1, HC.out.2, HR.out⟩
          case measure => rw [HC.out.1.clN, HCL.out]; omega
        | ok r =>
          obtain ⟨⟨c, g⟩, l3⟩ := r
          obtain ⟨A, k, rfl, hog, h4, m4⟩ := ho
          have hlt := (sng_shr HOKL.out hsg.symm).lt
          have H4 := Lib.hid h4; have M4 := Lib.hid (Mp.trans M3.out m4)
          have HOW := Lib.hid (own_mv HOW0.out m4 fun k hk e => by have := (HOW0.out.lt k hk).1; have := HPN.out; omega)
          have HBX := Lib.hid ((m4.block _ (blk_lt HBX0.out) (by have := HPN.out; omega)).trans HBX0.out)
          obtain ⟨A', k', e', hrd, hgk, hgm⟩ := own_rdg hog
          injection e' with q1 _ q3; subst q1; subst q3
          obtain ⟨top', s', size', plain', bad', hb, e0, e1, e2, e3, e6, e7, e8, e9, e10⟩ := h4.cells
          have f1 := free_blk hb 1
          have HRD := Lib.hid hrd
          by_cases hg : g = []
          · subst hg
            obtain ⟨hc0, hmem⟩ := member_one hsg.symm
            have HMEM := Lib.hid hmem
            have HN4 := Lib.hid (now_rp p E l3 d v us N w4 H4.out)
            clear h4 m4 hb e0 e1 e2 e3 e6 e7 e8 e10 hog hrd hsg HRD f1 hmem
            have HOWp := HOW; have HBXp := HBX
            clear HOW HBX
            go_wp2_with fail
            refine HN4.out.mono ?_
            rintro e w5 ⟨rfl, h5, m5⟩
            have H5 := Lib.hid h5; have M5 := Lib.hid (Mp.trans M4.out m5)
            have HOW := Lib.hid (own_mv HOWp.out m5 fun k hk e => by have := (HOWp.out.lt k hk).1; have := HPN.out; omega)
            have HBX := Lib.hid ((m5.block _ (blk_lt HBXp.out) (by have := HPN.out; omega)).trans HBXp.out)
            clear h5 m5 HN4 e9
            by_cases h45 : nowP l3 = 45
            · have hnr := nowR_eq h45 (by decide)
              rw [hnr]
              have hn1 : nowP l3 ≠ -1 := by rw [h45]; decide
              have hmem := HMEM.out
              rw [if_pos h45] at hmem
              obtain ⟨top', s', size', plain', bad', hb, e0, e1, e2, e3, e6, e7, e8, e9, e10⟩ := H5.out.cells
              have f1 := free_blk hb 1
              have hwr : IntKind.i64.wrap ((E.at' l3 : Int) + 1) = (E.at' l3 : Int) + 1 := by have := H5.out.small; simp [IntKind.wrap, IntKind.bits, IntKind.signed]; omega
              have HP6 := Lib.hid ((H5.out.pass hn1).2 _ rfl)
              have hlt2 := (Shr.tail H5.out.ok hn1).lt
              have hoklt := H5.out.ok.tail hn1
              have HLA := Lib.hid (last_is p E l3.tail d v us N _ HP6.out.1 c hc0)
              have HMEM2 := Lib.hid hmem
              have HOWp := HOW; have HBXp := HBX
              clear hb e0 e1 e2 e3 e6 e7 e8 e9 e10 hmem HMEM hnr hn1 HOW HBX
              obtain ⟨w6, hw6⟩ : ∃ w6, w6 = w5.setCell ⟨p, 1, none⟩ (.int .i64 ((E.at' l3 : Int) + 1)) := ⟨_, rfl⟩
              rw [← hw6] at HP6 HLA
              have HW6 := Lib.hid hw6; clear hw6
              obtain ⟨top2, s2, size2, plain2, bad2, hb2, k0, k1, k2, k3, k6, k7, k8, k9, k10⟩ := H5.out.cells
              clear hb2 k0 k2 k3 k6 k7 k8 k9 k10
              go_wp2_with fail
              rw [← HW6.out]
              refine HLA.out.mono ?_
              intro e w7 ho
              obtain ⟨SL, hsl⟩ : ∃ SL, SL = singleP c l3.tail := ⟨_, rfl⟩
              rw [← hsl] at ho
              have hmem := HMEM2.out
              rw [← hsl] at hmem
              clear HMEM2 HLA k1 f1
              cases SL with
              | error f =>
                obtain ⟨hi, rfl, h7, m7⟩ := ho
                have HR := Lib.hid (show RES = .error f by rw [HRES.out, restC_err HOKL.out hmem HH93.out]; rfl)
                have m57 := Mp.trans HP6.out.2 m7
                have H7 := Lib.hid h7; have M7 := Lib.hid (Mp.trans M5.out m57)
                have HOW := Lib.hid (own_mv HOWp.out m57 fun k hk e => by have := (HOWp.out.lt k hk).1; have := HPN.out; omega)
                have HBX := Lib.hid ((m57.block _ (blk_lt HBXp.out) (by have := HPN.out; omega)).trans HBXp.out)
                have n3 := cell_blk HBX.out 3
                simp only [List.getElem?_toArray, List.getElem?_cons_succ, List.getElem?_cons_zero] at n3
                have n3a : ∀ o, (w7.alloc o).cell? ⟨w.heap.size, 3, none⟩ = w7.cell? ⟨w.heap.size, 3, none⟩ := fun o => cell_more (blk_lt HBX.out) o
                rw [n3] at n3a
                have HSZ := Lib.hid (show w.heap.size + 1 ≤ w7.heap.size from blk_lt HBX.out)
                clear h7 m7 m57 hsl hmem HOKL HOWp HBXp
                go_wp2_with (first
                  | (at_builtin
                     go_must (refine wpList_append_g rfl _ _ 170 181 _ 2 8 infoPair Tryz.underlying170 rfl (by decide) rfl (w.heap.size + 1) (.slice Au acc.length cu) acc.length (spC acc) rfl (HOW.out.alloc _) _ 1 1 (spC [(c, hi)]) rfl (rd_row w7 (spC [(c, hi)]) 181) (spC_len _) (spC_one' _) (by unfold maxLen; omega) (by omega) (by have := HSZ.out; first | omega | (rw [World.size_alloc]; omega)) ?_)
                     intro v4 w9 ho9 hg9
                     have m9 : Mv (fun k => w.heap.size ≤ k) w7 w9 := by first | exact (Mv.refl (fun k => w.heap.size ≤ k) w7).grown hg9 (fun k _ e => by have := (HOW.out.lt k e).1; omega) | exact ((Mv.refl (fun k => w.heap.size ≤ k) w7).alloc _).grown hg9 (fun k _ e => by have := (HOW.out.lt k e).1; omega)
                     have hb9 : w9.heap[w.heap.size]? = some (.cells #[.int .i64 0, .int .i64 0, .int .i64 0, .slice Au acc.length cu, .bool neg] 172 (0, 0)) := by
                       have mo : Mv (fun k => (Value.slice Au acc.length cu).ownBlock = some k) w7 w9 := by first | exact (Mv.refl (fun k => (Value.slice Au acc.length cu).ownBlock = some k) w7).grown hg9 (fun k _ e => e) | exact ((Mv.refl (fun k => (Value.slice Au acc.length cu).ownBlock = some k) w7).alloc _).grown hg9 (fun k _ e => e)
                       exact (mo.block _ (blk_lt HBX.out) (fun e => by have := (HOW.out.lt _ e).1; omega)).trans HBX.out
                     obtain ⟨A4, c4, rfl, -, -, -⟩ := own_rdg ho9
                     have b93 := cell_blk hb9 3
                     have f93 := free_blk hb9 3
                     simp only [List.getElem?_toArray, List.getElem?_cons_succ, List.getElem?_cons_zero] at b93
                     have HC := Lib.hid (And.intro (H7.out.keep HV.out HPN.out (m9.trans (set_high (w := w) (.slice A4 (acc.length + 1) c4) (Nat.le_refl _)) fun _ _ h => h)) (high_p M7.out (m9.trans (set_high (w := w) (.slice A4 (acc.length + 1) c4) (Nat.le_refl _)) fun _ _ h => h)))
                     clear ho9 hg9 m9 hb9)
                  | fail)
                go_roundw
                case rel => exact .inr ⟨_, HC.out.1, HC.out.2, HR.out⟩
                case measure => rw [HC.out.1.clN, HCL.out]; omega
              | ok r =>
                obtain ⟨hi, l4⟩ := r
                obtain ⟨rfl, h7, m7⟩ := ho
                have hlt3 := (singleP_shr hoklt hc0 hsl.symm).1.lt
                have HR := Lib.hid (show RES = clsT neg (restC (acc ++ [(c, hi)]) l4) by rw [HRES.out, restC_step HOKL.out hmem (by simp) HH93.out])
                have m57 := Mp.trans HP6.out.2 m7
                have H7 := Lib.hid h7; have M7 := Lib.hid (Mp.trans M5.out m57)
                have HOW := Lib.hid (own_mv HOWp.out m57 fun k hk e => by have := (HOWp.out.lt k hk).1; have := HPN.out; omega)
                have HBX := Lib.hid ((m57.block _ (blk_lt HBXp.out) (by have := HPN.out; omega)).trans HBXp.out)
                have n3 := cell_blk HBX.out 3
                simp only [List.getElem?_toArray, List.getElem?_cons_succ, List.getElem?_cons_zero] at n3
                have n3a : ∀ o, (w7.alloc o).cell? ⟨w.heap.size, 3, none⟩ = w7.cell? ⟨w.heap.size, 3, none⟩ := fun o => cell_more (blk_lt HBX.out) o
                rw [n3] at n3a
                have HSZ := Lib.hid (show w.heap.size + 1 ≤ w7.heap.size from blk_lt HBX.out)
                clear h7 m7 m57 hsl hmem HOKL HOWp HBXp
                go_wp2_with (first
                  | (at_builtin
                     go_must (refine wpList_append_g rfl _ _ 170 181 _ 2 8 infoPair Tryz.underlying170 rfl (by decide) rfl (w.heap.size + 1) (.slice Au acc.length cu) acc.length (spC acc) rfl (HOW.out.alloc _) _ 1 1 (spC [(c, hi)]) rfl (rd_row w7 (spC [(c, hi)]) 181) (spC_len _) (spC_one' _) (by unfold maxLen; omega) (by omega) (by have := HSZ.out; first | omega | (rw [World.size_alloc]; omega)) ?_)
                     intro v4 w9 ho9 hg9
                     have m9 : Mv (fun k => w.heap.size ≤ k) w7 w9 := by first | exact (Mv.refl (fun k => w.heap.size ≤ k) w7).grown hg9 (fun k _ e => by have := (HOW.out.lt k e).1; omega) | exact ((Mv.refl (fun k => w.heap.size ≤ k) w7).alloc _).grown hg9 (fun k _ e => by have := (HOW.out.lt k e).1; omega)
                     have hb9 : w9.heap[w.heap.size]? = some (.cells #[.int .i64 0, .int .i64 0, .int .i64 0, .slice Au acc.length cu, .bool neg] 172 (0, 0)) := by
                       have mo : Mv (fun k => (Value.slice Au acc.length cu).ownBlock = some k) w7 w9 := by first | exact (Mv.refl (fun k => (Value.slice Au acc.length cu).ownBlock = some k) w7).grown hg9 (fun k _ e => e) | exact ((Mv.refl (fun k => (Value.slice Au acc.length cu).ownBlock = some k) w7).alloc _).grown hg9 (fun k _ e => e)
                       exact (mo.block _ (blk_lt HBX.out) (fun e => by have := (HOW.out.lt _ e).1; omega)).trans HBX.out
                     obtain ⟨A4, c4, rfl, -, -, -⟩ := own_rdg ho9
                     have b93 := cell_blk hb9 3
                     have f93 := free_blk hb9 3
                     simp only [List.getElem?_toArray, List.getElem?_cons_succ, List.getElem?_cons_zero] at b93
                     have HC := Lib.hid (ClsR.next (m := [(c, hi)]) HV.out HUS.out HPN.out H7.out hb9 m9 M7.out ho9 (by simp; omega) (HR.out))
                     clear ho9 hg9 m9 hb9)
                  | fail)
                go_roundw
                case rel => exact .inl ⟨_, _, _, HC.out, by omega⟩
                case measure => rw [HC.out.rp.clN, HCL.out]; omega
            · have hnr := nowR_45 h45
              have hmem := HMEM.out
              rw [if_neg h45] at hmem
              have HR := Lib.hid (show RES = clsT neg (restC (acc ++ [(c, c)]) l3) by rw [HRES.out, restC_step HOKL.out hmem (by simp) HH93.out])
              have n3 := cell_blk HBX.out 3
              simp only [List.getElem?_toArray, List.getElem?_cons_succ, List.getElem?_cons_zero] at n3
              have n3a : ∀ o, (w5.alloc o).cell? ⟨w.heap.size, 3, none⟩ = w5.cell? ⟨w.heap.size, 3, none⟩ := fun o => cell_more (blk_lt HBX.out) o
              rw [n3] at n3a
              have HSZ := Lib.hid (show w.heap.size + 1 ≤ w5.heap.size from blk_lt HBX.out)
              clear hmem HMEM HOKL h45
              generalize nowR l3 = x at hnr
              go_wp2_with (first
                | (at_builtin
                   go_must (refine wpList_append_g rfl _ _ 170 181 _ 2 8 infoPair Tryz.underlying170 rfl (by decide) rfl (w.heap.size + 1) (.slice Au acc.length cu) acc.length (spC acc) rfl (HOW.out.alloc _) _ 1 1 (spC [(c, c)]) rfl (rd_row w5 (spC [(c, c)]) 181) (spC_len _) (spC_one' _) (by unfold maxLen; omega) (by omega) (by have := HSZ.out; first | omega | (rw [World.size_alloc]; omega)) ?_)
                   intro v4 w9 ho9 hg9
                   have m9 : Mv (fun k => w.heap.size ≤ k) w5 w9 := by first | exact (Mv.refl (fun k => w.heap.size ≤ k) w5).grown hg9 (fun k _ e => by have := (HOW.out.lt k e).1; omega) | exact ((Mv.refl (fun k => w.heap.size ≤ k) w5).alloc _).grown hg9 (fun k _ e => by have := (HOW.out.lt k e).1; omega)
                   have hb9 : w9.heap[w.heap.size]? = some (.cells #[.int .i64 0, .int .i64 0, .int .i64 0, .slice Au acc.length cu, .bool neg] 172 (0, 0)) := by
                     have mo : Mv (fun k => (Value.slice Au acc.length cu).ownBlock = some k) w5 w9 := by first | exact (Mv.refl (fun k => (Value.slice Au acc.length cu).ownBlock = some k) w5).grown hg9 (fun k _ e => e) | exact ((Mv.refl (fun k => (Value.slice Au acc.length cu).ownBlock = some k) w5).alloc _).grown hg9 (fun k _ e => e)
                     exact (mo.block _ (blk_lt HBX.out) (fun e => by have := (HOW.out.lt _ e).1; omega)).trans HBX.out
                   obtain ⟨A4, c4, rfl, -, -, -⟩ := own_rdg ho9
                   have b93 := cell_blk hb9 3
                   have f93 := free_blk hb9 3
                   simp only [List.getElem?_toArray, List.getElem?_cons_succ, List.getElem?_cons_zero] at b93
                   have HC := Lib.hid (ClsR.next (m := [(c, c)]) HV.out HUS.out HPN.out H5.out hb9 m9 M5.out ho9 (by simp; omega) (HR.out))
                   clear ho9 hg9 m9 hb9)
                | fail)
              go_roundw
              case rel => exact .inl ⟨_, _, _, HC.out, by omega⟩
              case measure => rw [HC.out.rp.clN, HCL.out]; omega
          · obtain ⟨hmem, hg4⟩ := member_many hsg.symm hg
            have HR := Lib.hid (show RES = clsT neg (restC (acc ++ g) l3) by rw [HRES.out, restC_step HOKL.out hmem hg HH93.out])
            have hgp : 0 < g.length := List.length_pos_iff.2 hg
            have hg0 : ((g.length : Int) == 0) = false := by rw [beq_eq_false_iff_ne]; omega
            have n3 := cell_blk HBX.out 3
            simp only [List.getElem?_toArray, List.getElem?_cons_succ, List.getElem?_cons_zero] at n3
            have HSZ := Lib.hid (show w.heap.size + 1 ≤ w4.heap.size from blk_lt HBX.out)
            clear h4 m4 hb e0 e1 e2 e3 e6 e7 e8 e10 hog hrd hsg hmem HOKL hg f1
            go_wp2_with (first
              | (at_builtin
                 go_must (refine wpList_append_g rfl _ _ 170 181 _ 2 8 infoPair Tryz.underlying170 rfl (by decide) rfl (w.heap.size + 1) (.slice Au acc.length cu) acc.length (spC acc) rfl (HOW.out) _ g.length _ (spC g) rfl (HRD.out) (spC_len _) (spC_one' _) (by unfold maxLen; omega) (by omega) (by have := HSZ.out; first | omega | (rw [World.size_alloc]; omega)) ?_)
                 intro v4 w9 ho9 hg9
                 have m9 : Mv (fun k => w.heap.size ≤ k) w4 w9 := by first | exact (Mv.refl (fun k => w.heap.size ≤ k) w4).grown hg9 (fun k _ e => by have := (HOW.out.lt k e).1; omega) | exact ((Mv.refl (fun k => w.heap.size ≤ k) w4).alloc _).grown hg9 (fun k _ e => by have := (HOW.out.lt k e).1; omega)
                 have hb9 : w9.heap[w.heap.size]? = some (.cells #[.int .i64 0, .int .i64 0, .int .i64 0, .slice Au acc.length cu, .bool neg] 172 (0, 0)) := by
                   have mo : Mv (fun k => (Value.slice Au acc.length cu).ownBlock = some k) w4 w9 := by first | exact (Mv.refl (fun k => (Value.slice Au acc.length cu).ownBlock = some k) w4).grown hg9 (fun k _ e => e) | exact ((Mv.refl (fun k => (Value.slice Au acc.length cu).ownBlock = some k) w4).alloc _).grown hg9 (fun k _ e => e)
                   exact (mo.block _ (blk_lt HBX.out) (fun e => by have := (HOW.out.lt _ e).1; omega)).trans HBX.out
                 obtain ⟨A4, c4, rfl, -, -, -⟩ := own_rdg ho9
                 have b93 := cell_blk hb9 3
                 have f93 := free_blk hb9 3
                 simp only [List.getElem?_toArray, List.getElem?_cons_succ, List.getElem?_cons_zero] at b93
                 have HC := Lib.hid (ClsR.next (m := g) HV.out HUS.out HPN.out H4.out hb9 m9 M4.out ho9 (by omega) (HR.out))
                 clear ho9 hg9 m9 hb9)
              | fail)
            go_roundw
            case rel => exact .inl ⟨_, _, _, HC.out, by omega⟩
            case measure => rw [HC.out.rp.clN, HCL.out]; omega
    · obtain ⟨i, top', s', size', plain', d', hb, e0, e1, e3, e6, e7, e8, e9, e10⟩ := hre.cells
      have he := hre.err
      have f1 : ((f.2 : Int) != 0) = true := by rw [bne_iff_ne]; omega
      have f2 : ((f.2 : Int) == 0) = false := by rw [beq_eq_false_iff_ne]; omega
      have HRE := Lib.hid hre; have HMR := Lib.hid hmv; have HR := Lib.hid hres
      clear hre hmv hres hb he e0 e1 e3 e6 e7 e8 e10
      generalize f.2 = y at e9 f1 f2
      go_wp2
      go_ret
      rw [HR.out]
      exact ⟨0, v, rfl, HRE.out, Mvd.box HMR.out⟩
theorem class_neg (p : Nat) (E : Env) (l : List Pc) (d : Nat) (v : Value) (us : List Value) (N : List Nd) (w : World) (h : RP w p E l d v us N) (h91 : nowP l = 91) (h94 : nowP l.tail = 94) (hnl : N.length ≤ 3000) : Calls Tryz.prog 116 #[.pointer (some ⟨p, 0, none⟩)] w (OutN p E d v N (N.length + 4 * l.length - 2) N.length w (classP l)) := by
  have hn1 : nowP l ≠ -1 := by rw [h91]; decide
  have hsh := fun t l' e => (classP_shr h.ok hn1 (r := t) (l1 := l') e).lt
  obtain ⟨RES, hres⟩ : ∃ RES, RES = classP l := ⟨_, rfl⟩
  rw [← hres] at hsh ⊢
  have hres2 := hres
  rw [classP_eq, decide_eq_true h94] at hres2
  simp only [if_true, Bool.false_eq_true, if_false] at hres2
  have HSH := Lib.hid hsh; have HNL := Lib.hid hnl
  have HV := Lib.hid (fun k hk => (h.ns.row.lt k hk).2)
  have HUS := Lib.hid (show ∀ (i : Nat) (u : Value), us[i]? = some u → ∀ k, u.ownBlock = some k → k < w.heap.size from fun i u hu k hk => by
    have hi : i < N.length := by rw [← h.ns.len]; exact (List.getElem?_eq_some_iff.mp hu).1
    exact ((h.ns.sp i u N[i] hu (List.getElem?_eq_getElem hi)).lt k hk).2)
  have HPN := Lib.hid h.lt
  have hb1 : Below w.heap.size w (w.alloc (.cells #[.int .i64 0, .int .i64 0, .int .i64 0, .slice none 0 0, .bool false] 172)) := (RowKit.Below.refl _ w).alloc (Nat.le_refl _) _
  have h1 := h.below hb1
  have hnbox := heap_alloc_new w (.cells #[.int .i64 0, .int .i64 0, .int .i64 0, .slice none 0 0, .bool false] 172)
  obtain ⟨top, s, size, plain, bad, hb, c0, c1, c2, c3, c6, c7, c8, c9, c10⟩ := h1.cells
  have f1 := free_blk hb 1
  have hwr : IntKind.i64.wrap ((E.at' l : Int) + 1) = (E.at' l : Int) + 1 := by have := h.small; simp [IntKind.wrap, IntKind.bits, IntKind.signed]; omega
  have hp2 := (h1.pass hn1).2 _ rfl
  have hlt1 := (Shr.tail h.ok hn1).lt
  have hls : l.length ≤ 1001 := by
    have h4 := places_len (bl E.s) 0
    rw [bl_len] at h4
    have h5 : E.pl.length ≤ E.s.size + 1 := h4
    have := h.suf.length_le
    have := h.few
    omega
  have HOK1 := Lib.hid (h.ok.tail hn1)
  obtain ⟨w2, hw2⟩ : ∃ w2, w2 = (w.alloc (.cells #[.int .i64 0, .int .i64 0, .int .i64 0, .slice none 0 0, .bool false] 172)).setCell ⟨p, 1, none⟩ (.int .i64 ((E.at' l : Int) + 1)) := ⟨_, rfl⟩
  rw [← hw2] at hp2
  have HBX2 := Lib.hid ((hp2.2.block _ (by rw [World.size_alloc]; omega) (by have := h.lt; omega)).trans hnbox)
  have HN := Lib.hid (now_rp p E l.tail d v us N w2 hp2.1)
  have HM2 := Lib.hid (Mp.trans (Mv.of_below hb1 _) hp2.2)
  have HW2 := Lib.hid hw2; have HRS := Lib.hid hres2; have H94 := Lib.hid h94
  clear h1 hb c0 c2 c3 c6 c7 c8 c9 c10 hp2 hw2 hnbox hres hres2 hsh h hn1 h91 hnl h94
  go_enter Tryz.func116, Tryz.ntmps116
  go_wp2_with fail
  rw [← HW2.out]
  refine HN.out.mono ?_
  rintro e w3 ⟨rfl, h3, m3⟩
  have HBX3 := Lib.hid ((m3.block _ (blk_lt HBX2.out) (by have := HPN.out; omega)).trans HBX2.out)
  have HM3 := Lib.hid (Mp.trans HM2.out m3)
  clear m3 c1 f1 hwr
  rw [nowR_eq H94.out (by decide)]
  obtain ⟨neg, hneg⟩ : ∃ neg, neg = true := ⟨_, rfl⟩
  have hn2 : nowP l.tail ≠ -1 := by rw [H94.out]; decide
  -- the box of the class, turned
  obtain ⟨w4, hw4⟩ : ∃ w4, w4 = w3.setCell ⟨w.heap.size, 4, none⟩ (.bool true) := ⟨_, rfl⟩
  have m4 : Mv (fun k => w.heap.size ≤ k) w3 w4 := by rw [hw4]; exact (Mv.refl (fun k => w.heap.size ≤ k) w3).setCell (p := ⟨w.heap.size, 4, none⟩) (fun _ => Nat.le_refl _) _
  have h4 := h3.keep HV.out HUS.out HPN.out m4
  have hbx4 : w4.heap[w.heap.size]? = some (.cells #[.int .i64 0, .int .i64 0, .int .i64 0, .slice none 0 0, .bool true] 172 (0, 0)) := by rw [hw4]; exact set_blk HBX3.out 4 (.bool true)
  have y4 := cell_blk HBX3.out 4
  have g4 := free_blk HBX3.out 4
  simp only [List.getElem?_toArray, List.getElem?_cons_succ, List.getElem?_cons_zero] at y4
  obtain ⟨top, s, size, plain, bad, hb, c0, c1, c2, c3, c6, c7, c8, c9, c10⟩ := h4.cells
  have f1 := free_blk hb 1
  have hwr : IntKind.i64.wrap ((E.at' l.tail : Int) + 1) = (E.at' l.tail : Int) + 1 := by have := h4.small; simp [IntKind.wrap, IntKind.bits, IntKind.signed]; omega
  have hp5 := (h4.pass hn2).2 _ rfl
  obtain ⟨w5, hw5⟩ : ∃ w5, w5 = w4.setCell ⟨p, 1, none⟩ (.int .i64 ((E.at' l.tail : Int) + 1)) := ⟨_, rfl⟩
  rw [← hw5] at hp5
  have hlt2 := (Shr.tail HOK1.out hn2).lt
  have HST := Lib.hid (show ClsR w w5 p E d v us N neg RES [] l.tail.tail (.slice none 0 0) from ⟨hp5.1, by rw [hneg]; exact (hp5.2.block _ (blk_lt hbx4) (by have := HPN.out; omega)).trans hbx4, ⟨rfl, .inl ⟨rfl, rfl⟩⟩, Mp.trans (high_p HM3.out m4) hp5.2, by simp at *; omega, by rw [hneg]; exact HRS.out⟩)
  have HL1 := Lib.hid (show l.tail.tail.length ≤ l.length by omega)
  rw [hw4] at c1 f1
  have HW5 := Lib.hid (show w5 = (w3.setCell ⟨w.heap.size, 4, none⟩ (.bool true)).setCell ⟨p, 1, none⟩ (.int .i64 ((E.at' l.tail : Int) + 1)) by rw [hw5, hw4])
  clear hneg h3 h4 hb c0 c2 c3 c6 c7 c8 c9 c10 hp5 hw5 hw4 m4 hbx4 hn2 hlt2
  go_wp2_with fail
  rw [← HW5.out]
  clear y4 g4 c1 f1 hwr
  go_loopw [] (fun wr => Aside (ClsRel w p E d v us N neg RES l.length wr)) (fun wr => clN E.pl.length p wr)
  case atStart => exact .inl ⟨_, [], _, HST.out, HL1.out⟩
  case round =>
    rcases hrel with ⟨u, acc, l2, hc, hln⟩ | ⟨f, hre, hmv, hres⟩
    · obtain ⟨Au, cu, rfl, hau1, hau2, hau3⟩ := own_rdg hc.row
      have HRP := Lib.hid hc.rp; have HBXr := Lib.hid hc.box; have HOWr := Lib.hid hc.row; have HMR := Lib.hid hc.mv; have hfew := hc.few; have HRES := Lib.hid hc.res
      have HCL := Lib.hid hc.rp.clN
      obtain ⟨top', s', size', plain', bad', hb, e0, e1, e2, e3, e6, e7, e8, e9, e10⟩ := hc.rp.cells
      have HN := Lib.hid (now_rp p E l2 d v us N wr hc.rp)
      clear hc hb e0 e1 e2 e3 e6 e7 e8 e10 hau1
      go_wp2_with fail
      refine HN.out.mono ?_
      rintro e w3 ⟨rfl, h3, m3⟩
      have H3 := Lib.hid h3; have M3 := Lib.hid (Mp.trans HMR.out m3)
      have HOW0 := Lib.hid (own_mv HOWr.out m3 fun k hk e => by have := (HOWr.out.lt k hk).1; have := HPN.out; omega)
      have HBX0 := Lib.hid ((m3.block _ (blk_lt HBXr.out) (by have := HPN.out; omega)).trans HBXr.out)
      have o0 := cell_blk HBX0.out 0
      have o1 := cell_blk HBX0.out 1
      have o2 := cell_blk HBX0.out 2
      have o3 := cell_blk HBX0.out 3
      have o4 := cell_blk HBX0.out 4
      simp only [List.getElem?_toArray, List.getElem?_cons_succ, List.getElem?_cons_zero] at o0 o1 o2 o3 o4
      clear h3 m3 HN e9
      by_cases h93 : nowP l2 = 93
      · rw [nowR_eq h93 (by decide)]
        by_cases hacc : acc = []
        · have HH93 := Lib.hid (show ¬ (acc ≠ [] ∧ nowP l2 = 93) from fun h => h.1 hacc)
          have hz : acc.length = 0 := by rw [hacc]; rfl
          have hg1 : ¬ (0 : Int) < (acc.length : Int) := by omega
          have hg2 : decide ((0 : Int) < (acc.length : Int)) = false := decide_eq_false hg1
          have hg3 : decide (0 < acc.length) = false := decide_eq_false (by omega)
          have HZ := Lib.hid hz
          clear h93 o0 o1 o2 o4 hz hacc
          have HS := Lib.hid (single_is p E l2 d v us N w3 H3.out)
          have HOKL := Lib.hid H3.out.ok
          go_wp2_with fail
          refine HS.out.mono ?_
          intro e w4 ho
          clear HS
          obtain ⟨SG, hsg⟩ : ∃ SG, SG = sngG l2 := ⟨_, rfl⟩
          rw [← hsg] at ho
          cases SG with
          | error f =>
            obtain ⟨rfl, h4, m4⟩ := ho
            have HR := Lib.hid (show RES = .error f by rw [HRES.out, restC_err HOKL.out (member_err hsg.symm) HH93.out]; rfl)
            have H4 := Lib.hid h4; have M4 := Lib.hid (Mp.trans M3.out m4)
            have HOW := Lib.hid (own_mv HOW0.out m4 fun k hk e => by have := (HOW0.out.lt k hk).1; have := HPN.out; omega)
            have HBX := Lib.hid ((m4.block _ (blk_lt HBX0.out) (by have := HPN.out; omega)).trans HBX0.out)
            have n3 := cell_blk HBX.out 3
            simp only [List.getElem?_toArray, List.getElem?_cons_succ, List.getElem?_cons_zero] at n3
            have n3a : ∀ o, (w4.alloc o).cell? ⟨w.heap.size, 3, none⟩ = w4.cell? ⟨w.heap.size, 3, none⟩ := fun o => cell_more (blk_lt HBX.out) o
            rw [n3] at n3a
            have HSZ := Lib.hid (show w.heap.size + 1 ≤ w4.heap.size from blk_lt HBX.out)
            obtain ⟨i, top', s', size', plain', d', hb, e0, e1, e3, e6, e7, e8, e9, e10⟩ := h4.cells
            have he := h4.err
            have f1 : ((f.2 : Int) != 0) = true := by rw [bne_iff_ne]; omega
            have f2 : ((f.2 : Int) == 0) = false := by rw [beq_eq_false_iff_ne]; omega
            obtain ⟨c, hc⟩ : ∃ c : Int, c = 0 := ⟨_, rfl⟩
            clear h4 m4 hb he e0 e1 e3 e6 e7 e8 e10 hsg HOKL
            generalize f.2 = y at e9 f1 f2
            go_wp2_with (first
              | (at_builtin
                 go_must (refine wpList_append_g rfl _ _ 170 181 _ 2 8 infoPair Tryz.underlying170 rfl (by decide) rfl (w.heap.size + 1) (.slice Au acc.length cu) acc.length (spC acc) rfl (HOW.out.alloc _) _ 1 1 (spC [(0, 0)]) rfl (rd_row w4 (spC [(0, 0)]) 181) (spC_len _) (spC_one' _) (by unfold maxLen; omega) (by omega) (by have := HSZ.out; first | omega | (rw [World.size_alloc]; omega)) ?_)
                 intro v4 w9 ho9 hg9
                 have m9 : Mv (fun k => w.heap.size ≤ k) w4 w9 := by first | exact (Mv.refl (fun k => w.heap.size ≤ k) w4).grown hg9 (fun k _ e => by have := (HOW.out.lt k e).1; omega) | exact ((Mv.refl (fun k => w.heap.size ≤ k) w4).alloc _).grown hg9 (fun k _ e => by have := (HOW.out.lt k e).1; omega)
                 have hb9 : w9.heap[w.heap.size]? = some (.cells #[.int .i64 0, .int .i64 0, .int .i64 0, .slice Au acc.length cu, .bool neg] 172 (0, 0)) := by
                   have mo : Mv (fun k => (Value.slice Au acc.length cu).ownBlock = some k) w4 w9 := by first | exact (Mv.refl (fun k => (Value.slice Au acc.length cu).ownBlock = some k) w4).grown hg9 (fun k _ e => e) | exact ((Mv.refl (fun k => (Value.slice Au acc.length cu).ownBlock = some k) w4).alloc _).grown hg9 (fun k _ e => e)
                   exact (mo.block _ (blk_lt HBX.out) (fun e => by have := (HOW.out.lt _ e).1; omega)).trans HBX.out
                 obtain ⟨A4, c4, rfl, -, -, -⟩ := own_rdg ho9
                 have b93 := cell_blk hb9 3
                 have f93 := free_blk hb9 3
                 simp only [List.getElem?_toArray, List.getElem?_cons_succ, List.getElem?_cons_zero] at b93
                 have HC := Lib.hid (And.intro (H4.out.keep HV.out HPN.out (m9.trans (set_high (w := w) (.slice A4 (acc.length + 1) c4) (Nat.le_refl _)) fun _ _ h => h)) (high_p M4.out (m9.trans (set_high (w := w) (.slice A4 (acc.length + 1) c4) (Nat.le_refl _)) fun _ _ h => h)))
                 clear ho9 hg9 m9 hb9)
              | fail)
            go_roundw
            case rel => exact .inr ⟨_, HC.out.1, HC.out.2, HR.out⟩
            case measure => rw [HC.out.1.clN, HCL.out]; omega
          | ok r =>
            obtain ⟨⟨c, g⟩, l3⟩ := r
            obtain ⟨A, k, rfl, hog, h4, m4⟩ := ho
            have hlt := (sng_shr HOKL.out hsg.symm).lt
            have H4 := Lib.hid h4; have M4 := Lib.hid (Mp.trans M3.out m4)
            have HOW := Lib.hid (own_mv HOW0.out m4 fun k hk e => by have := (HOW0.out.lt k hk).1; have := HPN.out; omega)
            have HBX := Lib.hid ((m4.block _ (blk_lt HBX0.out) (by have := HPN.out; omega)).trans HBX0.out)
            obtain ⟨A', k', e', hrd, hgk, hgm⟩ := own_rdg hog
            injection e' with q1 _ q3; subst q1; subst q3
            obtain ⟨top', s', size', plain', bad', hb, e0, e1, e2, e3, e6, e7, e8, e9, e10⟩ := h4.cells
            have f1 := free_blk hb 1
            have HRD := Lib.hid hrd
            by_cases hg : g = []
            · subst hg
              obtain ⟨hc0, hmem⟩ := member_one hsg.symm
              have HMEM := Lib.hid hmem
              have HN4 := Lib.hid (now_rp p E l3 d v us N w4 H4.out)
              clear h4 m4 hb e0 e1 e2 e3 e6 e7 e8 e10 hog hrd hsg HRD f1 hmem
              have HOWp := HOW; have HBXp := HBX
              clear HOW HBX
              go_wp2_with fail
              refine HN4.out.mono ?_
              rintro e w5 ⟨rfl, h5, m5⟩
              have H5 := Lib.hid h5; have M5 := Lib.hid (Mp.trans M4.out m5)
              have HOW := Lib.hid (own_mv HOWp.out m5 fun k hk e => by have := (HOWp.out.lt k hk).1; have := HPN.out; omega)
              have HBX := Lib.hid ((m5.block _ (blk_lt HBXp.out) (by have := HPN.out; omega)).trans HBXp.out)
              clear h5 m5 HN4 e9
              by_cases h45 : nowP l3 = 45
              · have hnr := nowR_eq h45 (by decide)
                rw [hnr]
                have hn1 : nowP l3 ≠ -1 := by rw [h45]; decide
                have hmem := HMEM.out
                rw [if_pos h45] at hmem
                obtain ⟨top', s', size', plain', bad', hb, e0, e1, e2, e3, e6, e7, e8, e9, e10⟩ := H5.out.cells
                have f1 := free_blk hb 1
                have hwr : IntKind.i64.wrap ((E.at' l3 : Int) + 1) = (E.at' l3 : Int) + 1 := by have := H5.out.small; simp [IntKind.wrap, IntKind.bits, IntKind.signed]; omega
                have HP6 := Lib.hid ((H5.out.pass hn1).2 _ rfl)
                have hlt2 := (Shr.tail H5.out.ok hn1).lt
                have hoklt := H5.out.ok.tail hn1
                have HLA := Lib.hid (last_is p E l3.tail d v us N _ HP6.out.1 c hc0)
                have HMEM2 := Lib.hid hmem
                have HOWp := HOW; have HBXp := HBX
                clear hb e0 e1 e2 e3 e6 e7 e8 e9 e10 hmem HMEM hnr hn1 HOW HBX
                obtain ⟨w6, hw6⟩ : ∃ w6, w6 = w5.setCell ⟨p, 1, none⟩ (.int .i64 ((E.at' l3 : Int) + 1)) := ⟨_, rfl⟩
                rw [← hw6] at HP6 HLA
                have HW6 := Lib.hid hw6; clear hw6
                obtain ⟨top2, s2, size2, plain2, bad2, hb2, k0, k1, k2, k3, k6, k7, k8, k9, k10⟩ := H5.out.cells
                clear hb2 k0 k2 k3 k6 k7 k8 k9 k10
                go_wp2_with fail
                rw [← HW6.out]
                refine HLA.out.mono ?_
                intro e w7 ho
                obtain ⟨SL, hsl⟩ : ∃ SL, SL = singleP c l3.tail := ⟨_, rfl⟩
                rw [← hsl] at ho
                have hmem := HMEM2.out
                rw [← hsl] at hmem
                clear HMEM2 HLA k1 f1
                cases SL with
                | error f =>
                  obtain ⟨hi, rfl, h7, m7⟩ := ho
                  have HR := Lib.hid (show RES = .error f by rw [HRES.out, restC_err HOKL.out hmem HH93.out]; rfl)
                  have m57 := Mp.trans HP6.out.2 m7
                  have H7 := Lib.hid h7; have M7 := Lib.hid (Mp.trans M5.out m57)
                  have HOW := Lib.hid (own_mv HOWp.out m57 fun k hk e => by have := (HOWp.out.lt k hk).1; have := HPN.out; omega)
                  have HBX := Lib.hid ((m57.block _ (blk_lt HBXp.out) (by have := HPN.out; omega)).trans HBXp.out)
                  have n3 := cell_blk HBX.out 3
                  simp only [List.getElem?_toArray, List.getElem?_cons_succ, List.getElem?_cons_zero] at n3
                  have n3a : ∀ o, (w7.alloc o).cell? ⟨w.heap.size, 3, none⟩ = w7.cell? ⟨w.heap.size, 3, none⟩ := fun o => cell_more (blk_lt HBX.out) o
                  rw [n3] at n3a
                  have HSZ := Lib.hid (show w.heap.size + 1 ≤ w7.heap.size from blk_lt HBX.out)
                  clear h7 m7 m57 hsl hmem HOKL HOWp HBXp
                  go_wp2_with (first
                    | (at_builtin
                       go_must (refine wpList_append_g rfl _ _ 170 181 _ 2 8 infoPair Tryz.underlying170 rfl (by decide) rfl (w.heap.size + 1) (.slice Au acc.length cu) acc.length (spC acc) rfl (HOW.out.alloc _) _ 1 1 (spC [(c, hi)]) rfl (rd_row w7 (spC [(c, hi)]) 181) (spC_len _) (spC_one' _) (by unfold maxLen; omega) (by omega) (by have := HSZ.out; first | omega | (rw [World.size_alloc]; omega)) ?_)
                       intro v4 w9 ho9 hg9
                       have m9 : Mv (fun k => w.heap.size ≤ k) w7 w9 := by first | exact (Mv.refl (fun k => w.heap.size ≤ k) w7).grown hg9 (fun k _ e => by have := (HOW.out.lt k e).1; omega) | exact ((Mv.refl (fun k => w.heap.size ≤ k) w7).alloc _).grown hg9 (fun k _ e => by have := (HOW.out.lt k e).1; omega)
                       have hb9 : w9.heap[w.heap.size]? = some (.cells #[.int .i64 0, .int .i64 0, .int .i64 0, .slice Au acc.length cu, .bool neg] 172 (0, 0)) := by
                         have mo : Mv (fun k => (Value.slice Au acc.length cu).ownBlock = some k) w7 w9 := by first | exact (Mv.refl (fun k => (Value.slice Au acc.length cu).ownBlock = some k) w7).grown hg9 (fun k _ e => e) | exact ((Mv.refl (fun k => (Value.slice Au acc.length cu).ownBlock = some k) w7).alloc _).grown hg9 (fun k _ e => e)
                         exact (mo.block _ (blk_lt HBX.out) (fun e => by have := (HOW.out.lt _ e).1; omega)).trans HBX.out
                       obtain ⟨A4, c4, rfl, -, -, -⟩ := own_rdg ho9
                       have b93 := cell_blk hb9 3
                       have f93 := free_blk hb9 3
                       simp only [List.getElem?_toArray, List.getElem?_cons_succ, List.getElem?_cons_zero] at b93
                       have HC := Lib.hid (And.intro (H7.out.keep HV.out HPN.out (m9.trans (set_high (w := w) (.slice A4 (acc.length + 1) c4) (Nat.le_refl _)) fun _ _ h => h)) (high_p M7.out (m9.trans (set_high (w := w) (.slice A4 (acc.length + 1) c4) (Nat.le_refl _)) fun _ _ h => h)))
                       clear ho9 hg9 m9 hb9)
                    | fail)
                  go_roundw
                  case rel => exact .inr ⟨_, HC.out.1, HC.out.2, HR.out⟩
                  case measure => rw [HC.out.1.clN, HCL.out]; omega
                | ok r =>
                  obtain ⟨hi, l4⟩ := r
                  obtain ⟨rfl, h7, m7⟩ := ho
                  have hlt3 := (singleP_shr hoklt hc0 hsl.symm).1.lt
                  have HR := Lib.hid (show RES = clsT neg (restC (acc ++ [(c, hi)]) l4) by rw [HRES.out, restC_step HOKL.out hmem (by simp) HH93.out])
                  have m57 := Mp.trans HP6.out.2 m7
                  have H7 := Lib.hid h7; have M7 := Lib.hid (Mp.trans M5.out m57)
                  have HOW := Lib.hid (own_mv HOWp.out m57 fun k hk e => by have := (HOWp.out.lt k hk).1; have := HPN.out; omega)
                  have HBX := Lib.hid ((m57.block _ (blk_lt HBXp.out) (by have := HPN.out; omega)).trans HBXp.out)
                  have n3 := cell_blk HBX.out 3
                  simp only [List.getElem?_toArray, List.getElem?_cons_succ, List.getElem?_cons_zero] at n3
                  have n3a : ∀ o, (w7.alloc o).cell? ⟨w.heap.size, 3, none⟩ = w7.cell? ⟨w.heap.size, 3, none⟩ := fun o => cell_more (blk_lt HBX.out) o
                  rw [n3] at n3a
                  have HSZ := Lib.hid (show w.heap.size + 1 ≤ w7.heap.size from blk_lt HBX.out)
                  clear h7 m7 m57 hsl hmem HOKL HOWp HBXp
                  go_wp2_with (first
                    | (at_builtin
                       go_must (refine wpList_append_g rfl _ _ 170 181 _ 2 8 infoPair Tryz.underlying170 rfl (by decide) rfl (w.heap.size + 1) (.slice Au acc.length cu) acc.length (spC acc) rfl (HOW.out.alloc _) _ 1 1 (spC [(c, hi)]) rfl (rd_row w7 (spC [(c, hi)]) 181) (spC_len _) (spC_one' _) (by unfold maxLen; omega) (by omega) (by have := HSZ.out; first | omega | (rw [World.size_alloc]; omega)) ?_)
                       intro v4 w9 ho9 hg9
                       have m9 : Mv (fun k => w.heap.size ≤ k) w7 w9 := by first | exact (Mv.refl (fun k => w.heap.size ≤ k) w7).grown hg9 (fun k _ e => by have := (HOW.out.lt k e).1; omega) | exact ((Mv.refl (fun k => w.heap.size ≤ k) w7).alloc _).grown hg9 (fun k _ e => by have := (HOW.out.lt k e).1; omega)
                       have hb9 : w9.heap[w.heap.size]? = some (.cells #[.int .i64 0, .int .i64 0, .int .i64 0, .slice Au acc.length cu, .bool neg] 172 (0, 0)) := by
                         have mo : Mv (fun k => (Value.slice Au acc.length cu).ownBlock = some k) w7 w9 := by first | exact (Mv.refl (fun k => (Value.slice Au acc.length cu).ownBlock = some k) w7).grown hg9 (fun k _ e => e) | exact ((Mv.refl (fun k => (Value.slice Au acc.length cu).ownBlock = some k) w7).alloc _).grown hg9 (fun k _ e => e)
                         exact (mo.block _ (blk_lt HBX.out) (fun e => by have := (HOW.out.lt _ e).1; omega)).trans HBX.out
                       obtain ⟨A4, c4, rfl, -, -, -⟩ := own_rdg ho9
                       have b93 := cell_blk hb9 3
                       have f93 := free_blk hb9 3
                       simp only [List.getElem?_toArray, List.getElem?_cons_succ, List.getElem?_cons_zero] at b93
                       have HC := Lib.hid (ClsR.next (m := [(c, hi)]) HV.out HUS.out HPN.out H7.out hb9 m9 M7.out ho9 (by simp; omega) (HR.out))
                       clear ho9 hg9 m9 hb9)
                    | fail)
                  go_roundw
                  case rel => exact .inl ⟨_, _, _, HC.out, by omega⟩
                  case measure => rw [HC.out.rp.clN, HCL.out]; omega
              · have hnr := nowR_45 h45
                have hmem := HMEM.out
                rw [if_neg h45] at hmem
                have HR := Lib.hid (show RES = clsT neg (restC (acc ++ [(c, c)]) l3) by rw [HRES.out, restC_step HOKL.out hmem (by simp) HH93.out])
                have n3 := cell_blk HBX.out 3
                simp only [List.getElem?_toArray, List.getElem?_cons_succ, List.getElem?_cons_zero] at n3
                have n3a : ∀ o, (w5.alloc o).cell? ⟨w.heap.size, 3, none⟩ = w5.cell? ⟨w.heap.size, 3, none⟩ := fun o => cell_more (blk_lt HBX.out) o
                rw [n3] at n3a
                have HSZ := Lib.hid (show w.heap.size + 1 ≤ w5.heap.size from blk_lt HBX.out)
                clear hmem HMEM HOKL h45
                generalize nowR l3 = x at hnr
                go_wp2_with (first
                  | (at_builtin
                     go_must (refine wpList_append_g rfl _ _ 170 181 _ 2 8 infoPair Tryz.underlying170 rfl (by decide) rfl (w.heap.size + 1) (.slice Au acc.length cu) acc.length (spC acc) rfl (HOW.out.alloc _) _ 1 1 (spC [(c, c)]) rfl (rd_row w5 (spC [(c, c)]) 181) (spC_len _) (spC_one' _) (by unfold maxLen; omega) (by omega) (by have := HSZ.out; first | omega | (rw [World.size_alloc]; omega)) ?_)
                     intro v4 w9 ho9 hg9
                     have m9 : Mv (fun k => w.heap.size ≤ k) w5 w9 := by first | exact (Mv.refl (fun k => w.heap.size ≤ k) w5).grown hg9 (fun k _ e => by have := (HOW.out.lt k e).1; omega) | exact ((Mv.refl (fun k => w.heap.size ≤ k) w5).alloc _).grown hg9 (fun k _ e => by have := (HOW.out.lt k e).1; omega)
                     have hb9 : w9.heap[w.heap.size]? = some (.cells #[.int .i64 0, .int .i64 0, .int .i64 0, .slice Au acc.length cu, .bool neg] 172 (0, 0)) := by
                       have mo : Mv (fun k => (Value.slice Au acc.length cu).ownBlock = some k) w5 w9 := by first | exact (Mv.refl (fun k => (Value.slice Au acc.length cu).ownBlock = some k) w5).grown hg9 (fun k _ e => e) | exact ((Mv.refl (fun k => (Value.slice Au acc.length cu).ownBlock = some k) w5).alloc _).grown hg9 (fun k _ e => e)
                       exact (mo.block _ (blk_lt HBX.out) (fun e => by have := (HOW.out.lt _ e).1; omega)).trans HBX.out
                     obtain ⟨A4, c4, rfl, -, -, -⟩ := own_rdg ho9
                     have b93 := cell_blk hb9 3
                     have f93 := free_blk hb9 3
                     simp only [List.getElem?_toArray, List.getElem?_cons_succ, List.getElem?_cons_zero] at b93
                     have HC := Lib.hid (ClsR.next (m := [(c, c)]) HV.out HUS.out HPN.out H5.out hb9 m9 M5.out ho9 (by simp; omega) (HR.out))
                     clear ho9 hg9 m9 hb9)
                  | fail)
                go_roundw
                case rel => exact .inl ⟨_, _, _, HC.out, by omega⟩
                case measure => rw [HC.out.rp.clN, HCL.out]; omega
            · obtain ⟨hmem, hg4⟩ := member_many hsg.symm hg
              have HR := Lib.hid (show RES = clsT neg (restC (acc ++ g) l3) by rw [HRES.out, restC_step HOKL.out hmem hg HH93.out])
              have hgp : 0 < g.length := List.length_pos_iff.2 hg
              have hg0 : ((g.length : Int) == 0) = false := by rw [beq_eq_false_iff_ne]; omega
              have n3 := cell_blk HBX.out 3
              simp only [List.getElem?_toArray, List.getElem?_cons_succ, List.getElem?_cons_zero] at n3
              have HSZ := Lib.hid (show w.heap.size + 1 ≤ w4.heap.size from blk_lt HBX.out)
              clear h4 m4 hb e0 e1 e2 e3 e6 e7 e8 e10 hog hrd hsg hmem HOKL hg f1
              go_wp2_with (first
                | (at_builtin
                   go_must (refine wpList_append_g rfl _ _ 170 181 _ 2 8 infoPair Tryz.underlying170 rfl (by decide) rfl (w.heap.size + 1) (.slice Au acc.length cu) acc.length (spC acc) rfl (HOW.out) _ g.length _ (spC g) rfl (HRD.out) (spC_len _) (spC_one' _) (by unfold maxLen; omega) (by omega) (by have := HSZ.out; first | omega | (rw [World.size_alloc]; omega)) ?_)
                   intro v4 w9 ho9 hg9
                   have m9 : Mv (fun k => w.heap.size ≤ k) w4 w9 := by first | exact (Mv.refl (fun k => w.heap.size ≤ k) w4).grown hg9 (fun k _ e => by have := (HOW.out.lt k e).1; omega) | exact ((Mv.refl (fun k => w.heap.size ≤ k) w4).alloc _).grown hg9 (fun k _ e => by have := (HOW.out.lt k e).1; omega)
                   have hb9 : w9.heap[w.heap.size]? = some (.cells #[.int .i64 0, .int .i64 0, .int .i64 0, .slice Au acc.length cu, .bool neg] 172 (0, 0)) := by
                     have mo : Mv (fun k => (Value.slice Au acc.length cu).ownBlock = some k) w4 w9 := by first | exact (Mv.refl (fun k => (Value.slice Au acc.length cu).ownBlock = some k) w4).grown hg9 (fun k _ e => e) | exact ((Mv.refl (fun k => (Value.slice Au acc.length cu).ownBlock = some k) w4).alloc _).grown hg9 (fun k _ e => e)
                     exact (mo.block _ (blk_lt HBX.out) (fun e => by have := (HOW.out.lt _ e).1; omega)).trans HBX.out
                   obtain ⟨A4, c4, rfl, -, -, -⟩ := own_rdg ho9
                   have b93 := cell_blk hb9 3
                   have f93 := free_blk hb9 3
                   simp only [List.getElem?_toArray, List.getElem?_cons_succ, List.getElem?_cons_zero] at b93
                   have HC := Lib.hid (ClsR.next (m := g) HV.out HUS.out HPN.out H4.out hb9 m9 M4.out ho9 (by omega) (HR.out))
                   clear ho9 hg9 m9 hb9)
                | fail)
              go_roundw
              case rel => exact .inl ⟨_, _, _, HC.out, by omega⟩
              case measure => rw [HC.out.rp.clN, HCL.out]; omega
        · have hap : 0 < acc.length := List.length_pos_iff.2 hacc
          have hg1 : (0 : Int) < (acc.length : Int) := by omega
          have hg2 : decide ((0 : Int) < (acc.length : Int)) = true := decide_eq_true hg1
          have hg3 : decide (0 < acc.length) = true := decide_eq_true hap
          have hn1 : nowP l2 ≠ -1 := by rw [h93]; decide
          have HR := Lib.hid (show RES = .ok (.set acc neg, l2.tail) by rw [HRES.out, restC_end H3.out.ok hacc h93]; rfl)
          obtain ⟨top', s', size', plain', bad', hb, e0, e1, e2, e3, e6, e7, e8, e9, e10⟩ := H3.out.cells
          have f1 := free_blk hb 1
          have hwr : IntKind.i64.wrap ((E.at' l2 : Int) + 1) = (E.at' l2 : Int) + 1 := by have := H3.out.small; simp [IntKind.wrap, IntKind.bits, IntKind.signed]; omega
          have HP4 := Lib.hid ((H3.out.pass hn1).2 _ rfl)
          obtain ⟨w4, hw4⟩ : ∃ w4, w4 = w3.setCell ⟨p, 1, none⟩ (.int .i64 ((E.at' l2 : Int) + 1)) := ⟨_, rfl⟩
          rw [← hw4] at HP4
          have HOW4 := own_mv HOW0.out HP4.out.2 fun k hk e => by have := (HOW0.out.lt k hk).1; have := HPN.out; omega
          have HA := Lib.hid (add_rp p E l2.tail d v us N ⟨0, 0, 0, acc, neg⟩ (.slice Au acc.length cu) w4 HP4.out.1 (HOW4.lower (by have := HPN.out; omega)) HNL.out)
          have HW4 := Lib.hid hw4
          have HLT := Lib.hid (HSH.out _ _ HR.out)
          have hpn1 : w.heap.size ≠ p := by have := HPN.out; omega
          have hpn2 : p ≠ w.heap.size := by have := HPN.out; omega
          have hpn3 : ¬ w.heap.size = p := hpn1
          clear hb e0 e2 e3 e6 e7 e8 e9 e10 hw4 HOW4 hacc hap h93 hn1
          go_wp2_with fail
          rw [← HW4.out]
          refine HA.out.mono ?_
          rintro e w5 ⟨v', rfl, h5, m5⟩
          have H5 := Lib.hid h5; have M5 := Lib.hid m5
          clear h5 m5
          go_wp2
          go_ret
          rw [HR.out]
          exact ⟨N.length, v', _, [⟨0, 0, 0, acc, neg⟩], rfl, H5.out, ⟨_, get_last N _, rfl, rfl, rfl⟩, by have := HLT.out; rw [List.length_append]; simp only [List.length_cons, List.length_nil]; omega, (Mvd.box (Mp.trans M3.out HP4.out.2)).trans M5.out⟩
      · have q93 := nowR_93 h93
        have HH93 := Lib.hid (show ¬ (acc ≠ [] ∧ nowP l2 = 93) from fun h => h93 h.2)
        clear h93 o0 o1 o2 o4
        generalize nowR l2 = x at q93
        have HS := Lib.hid (single_is p E l2 d v us N w3 H3.out)
        have HOKL := Lib.hid H3.out.ok
        go_wp2_with fail
        refine HS.out.mono ?_
        intro e w4 ho
        clear HS
        obtain ⟨SG, hsg⟩ : ∃ SG, SG = sngG l2 := ⟨_, rfl⟩
        rw [← hsg] at ho
        cases SG with
        | error f =>
          obtain ⟨rfl, h4, m4⟩ := ho
          have HR := Lib.hid (show RES = .error f by rw [HRES.out, restC_err HOKL.out (member_err hsg.symm) HH93.out]; rfl)
          have H4 := Lib.hid h4; have M4 := Lib.hid (Mp.trans M3.out m4)
          have HOW := Lib.hid (own_mv HOW0.out m4 fun k hk e => by have := (HOW0.out.lt k hk).1; have := HPN.out; omega)
          have HBX := Lib.hid ((m4.block _ (blk_lt HBX0.out) (by have := HPN.out; omega)).trans HBX0.out)
          have n3 := cell_blk HBX.out 3
          simp only [List.getElem?_toArray, List.getElem?_cons_succ, List.getElem?_cons_zero] at n3
          have n3a : ∀ o, (w4.alloc o).cell? ⟨w.heap.size, 3, none⟩ = w4.cell? ⟨w.heap.size, 3, none⟩ := fun o => cell_more (blk_lt HBX.out) o
          rw [n3] at n3a
          have HSZ := Lib.hid (show w.heap.size + 1 ≤ w4.heap.size from blk_lt HBX.out)
          obtain ⟨i, top', s', size', plain', d', hb, e0, e1, e3, e6, e7, e8, e9, e10⟩ := h4.cells
          have he := h4.err
          have f1 : ((f.2 : Int) != 0) = true := by rw [bne_iff_ne]; omega
          have f2 : ((f.2 : Int) == 0) = false := by rw [beq_eq_false_iff_ne]; omega
          obtain ⟨c, hc⟩ : ∃ c : Int, c = 0 := ⟨_, rfl⟩
          clear h4 m4 hb he e0 e1 e3 e6 e7 e8 e10 hsg HOKL
          generalize f.2 = y at e9 f1 f2
          go_wp2_with (first
            | (at_builtin
               go_must (refine wpList_append_g rfl _ _ 170 181 _ 2 8 infoPair Tryz.underlying170 rfl (by decide) rfl (w.heap.size + 1) (.slice Au acc.length cu) acc.length (spC acc) rfl (HOW.out.alloc _) _ 1 1 (spC [(0, 0)]) rfl (rd_row w4 (spC [(0, 0)]) 181) (spC_len _) (spC_one' _) (by unfold maxLen; omega) (by omega) (by have := HSZ.out; first | omega | (rw [World.size_alloc]; omega)) ?_)
               intro v4 w9 ho9 hg9
               have m9 : Mv (fun k => w.heap.size ≤ k) w4 w9 := by first | exact (Mv.refl (fun k => w.heap.size ≤ k) w4).grown hg9 (fun k _ e => by have := (HOW.out.lt k e).1; omega) | exact ((Mv.refl (fun k => w.heap.size ≤ k) w4).alloc _).grown hg9 (fun k _ e => by have := (HOW.out.lt k e).1; omega)
               have hb9 : w9.heap[w.heap.size]? = some (.cells #[.int .i64 0, .int .i64 0, .int .i64 0, .slice Au acc.length cu, .bool neg] 172 (0, 0)) := by
                 have mo : Mv (fun k => (Value.slice Au acc.length cu).ownBlock = some k) w4 w9 := by first | exact (Mv.refl (fun k => (Value.slice Au acc.length cu).ownBlock = some k) w4).grown hg9 (fun k _ e => e) | exact ((Mv.refl (fun k => (Value.slice Au acc.length cu).ownBlock = some k) w4).alloc _).grown hg9 (fun k _ e => e)
                 exact (mo.block _ (blk_lt HBX.out) (fun e => by have := (HOW.out.lt _ e).1; omega)).trans HBX.out
               obtain ⟨A4, c4, rfl, -, -, -⟩ := own_rdg ho9
               have b93 := cell_blk hb9 3
               have f93 := free_blk hb9 3
               simp only [List.getElem?_toArray, List.getElem?_cons_succ, List.getElem?_cons_zero] at b93
               have HC := Lib.hid (And.intro (H4.out.keep HV.out HPN.out (m9.trans (set_high (w := w) (.slice A4 (acc.length + 1) c4) (Nat.le_refl _)) fun _ _ h => h)) (high_p M4.out (m9.trans (set_high (w := w) (.slice A4 (acc.length + 1) c4) (Nat.le_refl _)) fun _ _ h => h)))
               clear ho9 hg9 m9 hb9)
            | fail)
          go_roundw
          case rel => exact .inr ⟨_, HC.out.1, HC.out.2, HR.out⟩
          case measure => rw [HC.out.1.clN, HCL.out]; omega
        | ok r =>
          obtain ⟨⟨c, g⟩, l3⟩ := r
          obtain ⟨A, k, rfl, hog, h4, m4⟩ := ho
          have hlt := (sng_shr HOKL.out hsg.symm).lt
          have H4 := Lib.hid h4; have M4 := Lib.hid (Mp.trans M3.out m4)
          have HOW := Lib.hid (own_mv HOW0.out m4 fun k hk e => by have := (HOW0.out.lt k hk).1; have := HPN.out; omega)
          have HBX := Lib.hid ((m4.block _ (blk_lt HBX0.out) (by have := HPN.out; omega)).trans HBX0.out)
          obtain ⟨A', k', e', hrd, hgk, hgm⟩ := own_rdg hog
          injection e' with q1 _ q3; subst q1; subst q3
          obtain ⟨top', s', size', plain', bad', hb, e0, e1, e2, e3, e6, e7, e8, e9, e10⟩ := h4.cells
          have f1 := free_blk hb 1
          have HRD := Lib.hid hrd
          by_cases hg : g = []
          · subst hg
            obtain ⟨hc0, hmem⟩ := member_one hsg.symm
            have HMEM := Lib.hid hmem
            have HN4 := Lib.hid (now_rp p E l3 d v us N w4 H4.out)
            clear h4 m4 hb e0 e1 e2 e3 e6 e7 e8 e10 hog hrd hsg HRD f1 hmem
            have HOWp := HOW; have HBXp := HBX
            clear HOW HBX
            go_wp2_with fail
            refine HN4.out.mono ?_
            rintro e w5 ⟨rfl, h5, m5⟩
            have H5 := Lib.hid h5; have M5 := Lib.hid (Mp.trans M4.out m5)
            have HOW := Lib.hid (own_mv HOWp.out m5 fun k hk e => by have := (HOWp.out.lt k hk).1; have := HPN.out; omega)
            have HBX := Lib.hid ((m5.block _ (blk_lt HBXp.out) (by have := HPN.out; omega)).trans HBXp.out)
            clear h5 m5 HN4 e9
            by_cases h45 : nowP l3 = 45
            · have hnr := nowR_eq h45 (by decide)
              rw [hnr]
              have hn1 : nowP l3 ≠ -1 := by rw [h45]; decide
              have hmem := HMEM.out
              rw [if_pos h45] at hmem
              obtain ⟨top', s', size', plain', bad', hb, e0, e1, e2, e3, e6, e7, e8, e9, e10⟩ := H5.out.cells
              have f1 := free_blk hb 1
              have hwr : IntKind.i64.wrap ((E.at' l3 : Int) + 1) = (E.at' l3 : Int) + 1 := by have := H5.out.small; simp [IntKind.wrap, IntKind.bits, IntKind.signed]; omega
              have HP6 := Lib.hid ((H5.out.pass hn1).2 _ rfl)
              have hlt2 := (Shr.tail H5.out.ok hn1).lt
              have hoklt := H5.out.ok.tail hn1
              have HLA := Lib.hid (last_is p E l3.tail d v us N _ HP6.out.1 c hc0)
              have HMEM2 := Lib.hid hmem
              have HOWp := HOW; have HBXp := HBX
              clear hb e0 e1 e2 e3 e6 e7 e8 e9 e10 hmem HMEM hnr hn1 HOW HBX
              obtain ⟨w6, hw6⟩ : ∃ w6, w6 = w5.setCell ⟨p, 1, none⟩ (.int .i64 ((E.at' l3 : Int) + 1)) := ⟨_, rfl⟩
              rw [← hw6] at HP6 HLA
              have HW6 := Lib.hid hw6; clear hw6
              obtain ⟨top2, s2, size2, plain2, bad2, hb2, k0, k1, k2, k3, k6, k7, k8, k9, k10⟩ := H5.out.cells
              clear hb2 k0 k2 k3 k6 k7 k8 k9 k10
              go_wp2_with fail
              rw [← HW6.out]
              refine HLA.out.mono ?_
              intro e w7 ho
              obtain ⟨SL, hsl⟩ : ∃ SL, SL = singleP c l3.tail := ⟨_, rfl⟩
              rw [← hsl] at ho
              have hmem := HMEM2.out
              rw [← hsl] at hmem
              clear HMEM2 HLA k1 f1
              cases SL with
              | error f =>
                obtain ⟨hi, rfl, h7, m7⟩ := ho
                have HR := Lib.hid (show RES = .error f by rw [HRES.out, restC_err HOKL.out hmem HH93.out]; rfl)
                have m57 := Mp.trans HP6.out.2 m7
                have H7 := Lib.hid h7; have M7 := Lib.hid (Mp.trans M5.out m57)
                have HOW := Lib.hid (own_mv HOWp.out m57 fun k hk e => by have := (HOWp.out.lt k hk).1; have := HPN.out; omega)
                have HBX := Lib.hid ((m57.block _ (blk_lt HBXp.out) (by have := HPN.out; omega)).trans HBXp.out)
                have n3 := cell_blk HBX.out 3
                simp only [List.getElem?_toArray, List.getElem?_cons_succ, List.getElem?_cons_zero] at n3
                have n3a : ∀ o, (w7.alloc o).cell? ⟨w.heap.size, 3, none⟩ = w7.cell? ⟨w.heap.size, 3, none⟩ := fun o => cell_more (blk_lt HBX.out) o
                rw [n3] at n3a
                have HSZ := Lib.hid (show w.heap.size + 1 ≤ w7.heap.size from blk_lt HBX.out)
                clear h7 m7 m57 hsl hmem HOKL HOWp HBXp
                go_wp2_with (first
                  | (at_builtin
                     go_must (refine wpList_append_g rfl _ _ 170 181 _ 2 8 infoPair Tryz.underlying170 rfl (by decide) rfl (w.heap.size + 1) (.slice Au acc.length cu) acc.length (spC acc) rfl (HOW.out.alloc _) _ 1 1 (spC [(c, hi)]) rfl (rd_row w7 (spC [(c, hi)]) 181) (spC_len _) (spC_one' _) (by unfold maxLen; omega) (by omega) (by have := HSZ.out; first | omega | (rw [World.size_alloc]; omega)) ?_)
                     intro v4 w9 ho9 hg9
                     have m9 : Mv (fun k => w.heap.size ≤ k) w7 w9 := by first | exact (Mv.refl (fun k => w.heap.size ≤ k) w7).grown hg9 (fun k _ e => by have := (HOW.out.lt k e).1; omega) | exact ((Mv.refl (fun k => w.heap.size ≤ k) w7).alloc _).grown hg9 (fun k _ e => by have := (HOW.out.lt k e).1; omega)
                     have hb9 : w9.heap[w.heap.size]? = some (.cells #[.int .i64 0, .int .i64 0, .int .i64 0, .slice Au acc.length cu, .bool neg] 172 (0, 0)) := by
                       have mo : Mv (fun k => (Value.slice Au acc.length cu).ownBlock = some k) w7 w9 := by first | exact (Mv.refl (fun k => (Value.slice Au acc.length cu).ownBlock = some k) w7).grown hg9 (fun k _ e => e) | exact ((Mv.refl (fun k => (Value.slice Au acc.length cu).ownBlock = some k) w7).alloc _).grown hg9 (fun k _ e => e)
                       exact (mo.block _ (blk_lt HBX.out) (fun e => by have := (HOW.out.lt _ e).1; omega)).trans HBX.out
                     obtain ⟨A4, c4, rfl, -, -, -⟩ := own_rdg ho9
                     have b93 := cell_blk hb9 3
                     have f93 := free_blk hb9 3
                     simp only [List.getElem?_toArray, List.getElem?_cons_succ, List.getElem?_cons_zero] at b93
                     have HC := Lib.hid (And.intro (H7.out.keep HV.out HPN.out (m9.trans (set_high (w := w) (.slice A4 (acc.length + 1) c4) (Nat.le_refl _)) fun _ _ h => h)) (high_p M7.out (m9.trans (set_high (w := w) (.slice A4 (acc.length + 1) c4) (Nat.le_refl _)) fun _ _ h => h)))
                     clear ho9 hg9 m9 hb9)
                  | fail)
                go_roundw
                case rel => exact .inr ⟨_, HC.out.1, HC.out.2, HR.out⟩
                case measure => rw [HC.out.1.clN, HCL.out]; omega
              | ok r =>
                obtain ⟨hi, l4⟩ := r
                obtain ⟨rfl, h7, m7⟩ := ho
                have hlt3 := (singleP_shr hoklt hc0 hsl.symm).1.lt
                have HR := Lib.hid (show RES = clsT neg (restC (acc ++ [(c, hi)]) l4) by rw [HRES.out, restC_step HOKL.out hmem (by simp) HH93.out])
                have m57 := Mp.trans HP6.out.2 m7
                have H7 := Lib.hid h7; have M7 := Lib.hid (Mp.trans M5.out m57)
                have HOW := Lib.hid (own_mv HOWp.out m57 fun k hk e => by have := (HOWp.out.lt k hk).1; have := HPN.out; omega)
                have HBX := Lib.hid ((m57.block _ (blk_lt HBXp.out) (by have := HPN.out; omega)).trans HBXp.out)
                have n3 := cell_blk HBX.out 3
                simp only [List.getElem?_toArray, List.getElem?_cons_succ, List.getElem?_cons_zero] at n3
                have n3a : ∀ o, (w7.alloc o).cell? ⟨w.heap.size, 3, none⟩ = w7.cell? ⟨w.heap.size, 3, none⟩ := fun o => cell_more (blk_lt HBX.out) o
                rw [n3] at n3a
                have HSZ := Lib.hid (show w.heap.size + 1 ≤ w7.heap.size from blk_lt HBX.out)
                clear h7 m7 m57 hsl hmem HOKL HOWp HBXp
                go_wp2_with (first
                  | (at_builtin
                     go_must (refine wpList_append_g rfl _ _ 170 181 _ 2 8 infoPair Tryz.underlying170 rfl (by decide) rfl (w.heap.size + 1) (.slice Au acc.length cu) acc.length (spC acc) rfl (HOW.out.alloc _) _ 1 1 (spC [(c, hi)]) rfl (rd_row w7 (spC [(c, hi)]) 181) (spC_len _) (spC_one' _) (by unfold maxLen; omega) (by omega) (by have := HSZ.out; first | omega | (rw [World.size_alloc]; omega)) ?_)
                     intro v4 w9 ho9 hg9
                     have m9 : Mv (fun k => w.heap.size ≤ k) w7 w9 := by first | exact (Mv.refl (fun k => w.heap.size ≤ k) w7).grown hg9 (fun k _ e => by have := (HOW.out.lt k e).1; omega) | exact ((Mv.refl (fun k => w.heap.size ≤ k) w7).alloc _).grown hg9 (fun k _ e => by have := (HOW.out.lt k e).1; omega)
                     have hb9 : w9.heap[w.heap.size]? = some (.cells #[.int .i64 0, .int .i64 0, .int .i64 0, .slice Au acc.length cu, .bool neg] 172 (0, 0)) := by
                       have mo : Mv (fun k => (Value.slice Au acc.length cu).ownBlock = some k) w7 w9 := by first | exact (Mv.refl (fun k => (Value.slice Au acc.length cu).ownBlock = some k) w7).grown hg9 (fun k _ e => e) | exact ((Mv.refl (fun k => (Value.slice Au acc.length cu).ownBlock = some k) w7).alloc _).grown hg9 (fun k _ e => e)
                       exact (mo.block _ (blk_lt HBX.out) (fun e => by have := (HOW.out.lt _ e).1; omega)).trans HBX.out
                     obtain ⟨A4, c4, rfl, -, -, -⟩ := own_rdg ho9
                     have b93 := cell_blk hb9 3
                     have f93 := free_blk hb9 3
                     simp only [List.getElem?_toArray, List.getElem?_cons_succ, List.getElem?_cons_zero] at b93
                     have HC := Lib.hid (ClsR.next (m := [(c, hi)]) HV.out HUS.out HPN.out H7.out hb9 m9 M7.out ho9 (by simp; omega) (HR.out))
                     clear ho9 hg9 m9 hb9)
                  | fail)
                go_roundw
                case rel => exact .inl ⟨_, _, _, HC.out, by omega⟩
                case measure => rw [HC.out.rp.clN, HCL.out]; omega
            · have hnr := nowR_45 h45
              have hmem := HMEM.out
              rw [if_neg h45] at hmem
              have HR := Lib.hid (show RES = clsT neg (restC (acc ++ [(c, c)]) l3) by rw [HRES.out, restC_step HOKL.out hmem (by simp) HH93.out])
              have n3 := cell_blk HBX.out 3
              simp only [List.getElem?_toArray, List.getElem?_cons_succ, List.getElem?_cons_zero] at n3
              have n3a : ∀ o, (w5.alloc o).cell? ⟨w.heap.size, 3, none⟩ = w5.cell? ⟨w.heap.size, 3, none⟩ := fun o => cell_more (blk_lt HBX.out) o
              rw [n3] at n3a
              have HSZ := Lib.hid (show w.heap.size + 1 ≤ w5.heap.size from blk_lt HBX.out)
              clear hmem HMEM HOKL h45
              generalize nowR l3 = x at hnr
              go_wp2_with (first
                | (at_builtin
                   go_must (refine wpList_append_g rfl _ _ 170 181 _ 2 8 infoPair Tryz.underlying170 rfl (by decide) rfl (w.heap.size + 1) (.slice Au acc.length cu) acc.length (spC acc) rfl (HOW.out.alloc _) _ 1 1 (spC [(c, c)]) rfl (rd_row w5 (spC [(c, c)]) 181) (spC_len _) (spC_one' _) (by unfold maxLen; omega) (by omega) (by have := HSZ.out; first | omega | (rw [World.size_alloc]; omega)) ?_)
                   intro v4 w9 ho9 hg9
                   have m9 : Mv (fun k => w.heap.size ≤ k) w5 w9 := by first | exact (Mv.refl (fun k => w.heap.size ≤ k) w5).grown hg9 (fun k _ e => by have := (HOW.out.lt k e).1; omega) | exact ((Mv.refl (fun k => w.heap.size ≤ k) w5).alloc _).grown hg9 (fun k _ e => by have := (HOW.out.lt k e).1; omega)
                   have hb9 : w9.heap[w.heap.size]? = some (.cells #[.int .i64 0, .int .i64 0, .int .i64 0, .slice Au acc.length cu, .bool neg] 172 (0, 0)) := by
                     have mo : Mv (fun k => (Value.slice Au acc.length cu).ownBlock = some k) w5 w9 := by first | exact (Mv.refl (fun k => (Value.slice Au acc.length cu).ownBlock = some k) w5).grown hg9 (fun k _ e => e) | exact ((Mv.refl (fun k => (Value.slice Au acc.length cu).ownBlock = some k) w5).alloc _).grown hg9 (fun k _ e => e)
                     exact (mo.block _ (blk_lt HBX.out) (fun e => by have := (HOW.out.lt _ e).1; omega)).trans HBX.out
                   obtain ⟨A4, c4, rfl, -, -, -⟩ := own_rdg ho9
                   have b93 := cell_blk hb9 3
                   have f93 := free_blk hb9 3
                   simp only [List.getElem?_toArray, List.getElem?_cons_succ, List.getElem?_cons_zero] at b93
                   have HC := Lib.hid (ClsR.next (m := [(c, c)]) HV.out HUS.out HPN.out H5.out hb9 m9 M5.out ho9 (by simp; omega) (HR.out))
                   clear ho9 hg9 m9 hb9)
                | fail)
              go_roundw
              case rel => exact .inl ⟨_, _, _, HC.out, by omega⟩
              case measure => rw [HC.out.rp.clN, HCL.out]; omega
          · obtain ⟨hmem, hg4⟩ := member_many hsg.symm hg
            have HR := Lib.hid (show RES = clsT neg (restC (acc ++ g) l3) by rw [HRES.out, restC_step HOKL.out hmem hg HH93.out])
            have hgp : 0 < g.length := List.length_pos_iff.2 hg
            have hg0 : ((g.length : Int) == 0) = false := by rw [beq_eq_false_iff_ne]; omega
            have n3 := cell_blk HBX.out 3
            simp only [List.getElem?_toArray, List.getElem?_cons_succ, List.getElem?_cons_zero] at n3
            have HSZ := Lib.hid (show w.heap.size + 1 ≤ w4.heap.size from blk_lt HBX.out)
            clear h4 m4 hb e0 e1 e2 e3 e6 e7 e8 e10 hog hrd hsg hmem HOKL hg f1
            go_wp2_with (first
              | (at_builtin
                 go_must (refine wpList_append_g rfl _ _ 170 181 _ 2 8 infoPair Tryz.underlying170 rfl (by decide) rfl (w.heap.size + 1) (.slice Au acc.length cu) acc.length (spC acc) rfl (HOW.out) _ g.length _ (spC g) rfl (HRD.out) (spC_len _) (spC_one' _) (by unfold maxLen; omega) (by omega) (by have := HSZ.out; first | omega | (rw [World.size_alloc]; omega)) ?_)
                 intro v4 w9 ho9 hg9
                 have m9 : Mv (fun k => w.heap.size ≤ k) w4 w9 := by first | exact (Mv.refl (fun k => w.heap.size ≤ k) w4).grown hg9 (fun k _ e => by have := (HOW.out.lt k e).1; omega) | exact ((Mv.refl (fun k => w.heap.size ≤ k) w4).alloc _).grown hg9 (fun k _ e => by have := (HOW.out.lt k e).1; omega)
                 have hb9 : w9.heap[w.heap.size]? = some (.cells #[.int .i64 0, .int .i64 0, .int .i64 0, .slice Au acc.length cu, .bool neg] 172 (0, 0)) := by
                   have mo : Mv (fun k => (Value.slice Au acc.length cu).ownBlock = some k) w4 w9 := by first | exact (Mv.refl (fun k => (Value.slice Au acc.length cu).ownBlock = some k) w4).grown hg9 (fun k _ e => e) | exact ((Mv.refl (fun k => (Value.slice Au acc.length cu).ownBlock = some k) w4).alloc _).grown hg9 (fun k _ e => e)
                   exact (mo.block _ (blk_lt HBX.out) (fun e => by have := (HOW.out.lt _ e).1; omega)).trans HBX.out
                 obtain ⟨A4, c4, rfl, -, -, -⟩ := own_rdg ho9
                 have b93 := cell_blk hb9 3
                 have f93 := free_blk hb9 3
                 simp only [List.getElem?_toArray, List.getElem?_cons_succ, List.getElem?_cons_zero] at b93
                 have HC := Lib.hid (ClsR.next (m := g) HV.out HUS.out HPN.out H4.out hb9 m9 M4.out ho9 (by omega) (HR.out))
                 clear ho9 hg9 m9 hb9)
              | fail)
            go_roundw
            case rel => exact .inl ⟨_, _, _, HC.out, by omega⟩
            case measure => rw [HC.out.rp.clN, HCL.out]; omega
    · obtain ⟨i, top', s', size', plain', d', hb, e0, e1, e3, e6, e7, e8, e9, e10⟩ := hre.cells
      have he := hre.err
      have f1 : ((f.2 : Int) != 0) = true := by rw [bne_iff_ne]; omega
      have f2 : ((f.2 : Int) == 0) = false := by rw [beq_eq_false_iff_ne]; omega
      have HRE := Lib.hid hre; have HMR := Lib.hid hmv; have HR := Lib.hid hres
      clear hre hmv hres hb he e0 e1 e3 e6 e7 e8 e10
      generalize f.2 = y at e9 f1 f2
      go_wp2
      go_ret
      rw [HR.out]
      exact ⟨0, v, rfl, HRE.out, Mvd.box HMR.out⟩
theorem class_is (p : Nat) (E : Env) (l : List Pc) (d : Nat) (v : Value) (us : List Value) (N : List Nd) (w : World) (h : RP w p E l d v us N) (h91 : nowP l = 91) (hnl : N.length ≤ 3000) : Calls Tryz.prog 116 #[.pointer (some ⟨p, 0, none⟩)] w (OutN p E d v N (N.length + 4 * l.length - 2) N.length w (classP l)) := by
  by_cases h94 : nowP l.tail = 94
  · exact class_neg p E l d v us N w h h91 h94 hnl
  · exact class_pos p E l d v us N w h h91 h94 hnl
end
end Go.Proofs.YtinjdlplbficiaaGreatDoor
