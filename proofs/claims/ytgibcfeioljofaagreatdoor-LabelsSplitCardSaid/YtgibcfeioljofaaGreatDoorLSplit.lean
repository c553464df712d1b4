/-
  LabelsSplit (P5.8): By and Without part labels, but the metric's name; parts of right labels are right, and a label that is set is got. The condition is the library's two tables': they hold what their initialisers lay, which the card ties to the program's text.
-/
import Derived.Test.YtgibcfeioljofaaGreatDoorLq
import Derived.Test.YtgibcfeioljofaaGreatDoorAm
import Derived.Test.YtgibcfeioljofaaGreatDoorWi
import Derived.Test.YtgibcfeioljofaaGreatDoorRwi
import Derived.Test.YtgibcfeioljofaaGreatDoorRg
import Derived.Test.YtgibcfeioljofaaGreatDoorSm0
import Derived.Deep.RegionHeld3
namespace Go.Proofs.YtgibcfeioljofaaGreatDoor
set_option linter.unusedVariables false
set_option linter.unusedSimpArgs false
open Go.ChangeShapes Go.WideShapes Go.ChangeAt Go.RowKit
theorem eqLb (x y : Lb) (w : World) : (binOp .eql 26 (.agg #[.string x.1, .string x.2]) (.agg #[.string y.1, .string y.2])).run Tryz.prog w = .ok (.bool (decide (x = y))) w := by
  have hS : Tryz.prog.underlying 26 = some (.struct (Tryz.prog.fieldsOf 26)) := by kernel_rfl
  have hp : Tryz.prog.stoodInHeld 26 = false := by kernel_rfl
  rw [run_eql_struct, show (10000 : Nat) = 9999 + 1 from rfl, run_equalIn_agg w 9999 26 _ _ hS hp]
  simp only [Program.fieldsOf, Tryz.underlying26]
  obtain ⟨x1, x2⟩ := x
  obtain ⟨y1, y2⟩ := y
  have e1 : (x1.toList == y1.toList) = decide (x1 = y1) := by
    rw [toList_bl, toList_bl, Bool.beq_eq_decide_eq]; exact decide_eq_decide.2 bl_inj_iff
  have e2 : (x2.toList == y2.toList) = decide (x2 = y2) := by
    rw [toList_bl, toList_bl, Bool.beq_eq_decide_eq]; exact decide_eq_decide.2 bl_inj_iff
  have d1 : (x1.toList = y1.toList) = (x1 = y1) := by rw [toList_bl, toList_bl]; exact propext bl_inj_iff
  have d2 : (x2.toList = y2.toList) = (x2 = y2) := by rw [toList_bl, toList_bl]; exact propext bl_inj_iff
  go_simp
  by_cases h1 : x1 = y1 <;> by_cases h2 : x2 = y2 <;> simp [h1, h2, d1, d2]
theorem few_part {l : List Lb} (h : Few l) (p : Lb → Bool) : Few (l.filter p) := ⟨Nat.le_trans (List.length_filter_le _ _) h.1, fun x hx => h.2 x ((List.mem_filter.1 hx).1)⟩
theorem few_makeP {l : List Lb} (h : Few l) : Few (makeP l).2 := by
  unfold makeP
  split
  · exact ⟨by simp, fun x hx => by cases hx⟩
  · split
    · exact ⟨by simp, fun x hx => by cases hx⟩
    · split
      · exact ⟨by simp, fun x hx => by cases hx⟩
      · have hp := sortP_perm (fullP l)
        have hf : Few (fullP l) := few_part h _
        exact ⟨by simp only; rw [hp.length_eq]; exact hf.1, fun x hx => hf.2 x (hp.mem_iff.1 hx)⟩
theorem few_withP {l : List Lb} {n v : ByteArray} (hf : Few l) (hl : l.length ≤ 1000) (hn : n.size ≤ 6000) (hv : v.size ≤ 6000) : Few (withP l n v).2 := by
  unfold withP
  split
  · exact ⟨by simp, fun x hx => by cases hx⟩
  · exact few_makeP (few_with hf hl hn hv _)
theorem cnt_step {y : Lb} {l : List Lb} {k : Nat} (h : k < l.length) : cntL y (l.take (k + 1)) = cntL y (l.take k) + (if l[k] = y then 1 else 0) := by
  unfold cntL
  rw [List.take_succ_eq_append_getElem h, List.countP_append]
  by_cases e : l[k] = y <;> simp [e]
section
set_option maxHeartbeats 40000000
set_option maxRecDepth 100000
theorem lsplit_walk (A B : Option Addr) (ca cb : Nat) (l : List Lb) (ns : List ByteArray) (x : Lb) (w : World) (hT : Tabs w) (ha : Rd w A (lcells l)) (hn : Rd w B (tcells ns)) :
    Calls Tryz.prog 6 #[.slice A l.length ca, .slice B ns.length cb, .agg #[.string x.1, .string x.2]] w fun e w' => e = .returned (.bool true) ∧ RowKit.Below w.heap.size w w' := by
  obtain ⟨x1, x2⟩ := x
  simp only
  obtain ⟨W0, hW0⟩ : ∃ W0, W0 = w.alloc (.cells #[.string x1, .string x2] 26) := ⟨_, rfl⟩
  have hb0 : RowKit.Below w.heap.size w W0 := by rw [hW0]; exact (RowKit.Below.refl _ w).alloc (Nat.le_refl _) _
  have hbx : W0.heap[w.heap.size]? = some (.cells #[.string x1, .string x2] 26 (0, 0)) := by rw [hW0]; exact heap_alloc_new _ _
  have hT0 := hT.below hb0
  have ha0 := ha.below hb0
  have hn0 := hn.below hb0
  have hbox : (∀ W, RowKit.Below W0.heap.size W0 W → W.cell? ⟨w.heap.size, 0, none⟩ = some (.string x1)) ∧ (∀ W, RowKit.Below W0.heap.size W0 W → W.cell? ⟨w.heap.size, 1, none⟩ = some (.string x2)) := by
    constructor
    · intro W hb
      have := cell_blk ((hb.block _ (blk_lt hbx)).trans hbx) 0
      simpa using this
    · intro W hb
      have := cell_blk ((hb.block _ (blk_lt hbx)).trans hbx) 1
      simpa using this
  have HB0 := Lib.hid hb0; have HBOX := Lib.hid hbox; have HT := Lib.hid hT0; have HA := Lib.hid ha0; have HN := Lib.hid hn0; have HW0 := Lib.hid hW0
  clear hb0 hbx hT hT0 ha ha0 hn hn0 hbox
  have HL := Lib.hid (live_any W0 HT.out)
  have HL1 := Lib.hid (fun (W : World) (hb : RowKit.Below W0.heap.size W0 W) => live_any W (HT.out.below hb))
  have HF := Lib.hid (fun (W : World) (hb : RowKit.Below W0.heap.size W0 W) => few_any A ca l W (HA.out.below hb))
  have HF2 := Lib.hid (fun (W : World) => few_any (some ⟨W.heap.size, 0, none⟩) 1 [(x1, x2)] (W.alloc (.cells #[.string x1, .string x2] 26)) (rd_row' W [.string x1, .string x2] 26))
  have HNA := Lib.hid (fun (W : World) (hb : RowKit.Below W0.heap.size W0 W) => names_any B cb ns W (HN.out.below hb))
  go_enter Tryz.func6, Tryz.ntmps6
  go_wp2_with fail
  rw [← HW0.out]
  refine HL.out.mono ?_
  rintro e w1 ⟨rfl, hb1⟩
  have HB1 := Lib.hid hb1; clear hb1
  have hf := HF.out _ HB1.out
  cases hfa : fewB l with
  | false =>
    rw [hfa] at hf
    have HF := Lib.hid hf; clear hf
    go_wp2_with fail
    refine HF.out.mono ?_
    rintro e w2 ⟨rfl, hb2⟩
    have HB2 := Lib.hid (HB1.out.trans (hb2.mono HB1.out.size)); clear hb2
    go_wp2_with fail
    refine (HL1.out _ HB2.out).mono ?_
    rintro e wz ⟨rfl, hbz⟩
    have HWZ := Lib.hid (HB2.out.trans (hbz.mono HB2.out.size)); clear hbz
    go_wp2
    go_ret
    exact ⟨rfl, HB0.out.trans (HWZ.out.mono HB0.out.size)⟩
  | true =>
    rw [hfa] at hf
    have HFA := Lib.hid (few_few hfa)
    have hl60 := (few_of hfa).1
    have HF := Lib.hid hf; clear hf hfa
    go_wp2_with fail
    refine HF.out.mono ?_
    rintro e w2 ⟨rfl, hb2⟩
    have HB2 := Lib.hid (HB1.out.trans (hb2.mono HB1.out.size)); clear hb2
    have d0 := HBOX.out.1 _ HB2.out
    have d1 := HBOX.out.2 _ HB2.out
    have hf2 := HF2.out w2
    have HB2a := Lib.hid (HB2.out.alloc HB2.out.size (.cells #[.string x1, .string x2] 26))
    cases hfb : fewB [(x1, x2)] with
    | false =>
      rw [hfb] at hf2
      have HF2 := Lib.hid (show Calls Tryz.prog _ #[.slice (some ⟨w2.heap.size, 0, none⟩) 1 1] _ _ from hf2); clear hf2
      go_wp2_with fail
      refine HF2.out.mono ?_
      rintro e w3 ⟨rfl, hb3⟩
      have HB3 := Lib.hid (HB2a.out.trans (hb3.mono HB2a.out.size)); clear hb3 d0 d1
      go_wp2_with fail
      refine (HL1.out _ HB3.out).mono ?_
      rintro e wz ⟨rfl, hbz⟩
      have HWZ := Lib.hid (HB3.out.trans (hbz.mono HB3.out.size)); clear hbz
      go_wp2
      go_ret
      exact ⟨rfl, HB0.out.trans (HWZ.out.mono HB0.out.size)⟩
    | true =>
      rw [hfb] at hf2
      have hxs := (few_of hfb).2 (x1, x2) (by simp)
      have HF2 := Lib.hid (show Calls Tryz.prog _ #[.slice (some ⟨w2.heap.size, 0, none⟩) 1 1] _ _ from hf2); clear hf2 hfb
      go_wp2_with fail
      refine HF2.out.mono ?_
      rintro e w3 ⟨rfl, hb3⟩
      have HB3 := Lib.hid (HB2a.out.trans (hb3.mono HB2a.out.size)); clear hb3 d0 d1
      have hna := HNA.out _ HB3.out
      cases hnb : namesB ns with
      | false =>
        rw [hnb] at hna
        have HNA := Lib.hid hna; clear hna
        go_wp2_with fail
        refine HNA.out.mono ?_
        rintro e w4 ⟨rfl, rfl⟩
        go_wp2_with fail
        refine (HL1.out _ HB3.out).mono ?_
        rintro e wz ⟨rfl, hbz⟩
        have HWZ := Lib.hid (HB3.out.trans (hbz.mono HB3.out.size)); clear hbz
        go_wp2
        go_ret
        exact ⟨rfl, HB0.out.trans (HWZ.out.mono HB0.out.size)⟩
      | true =>
        rw [hnb] at hna
        have hn60 := (names_of hnb).1
        have HNA := Lib.hid hna; clear hna hnb
        have d0 := HBOX.out.1 _ HB3.out
        have d1 := HBOX.out.2 _ HB3.out
        obtain ⟨hx1, hx2⟩ := hxs
        have hwi := fun W (hb : RowKit.Below W0.heap.size W0 W) => with_any A ca l x1 x2 W (HT.out.below hb) (HA.out.below hb) HFA.out (by omega) (by omega) (by omega)
        have hby := fun W (hb : RowKit.Below W0.heap.size W0 W) => by_any A B ca cb l ns W (HA.out.below hb) (HN.out.below hb) (by omega) (by omega)
        have hwo := fun W (hb : RowKit.Below W0.heap.size W0 W) => wo_any A B ca cb l ns W (HA.out.below hb) (HN.out.below hb) (by omega) (by omega)
        have hri := fun W (hb : RowKit.Below W0.heap.size W0 W) => right_any A ca l W (HT.out.below hb) (HA.out.below hb) HFA.out
        have hsl := split_len l ns
        have hpl : (withP l x1 x2).2.length ≤ 1000000 := with_len (by omega)
        have hfp : Few (withP l x1 x2).2 := few_withP HFA.out (by omega) (by omega) (by omega)
        have hfb : Few (byP l ns) := few_part HFA.out _
        have hfo : Few (woP l ns) := few_part HFA.out _
        have hrb : rightP l = 0 → rightP (byP l ns) = 0 := right_filter _
        have hro : rightP l = 0 → rightP (woP l ns) = 0 := right_filter _
        have hso := fun y (hy : y ∈ l) => split_one (ns := ns) hy
        have hwr := with_right (l := l) (n := x1) (v := x2)
        generalize withP l x1 x2 = Pw at hwi hpl hfp hwr
        generalize byP l ns = Pb at hby hsl hfb hrb hso
        generalize woP l ns = Po at hwo hsl hfo hro hso
        obtain ⟨er, m⟩ := Pw
        simp only at hwi hpl hfp hwr
        have HWI := Lib.hid hwi; have HBY := Lib.hid hby; have HWO := Lib.hid hwo; have HRI := Lib.hid hri
        have HF7 := Lib.hid hfb; have HF8 := Lib.hid hfo; have HF4 := Lib.hid hfp; have HR0 := Lib.hid (And.intro hrb hro); have HSO := Lib.hid hso; have HWR := Lib.hid hwr; have HSL := Lib.hid (And.intro hsl hpl)
        clear hwi hby hwo hri hsl hpl hfp hfb hfo hrb hro hso hwr
        go_wp2_with fail
        refine HNA.out.mono ?_
        rintro e w4 ⟨rfl, rfl⟩
        go_wp2_with fail
        refine (HBY.out _ HB3.out).mono ?_
        rintro e w5 ⟨A7, c7, rfl, ho, hb5⟩
        obtain ⟨Aq, cq1, eq, hrq⟩ := own_rdL ho
        injection eq with eq _ eqc
        subst eq; subst eqc
        have HB5 := Lib.hid (HB3.out.trans (hb5.mono HB3.out.size)); have HR7a := Lib.hid hrq; clear ho hrq hb5 d0 d1
        go_wp2_with fail
        refine (HWO.out _ HB5.out).mono ?_
        rintro e w6 ⟨A8, c8, rfl, ho, hb6⟩
        obtain ⟨Aq, cq2, eq, hrq⟩ := own_rdL ho
        injection eq with eq _ eqc
        subst eq; subst eqc
        have HB := Lib.hid (HB5.out.trans (hb6.mono HB5.out.size)); have HR8 := Lib.hid hrq; have HR7 := Lib.hid (HR7a.out.below hb6); clear ho hrq hb6
        clear HR7a HB3 HB5 HNA HBY HWO HB1 HB2 HB2a HF2 HF HL
        go_wp2
        go_loopw [46] (fun sk wr => ∃ k : Nat, sk = .int .i64 k ∧ k ≤ l.length ∧ Aside (RowKit.Below w6.heap.size w6 wr)) (fun sk _ => l.length - (intOf sk).toNat)
        case atStart => exact ⟨0, rfl, by omega, RowKit.Below.refl _ _⟩
        case round =>
          obtain ⟨q, rfl, hq, BQ⟩ := hrel
          have hpb60 : Pb.length ≤ 60 := by have := HSL.out.1; omega
          have hpo60 : Po.length ≤ 60 := by have := HSL.out.1; omega
          have q0 : (0 : Int) ≤ (q : Int) := by omega
          by_cases hql : q < l.length
          · have q1 : (q : Int) < (l.length : Int) := by omega
            obtain ⟨b, off, hAq, e0, e1⟩ := lb_at (HA.out.below (HB.out.trans (BQ.out.mono HB.out.size))) hql
            have hon := HSO.out l[q] (List.getElem_mem hql)
            subst hAq
            generalize l[q] = y at e0 e1 hon
            obtain ⟨y1, y2⟩ := y
            simp only at e0 e1
            obtain ⟨Wy, hWy⟩ : ∃ Wy, Wy = wr.alloc (.cells #[.string y1, .string y2] 26) := ⟨_, rfl⟩
            have hyb : RowKit.Below w6.heap.size w6 Wy := by rw [hWy]; exact BQ.out.alloc BQ.out.size _
            have hybx : Wy.heap[wr.heap.size]? = some (.cells #[.string y1, .string y2] 26 (0, 0)) := by rw [hWy]; exact heap_alloc_new _ _
            have hY : ∀ W, RowKit.Below Wy.heap.size Wy W → W.cell? ⟨wr.heap.size, 0, none⟩ = some (.string y1) ∧ W.cell? ⟨wr.heap.size, 1, none⟩ = some (.string y2) := fun W hb => by
              have h0 := cell_blk ((hb.block _ (blk_lt hybx)).trans hybx) 0
              have h1 := cell_blk ((hb.block _ (blk_lt hybx)).trans hybx) 1
              exact ⟨by simpa using h0, by simpa using h1⟩
            have HYB := Lib.hid hyb; have HY := Lib.hid hY; have HWY := Lib.hid hWy; have HON := Lib.hid hon; clear hyb hY hWy hybx hon
            go_wp2
            rw [← HWY.out]
            generalize wr.heap.size = bY at HY ⊢
            clear BQ e0 e1 HWY
            obtain ⟨wq, hwq⟩ : ∃ wq, wq = wr := ⟨_, rfl⟩
            clear hwq
            go_loopw [11, 52] (fun sc sk wr => ∃ k c : Nat, sk = .int .i64 k ∧ sc = .int .i64 c ∧ k ≤ Pb.length ∧ c ≤ k ∧ Aside (RowKit.Below Wy.heap.size Wy wr) ∧ Aside (c = cntL (y1, y2) (Pb.take k))) (fun _ sk _ => Pb.length - (intOf sk).toNat)
            case atStart => exact ⟨0, 0, rfl, rfl, by omega, by omega, RowKit.Below.refl _ _, rfl⟩
            case round =>
              obtain ⟨k, c, rfl, rfl, hk, hck, BW, E⟩ := hrel
              have k0 : (0 : Int) ≤ (k : Int) := by omega
              have c0' : (0 : Int) ≤ (c : Int) := by omega
              by_cases hlt : k < Pb.length
              · have k1 : (k : Int) < (Pb.length : Int) := by omega
                obtain ⟨b, off, hA, e0, e1⟩ := lb_at (HR7.out.below (HYB.out.trans (BW.out.mono HYB.out.size))) hlt
                subst hA
                have hE := E.out
                have hst := cnt_step (y := (y1, y2)) hlt
                rw [← hE] at hst
                clear hE E
                generalize Pb[k] = z at e0 e1 hst
                obtain ⟨z1, z2⟩ := z
                simp only at e0 e1
                have hBz := BW.out.alloc BW.out.size (.cells #[.string z1, .string z2] 26)
                have hy := HY.out _ hBz
                have hcell0 := cell_blk (heap_alloc_new wr (.cells #[.string z1, .string z2] 26)) 0
                have hcell1 := cell_blk (heap_alloc_new wr (.cells #[.string z1, .string z2] 26)) 1
                simp only [List.getElem?_toArray, List.getElem?_cons_zero, List.getElem?_cons_succ] at hcell0 hcell1
                obtain ⟨y0c, y1c⟩ := hy
                have HBz := Lib.hid hBz; clear hBz
                have heq := fun u => eqLb (z1, z2) (y1, y2) u
                have hgd := fun op a b u => guardLb op a b (z1, z2) (y1, y2) u
                by_cases he : (z1, z2) = (y1, y2)
                · rw [if_pos he] at hst
                  simp only [he, decide_true] at heq
                  have HST := Lib.hid hst; clear hst he
                  simp only at heq hgd
                  go_wp2
                  go_roundw
                  case rel => exact ⟨k + 1, c + 1, by go_num, by go_num, by omega, by omega, (show Aside _ from HBz.out), (show Aside _ from HST.out.symm)⟩
                  case measure => simp [intOf]; omega
                · rw [if_neg he] at hst
                  simp only [he, decide_false] at heq
                  have HST := Lib.hid hst; clear hst he
                  simp only at heq hgd
                  go_wp2
                  go_roundw
                  case rel => exact ⟨k + 1, c, by go_num, rfl, by omega, by omega, (show Aside _ from HBz.out), (show Aside _ from HST.out.symm)⟩
                  case measure => simp [intOf]; omega
              · obtain rfl : k = Pb.length := by omega
                have hcn := E.out
                rw [List.take_length] at hcn
                clear E
                have hci := hcn
                obtain ⟨ci, hci0⟩ : ∃ ci, ci = c := ⟨_, rfl⟩
                rw [← hci0] at hcn ⊢
                have HCI := Lib.hid hcn; have HWB := Lib.hid BW.out; clear hcn BW hci hci0
                obtain ⟨wx, hwx⟩ : ∃ wx, wx = wr := ⟨_, rfl⟩
                rw [← hwx] at HWB ⊢
                clear hwx k0 c0' hlt hk hck
                go_wp2
                go_loopw [12, 64] (fun sc sk wr => ∃ k c : Nat, sk = .int .i64 k ∧ sc = .int .i64 c ∧ k ≤ Po.length ∧ c ≤ k ∧ Aside (RowKit.Below Wy.heap.size Wy wr) ∧ Aside (c = cntL (y1, y2) (Po.take k))) (fun _ sk _ => Po.length - (intOf sk).toNat)
                case atStart => exact ⟨0, 0, rfl, rfl, by omega, by omega, HWB.out, rfl⟩
                case round =>
                  obtain ⟨k, c, rfl, rfl, hk, hck, BW, E⟩ := hrel
                  have k0 : (0 : Int) ≤ (k : Int) := by omega
                  have c0' : (0 : Int) ≤ (c : Int) := by omega
                  by_cases hlt : k < Po.length
                  · have k1 : (k : Int) < (Po.length : Int) := by omega
                    obtain ⟨b, off, hA, e0, e1⟩ := lb_at (HR8.out.below (HYB.out.trans (BW.out.mono HYB.out.size))) hlt
                    subst hA
                    have hE := E.out
                    have hst := cnt_step (y := (y1, y2)) hlt
                    rw [← hE] at hst
                    clear hE E
                    generalize Po[k] = z at e0 e1 hst
                    obtain ⟨z1, z2⟩ := z
                    simp only at e0 e1
                    have hBz := BW.out.alloc BW.out.size (.cells #[.string z1, .string z2] 26)
                    have hy := HY.out _ hBz
                    have hcell0 := cell_blk (heap_alloc_new wr (.cells #[.string z1, .string z2] 26)) 0
                    have hcell1 := cell_blk (heap_alloc_new wr (.cells #[.string z1, .string z2] 26)) 1
                    simp only [List.getElem?_toArray, List.getElem?_cons_zero, List.getElem?_cons_succ] at hcell0 hcell1
                    obtain ⟨y0c, y1c⟩ := hy
                    have HBz := Lib.hid hBz; clear hBz
                    have heq := fun u => eqLb (z1, z2) (y1, y2) u
                    have hgd := fun op a b u => guardLb op a b (z1, z2) (y1, y2) u
                    by_cases he : (z1, z2) = (y1, y2)
                    · rw [if_pos he] at hst
                      simp only [he, decide_true] at heq
                      have HST := Lib.hid hst; clear hst he
                      simp only at heq hgd
                      go_wp2
                      go_roundw
                      case rel => exact ⟨k + 1, c + 1, by go_num, by go_num, by omega, by omega, (show Aside _ from HBz.out), (show Aside _ from HST.out.symm)⟩
                      case measure => simp [intOf]; omega
                    · rw [if_neg he] at hst
                      simp only [he, decide_false] at heq
                      have HST := Lib.hid hst; clear hst he
                      simp only at heq hgd
                      go_wp2
                      go_roundw
                      case rel => exact ⟨k + 1, c, by go_num, rfl, by omega, by omega, (show Aside _ from HBz.out), (show Aside _ from HST.out.symm)⟩
                      case measure => simp [intOf]; omega
                  · obtain rfl : k = Po.length := by omega
                    have hcn := E.out
                    rw [List.take_length] at hcn
                    clear E
                    have hc2 : c = cntL (y1, y2) Po := hcn
                    have hon := HON.out
                    rw [← HCI.out, ← hc2] at hon
                    have hyy := HY.out _ BW.out
                    obtain ⟨y0c, y1c⟩ := hyy
                    have HBW := Lib.hid (HYB.out.trans (BW.out.mono HYB.out.size))
                    clear hcn hc2 BW HCI HWB HY HYB HON k0 c0' hlt hk hck
                    by_cases hi : 0 < ci
                    · have ho : c = 0 := by have := hon.1; omega
                      subst ho
                      have gi : (0 : Int) < (ci : Int) := by omega
                      have gi2 : ((ci : Int) == 0) = false := by rw [beq_eq_false_iff_ne]; omega
                      clear hon hi
                      go_wp2
                      go_roundw
                      case rel => exact ⟨q + 1, by go_num, by omega, (show Aside _ from HBW.out)⟩
                      case measure => simp [intOf]; omega
                    · have hi0 : ci = 0 := by omega
                      subst hi0
                      by_cases ho : 0 < c
                      · have go' : (0 : Int) < (c : Int) := by omega
                        have go2 : ((c : Int) == 0) = false := by rw [beq_eq_false_iff_ne]; omega
                        clear hon hi ho
                        go_wp2
                        go_roundw
                        case rel => exact ⟨q + 1, by go_num, by omega, (show Aside _ from HBW.out)⟩
                        case measure => simp [intOf]; omega
                      · have ho0 : c = 0 := by omega
                        subst ho0
                        have hnm := hon.2 rfl rfl
                        have hq : (y1.toList == [95, 95, 110, 97, 109, 101, 95, 95]) = true := by rw [toList_bl]; (try simp only at hnm); rw [hnm]; rfl
                        clear hon hi ho hnm
                        go_wp2
                        go_roundw
                        case rel => exact ⟨q + 1, by go_num, by omega, (show Aside _ from HBW.out)⟩
                        case measure => simp [intOf]; omega
          · have hq1 := HB.out.trans (BQ.out.mono HB.out.size)
            have hq7 := HR7.out.below BQ.out
            have hq8 := HR8.out.below BQ.out
            clear HB HR7 HR8
            have HB := Lib.hid hq1; have HR7 := Lib.hid hq7; have HR8 := Lib.hid hq8; clear hq1 hq7 hq8 BQ HSO
            obtain rfl : q = l.length := by omega
            have gs : ¬ ((l.length : Int) < (Pb.length : Int) + (Po.length : Int)) := by have := HSL.out.1; omega
            have gw : IntKind.i64.wrap ((Pb.length : Int) + (Po.length : Int)) = (Pb.length : Int) + (Po.length : Int) := by
              rw [IntKind.wrap_i64]
              all_goals (have := HSL.out.1; omega)
            have hri := HRI.out _ HB.out
            by_cases hr0 : rightP l = 0
            · rw [hr0] at hri
              have HRI := Lib.hid hri; clear hri
              have GHF7 := Lib.hid (HR0.out.1 hr0); have GHF8 := Lib.hid (HR0.out.2 hr0)
              clear hr0
              have d0 := HBOX.out.1 _ HB.out
              have d1 := HBOX.out.2 _ HB.out
              go_wp2_with fail
              refine HRI.out.mono ?_
              rintro e w7 ⟨rfl, hb7⟩
              have hq1 := HB.out.trans (hb7.mono HB.out.size)
              have hq7 := HR7.out.below hb7
              have hq8 := HR8.out.below hb7
              clear HB HR7 HR8 d0 d1
              have HB := Lib.hid hq1; have HR7 := Lib.hid hq7; have HR8 := Lib.hid hq8; clear hq1 hq7 hq8 hb7
              have d0 := HBOX.out.1 _ HB.out
              have d1 := HBOX.out.2 _ HB.out
              clear gs gw
              go_wp2_with fail
              refine (HWI.out _ HB.out).mono ?_
              rintro e w8 ⟨A4, c4, rfl, ho, hb8⟩
              obtain ⟨Aq, cq3, eq, hrq⟩ := own_rdL ho
              injection eq with eq _ eqc
              subst eq; subst eqc
              have hq1 := HB.out.trans (hb8.mono HB.out.size)
              have hq7 := HR7.out.below hb8
              have hq8 := HR8.out.below hb8
              clear HB HR7 HR8 d0 d1
              have HB := Lib.hid hq1; have HR7 := Lib.hid hq7; have HR8 := Lib.hid hq8; have HR4 := Lib.hid hrq; clear hq1 hq7 hq8 hb8 ho hrq
              by_cases her : er = 0
              · have hwr := HWR.out her
                have GHF4 := Lib.hid hwr.1; have HGV := Lib.hid hwr.2
                subst her
                clear hwr HWR
                have gq : (x2.toList == x2.toList) = true := by simp
                have HC7 := Lib.hid (fun (W : World) (hb : RowKit.Below w8.heap.size w8 W) => by
                  have := right_any A7 c7 Pb W (HT.out.below (HB.out.trans (hb.mono HB.out.size))) (HR7.out.below hb) HF7.out
                  rw [GHF7.out] at this; exact this)
                have HC8 := Lib.hid (fun (W : World) (hb : RowKit.Below w8.heap.size w8 W) => by
                  have := right_any A8 c8 Po W (HT.out.below (HB.out.trans (hb.mono HB.out.size))) (HR8.out.below hb) HF8.out
                  rw [GHF8.out] at this; exact this)
                have HBX := Lib.hid (show (∀ W, RowKit.Below w8.heap.size w8 W → W.cell? ⟨w.heap.size, 0, none⟩ = some (.string x1)) ∧ (∀ W, RowKit.Below w8.heap.size w8 W → W.cell? ⟨w.heap.size, 1, none⟩ = some (.string x2)) from ⟨fun W hb => HBOX.out.1 _ (HB.out.trans (hb.mono HB.out.size)), fun W hb => HBOX.out.2 _ (HB.out.trans (hb.mono HB.out.size))⟩)
                have HB8 := Lib.hid (RowKit.Below.refl w8.heap.size w8)
                have HC4 := Lib.hid (fun (W : World) (hb : RowKit.Below w8.heap.size w8 W) => by
                  have := right_any A4 c4 m W (HT.out.below (HB.out.trans (hb.mono HB.out.size))) (HR4.out.below hb) HF4.out
                  rw [GHF4.out] at this; exact this)
                have HG4 := Lib.hid (fun (W : World) (hb : RowKit.Below w8.heap.size w8 W) => by
                  have := get_any A4 c4 m x1 W (HR4.out.below hb) HSL.out.2
                  rw [HGV.out] at this; exact this)
                go_wp2
                go_region_held3 (fun w' => w'.cell? ⟨w.heap.size, 0, none⟩ = some (.string x1) ∧ w'.cell? ⟨w.heap.size, 1, none⟩ = some (.string x2)) (first | exact ⟨HBX.out.1 _ HB8.out, HBX.out.2 _ HB8.out⟩ | exact ⟨HBX.out.1 _ (below_drewN HB8.out _), HBX.out.2 _ (below_drewN HB8.out _)⟩) (first
                  | (go_at_call 26; go_must (first | ((with_reducible refine (HC7.out _ (by first | exact HB8.out | exact HB8.out.drew | exact below_drewN HB8.out _)).mono ?_); rintro e wq ⟨rfl, hbq⟩; (try (have hq1 := undrew hbq; clear hbq; have hbq := hq1; clear hq1)); have hq1 := HB8.out.trans (hbq.mono HB8.out.size); have HB8 := Lib.hid hq1; clear hq1 hbq) | ((with_reducible refine (HC8.out _ (by first | exact HB8.out | exact HB8.out.drew | exact below_drewN HB8.out _)).mono ?_); rintro e wq ⟨rfl, hbq⟩; (try (have hq1 := undrew hbq; clear hbq; have hbq := hq1; clear hq1)); have hq1 := HB8.out.trans (hbq.mono HB8.out.size); have HB8 := Lib.hid hq1; clear hq1 hbq) | ((with_reducible refine (HC4.out _ (by first | exact HB8.out | exact HB8.out.drew | exact below_drewN HB8.out _)).mono ?_); rintro e wq ⟨rfl, hbq⟩; (try (have hq1 := undrew hbq; clear hbq; have hbq := hq1; clear hq1)); have hq1 := HB8.out.trans (hbq.mono HB8.out.size); have HB8 := Lib.hid hq1; clear hq1 hbq)))
                  | (go_at_call 12; go_must ((with_reducible refine (HG4.out _ (by first | exact HB8.out | exact HB8.out.drew | exact below_drewN HB8.out _)).mono ?_); rintro e wq ⟨rfl, hbq⟩; (try (have hq1 := undrew hbq; clear hbq; have hbq := hq1; clear hq1)); have hq1 := HB8.out.trans (hbq.mono HB8.out.size); have HB8 := Lib.hid hq1; clear hq1 hbq))
                  | fail)
                all_goals
                  go_wp2
                  go_ret
                  first
                  | exact ⟨rfl, HB0.out.trans ((HB.out.trans (HB8.out.mono HB.out.size)).mono HB0.out.size)⟩
                  | exact ⟨rfl, HB0.out.trans ((HB.out.trans ((below_drewN HB8.out _).mono HB.out.size)).mono HB0.out.size)⟩
                  | exact ⟨by simp, HB0.out.trans ((HB.out.trans (HB8.out.mono HB.out.size)).mono HB0.out.size)⟩
                  | exact ⟨by simp, HB0.out.trans ((HB.out.trans ((below_drewN HB8.out _).mono HB.out.size)).mono HB0.out.size)⟩
              · have gne : ((er : Int) != 0) = true := by rw [bne_iff_ne]; omega
                clear HWR her
                generalize ((er : Nat) : Int) = zz at gne ⊢
                have HC7 := Lib.hid (fun (W : World) (hb : RowKit.Below w8.heap.size w8 W) => by
                  have := right_any A7 c7 Pb W (HT.out.below (HB.out.trans (hb.mono HB.out.size))) (HR7.out.below hb) HF7.out
                  rw [GHF7.out] at this; exact this)
                have HC8 := Lib.hid (fun (W : World) (hb : RowKit.Below w8.heap.size w8 W) => by
                  have := right_any A8 c8 Po W (HT.out.below (HB.out.trans (hb.mono HB.out.size))) (HR8.out.below hb) HF8.out
                  rw [GHF8.out] at this; exact this)
                have HBX := Lib.hid (show (∀ W, RowKit.Below w8.heap.size w8 W → W.cell? ⟨w.heap.size, 0, none⟩ = some (.string x1)) ∧ (∀ W, RowKit.Below w8.heap.size w8 W → W.cell? ⟨w.heap.size, 1, none⟩ = some (.string x2)) from ⟨fun W hb => HBOX.out.1 _ (HB.out.trans (hb.mono HB.out.size)), fun W hb => HBOX.out.2 _ (HB.out.trans (hb.mono HB.out.size))⟩)
                have HB8 := Lib.hid (RowKit.Below.refl w8.heap.size w8)
                go_wp2
                refine wp_region_noPanic ?_
                refine wp_region_held_drew (S := (fun w' => w'.cell? ⟨w.heap.size, 0, none⟩ = some (.string x1) ∧ w'.cell? ⟨w.heap.size, 1, none⟩ = some (.string x2))) (by kernel_rfl) ?_ (fun hHeld => ?_)
                · try dsimp only
                  (first | exact ⟨HBX.out.1 _ HB8.out, HBX.out.2 _ HB8.out⟩ | exact ⟨HBX.out.1 _ (below_drewN HB8.out _), HBX.out.2 _ (below_drewN HB8.out _)⟩)
                refine wpAnyH_take (i := 0) (oi := ⟨_, _, _, _, _, _⟩) (v := ?_) rfl (by kernel_rfl) (by kernel_rfl) (by kernel_rfl) (fun _ _ _ h => h) (Or.inl ⟨by rfl, ?_⟩) (by assumption) ?_
                rotate_left
                · intro w hSw; (try dsimp only at hSw); go_simp; try with_reducible rfl
                try simp only [Act.put, List.setIfInBounds_toArray, List.set_cons_zero, List.set_cons_succ]
                refine wpAnyH_ready (rs := [1]) (by kernel_rfl) (by simp) ?_
                refine AllReadyH.cons (o := ⟨_, _, _, _, _, _⟩) rfl (fun K hK => ?_) AllReadyH.nil
                go_simp
                (go_at_call 26; go_must (first | ((with_reducible refine (HC7.out _ (by first | exact HB8.out | exact HB8.out.drew | exact below_drewN HB8.out _)).mono ?_); rintro e wq ⟨rfl, hbq⟩; (try (have hq1 := undrew hbq; clear hbq; have hbq := hq1; clear hq1)); have hq1 := HB8.out.trans (hbq.mono HB8.out.size); have HB8 := Lib.hid hq1; clear hq1 hbq) | ((with_reducible refine (HC8.out _ (by first | exact HB8.out | exact HB8.out.drew | exact below_drewN HB8.out _)).mono ?_); rintro e wq ⟨rfl, hbq⟩; (try (have hq1 := undrew hbq; clear hbq; have hbq := hq1; clear hq1)); have hq1 := HB8.out.trans (hbq.mono HB8.out.size); have HB8 := Lib.hid hq1; clear hq1 hbq)))
                try (go_wp2_with fail)
                refine hK.out _ _ ?_ (fun hHeld => ?_)
                · try dsimp only
                  (first | exact ⟨HBX.out.1 _ HB8.out, HBX.out.2 _ HB8.out⟩ | exact ⟨HBX.out.1 _ (below_drewN HB8.out _), HBX.out.2 _ (below_drewN HB8.out _)⟩)
                clear hK K
                try simp only [Act.put, List.setIfInBounds_toArray, List.set_cons_zero, List.set_cons_succ]
                refine wpAnyH_take (i := 2) (oi := ⟨_, _, _, _, _, _⟩) (v := ?_) rfl (by kernel_rfl) (by kernel_rfl) (by kernel_rfl) (fun _ _ _ h => h) (Or.inl ⟨by rfl, ?_⟩) (by assumption) ?_
                rotate_left
                · intro w hSw; (try dsimp only at hSw); go_simp; try with_reducible rfl
                try simp only [Act.put, List.setIfInBounds_toArray, List.set_cons_zero, List.set_cons_succ]
                refine wpAnyH_take (i := 3) (oi := ⟨_, _, _, _, _, _⟩) (v := ?_) rfl (by kernel_rfl) (by kernel_rfl) (by kernel_rfl) (fun _ _ _ h => h) (Or.inl ⟨by rfl, ?_⟩) (by assumption) ?_
                rotate_left
                · intro w hSw; (try dsimp only at hSw); go_simp; try with_reducible rfl
                try simp only [Act.put, List.setIfInBounds_toArray, List.set_cons_zero, List.set_cons_succ]
                refine wpAnyH_take (i := 4) (oi := ⟨_, _, _, _, _, _⟩) (v := ?_) rfl (by kernel_rfl) (by kernel_rfl) (by kernel_rfl) (fun _ _ _ h => h) (Or.inl ⟨by rfl, ?_⟩) (by assumption) ?_
                rotate_left
                · intro w hSw; (try dsimp only at hSw); go_simp; try with_reducible rfl
                try simp only [Act.put, List.setIfInBounds_toArray, List.set_cons_zero, List.set_cons_succ]
                refine wpAnyH_ready (rs := [5]) (by kernel_rfl) (by simp) ?_
                refine AllReadyH.cons (o := ⟨_, _, _, _, _, _⟩) rfl (fun K hK => ?_) AllReadyH.nil
                go_simp
                (go_at_call 26; go_must (first | ((with_reducible refine (HC7.out _ (by first | exact HB8.out | exact HB8.out.drew | exact below_drewN HB8.out _)).mono ?_); rintro e wq ⟨rfl, hbq⟩; (try (have hq1 := undrew hbq; clear hbq; have hbq := hq1; clear hq1)); have hq1 := HB8.out.trans (hbq.mono HB8.out.size); have HB8 := Lib.hid hq1; clear hq1 hbq) | ((with_reducible refine (HC8.out _ (by first | exact HB8.out | exact HB8.out.drew | exact below_drewN HB8.out _)).mono ?_); rintro e wq ⟨rfl, hbq⟩; (try (have hq1 := undrew hbq; clear hbq; have hbq := hq1; clear hq1)); have hq1 := HB8.out.trans (hbq.mono HB8.out.size); have HB8 := Lib.hid hq1; clear hq1 hbq)))
                try (go_wp2_with fail)
                refine hK.out _ _ ?_ (fun hHeld => ?_)
                · try dsimp only
                  (first | exact ⟨HBX.out.1 _ HB8.out, HBX.out.2 _ HB8.out⟩ | exact ⟨HBX.out.1 _ (below_drewN HB8.out _), HBX.out.2 _ (below_drewN HB8.out _)⟩)
                clear hK K
                try simp only [Act.put, List.setIfInBounds_toArray, List.set_cons_zero, List.set_cons_succ]
                refine wpAnyH_take (i := 6) (oi := ⟨_, _, _, _, _, _⟩) (v := ?_) rfl (by kernel_rfl) (by kernel_rfl) (by kernel_rfl) (fun _ _ _ h => h) (Or.inl ⟨by rfl, ?_⟩) (by assumption) ?_
                rotate_left
                · intro w hSw; (try dsimp only at hSw); go_simp; try with_reducible rfl
                try simp only [Act.put, List.setIfInBounds_toArray, List.set_cons_zero, List.set_cons_succ]
                refine wpAnyH_take (i := 7) (oi := ⟨_, _, _, _, _, _⟩) (v := ?_) rfl (by kernel_rfl) (by kernel_rfl) (by kernel_rfl) (fun _ _ _ h => h) (Or.inl ⟨by rfl, ?_⟩) (by assumption) ?_
                rotate_left
                · intro w hSw; (try dsimp only at hSw); go_simp; try with_reducible rfl
                try simp only [Act.put, List.setIfInBounds_toArray, List.set_cons_zero, List.set_cons_succ]
                refine wpAnyH_take (i := 8) (oi := ⟨_, _, _, _, _, _⟩) (v := ?_) rfl (by kernel_rfl) (by kernel_rfl) (by kernel_rfl) (fun _ _ _ h => h) (Or.inl ⟨by rfl, ?_⟩) (by assumption) ?_
                rotate_left
                · intro w hSw; (try dsimp only at hSw); go_simp; try with_reducible rfl
                try simp only [Act.put, List.setIfInBounds_toArray, List.set_cons_zero, List.set_cons_succ]
                refine wpAnyH_take (i := 9) (oi := ⟨_, _, _, _, _, _⟩) (v := ?_) rfl (by kernel_rfl) (by kernel_rfl) (by kernel_rfl) (fun _ _ _ h => h) (Or.inl ⟨by rfl, ?_⟩) (by assumption) ?_
                rotate_left
                · intro w hSw; (try dsimp only at hSw); go_simp; try with_reducible rfl
                try simp only [Act.put, List.setIfInBounds_toArray, List.set_cons_zero, List.set_cons_succ]
                refine wpAnyH_take (i := 10) (oi := ⟨_, _, _, _, _, _⟩) (v := ?_) rfl (by kernel_rfl) (by kernel_rfl) (by kernel_rfl) (fun _ _ _ h => h) (Or.inl ⟨by rfl, ?_⟩) (by assumption) ?_
                rotate_left
                · intro w hSw; (try dsimp only at hSw); go_simp; try with_reducible rfl
                try simp only [Act.put, List.setIfInBounds_toArray, List.set_cons_zero, List.set_cons_succ]
                refine wpAnyH_take (i := 11) (oi := ⟨_, _, _, _, _, _⟩) (v := ?_) rfl (by kernel_rfl) (by kernel_rfl) (by kernel_rfl) (fun _ _ _ h => h) (Or.inl ⟨by rfl, ?_⟩) (by assumption) ?_
                rotate_left
                · intro w hSw; (try dsimp only at hSw); go_simp; try with_reducible rfl
                try simp only [Act.put, List.setIfInBounds_toArray, List.set_cons_zero, List.set_cons_succ]
                refine wpAnyH_take (i := 12) (oi := ⟨_, _, _, _, _, _⟩) rfl (by kernel_rfl) (by kernel_rfl) (by kernel_rfl) (fun _ _ _ h => h) (Or.inr ⟨by rfl, rfl⟩) (by assumption) ?_
                try simp only [Act.put, List.setIfInBounds_toArray, List.set_cons_zero, List.set_cons_succ]
                refine wpAnyH_take (i := 13) (oi := ⟨_, _, _, _, _, _⟩) rfl (by kernel_rfl) (by kernel_rfl) (by kernel_rfl) (fun _ _ _ h => h) (Or.inr ⟨by rfl, rfl⟩) (by assumption) ?_
                try simp only [Act.put, List.setIfInBounds_toArray, List.set_cons_zero, List.set_cons_succ]
                refine wpAnyH_take (i := 14) (oi := ⟨_, _, _, _, _, _⟩) rfl (by kernel_rfl) (by kernel_rfl) (by kernel_rfl) (fun _ _ _ h => h) (Or.inr ⟨by rfl, rfl⟩) (by assumption) ?_
                try simp only [Act.put, List.setIfInBounds_toArray, List.set_cons_zero, List.set_cons_succ]
                refine wpAnyH_take (i := 15) (oi := ⟨_, _, _, _, _, _⟩) rfl (by kernel_rfl) (by kernel_rfl) (by kernel_rfl) (fun _ _ _ h => h) (Or.inr ⟨by rfl, rfl⟩) (by assumption) ?_
                try simp only [Act.put, List.setIfInBounds_toArray, List.set_cons_zero, List.set_cons_succ]
                refine wpAnyH_take (i := 16) (oi := ⟨_, _, _, _, _, _⟩) rfl (by kernel_rfl) (by kernel_rfl) (by kernel_rfl) (fun _ _ _ h => h) (Or.inr ⟨by rfl, rfl⟩) (by assumption) ?_
                try simp only [Act.put, List.setIfInBounds_toArray, List.set_cons_zero, List.set_cons_succ]
                refine wpAnyH_take (i := 17) (oi := ⟨_, _, _, _, _, _⟩) rfl (by kernel_rfl) (by kernel_rfl) (by kernel_rfl) (fun _ _ _ h => h) (Or.inr ⟨by rfl, rfl⟩) (by assumption) ?_
                try simp only [Act.put, List.setIfInBounds_toArray, List.set_cons_zero, List.set_cons_succ]
                refine wpAnyH_take (i := 18) (oi := ⟨_, _, _, _, _, _⟩) rfl (by kernel_rfl) (by kernel_rfl) (by kernel_rfl) (fun _ _ _ h => h) (Or.inr ⟨by rfl, rfl⟩) (by assumption) ?_
                try simp only [Act.put, List.setIfInBounds_toArray, List.set_cons_zero, List.set_cons_succ]
                refine wpAnyH_take (i := 20) (oi := ⟨_, _, _, _, _, _⟩) rfl (by kernel_rfl) (by kernel_rfl) (by kernel_rfl) (fun _ _ _ h => h) (Or.inr ⟨by rfl, rfl⟩) (by assumption) ?_
                try simp only [Act.put, List.setIfInBounds_toArray, List.set_cons_zero, List.set_cons_succ]
                refine wpAnyH_take (i := 21) (oi := ⟨_, _, _, _, _, _⟩) rfl (by kernel_rfl) (by kernel_rfl) (by kernel_rfl) (fun _ _ _ h => h) (Or.inr ⟨by rfl, rfl⟩) (by assumption) ?_
                try simp only [Act.put, List.setIfInBounds_toArray, List.set_cons_zero, List.set_cons_succ]
                refine wpAnyH_take (i := 19) (oi := ⟨_, _, _, _, _, _⟩) rfl (by kernel_rfl) (by kernel_rfl) (by kernel_rfl) (fun _ _ _ h => h) (Or.inr ⟨by rfl, rfl⟩) (by assumption) ?_
                try simp only [Act.put, List.setIfInBounds_toArray, List.set_cons_zero, List.set_cons_succ]
                refine wpAnyH_take (i := 22) (oi := ⟨_, _, _, _, _, _⟩) rfl (by kernel_rfl) (by kernel_rfl) (by kernel_rfl) (fun _ _ _ h => h) (Or.inr ⟨by rfl, rfl⟩) (by assumption) ?_
                try simp only [Act.put, List.setIfInBounds_toArray, List.set_cons_zero, List.set_cons_succ]
                refine wpAnyH_take (i := 23) (oi := ⟨_, _, _, _, _, _⟩) rfl (by kernel_rfl) (by kernel_rfl) (by kernel_rfl) (fun _ _ _ h => h) (Or.inr ⟨by rfl, rfl⟩) (by assumption) ?_
                try simp only [Act.put, List.setIfInBounds_toArray, List.set_cons_zero, List.set_cons_succ]
                refine wpAnyH_take (i := 24) (oi := ⟨_, _, _, _, _, _⟩) (v := ?_) rfl (by kernel_rfl) (by kernel_rfl) (by kernel_rfl) (fun _ _ _ h => h) (Or.inl ⟨by rfl, ?_⟩) (by assumption) ?_
                rotate_left
                · intro w hSw; (try dsimp only at hSw); go_simp; try with_reducible rfl
                try simp only [Act.put, List.setIfInBounds_toArray, List.set_cons_zero, List.set_cons_succ]
                refine wpAnyH_take (i := 25) (oi := ⟨_, _, _, _, _, _⟩) (v := ?_) rfl (by kernel_rfl) (by kernel_rfl) (by kernel_rfl) (fun _ _ _ h => h) (Or.inl ⟨by rfl, ?_⟩) (by assumption) ?_
                rotate_left
                · intro w hSw; (try dsimp only at hSw); go_simp; try with_reducible rfl
                try simp only [Act.put, List.setIfInBounds_toArray, List.set_cons_zero, List.set_cons_succ]
                refine wpAnyH_take (i := 26) (oi := ⟨_, _, _, _, _, _⟩) (v := ?_) rfl (by kernel_rfl) (by kernel_rfl) (by kernel_rfl) (fun _ _ _ h => h) (Or.inl ⟨by rfl, ?_⟩) (by assumption) ?_
                rotate_left
                · intro w hSw; (try dsimp only at hSw); go_simp; try with_reducible rfl
                try simp only [Act.put, List.setIfInBounds_toArray, List.set_cons_zero, List.set_cons_succ]
                refine wpAnyH_done (by kernel_rfl) ?_ _
                refine NoPanic.normal ?_
                all_goals
                  go_wp2
                  go_ret
                  first
                  | exact ⟨rfl, HB0.out.trans ((HB.out.trans (HB8.out.mono HB.out.size)).mono HB0.out.size)⟩
                  | exact ⟨rfl, HB0.out.trans ((HB.out.trans ((below_drewN HB8.out _).mono HB.out.size)).mono HB0.out.size)⟩
                  | exact ⟨by simp, HB0.out.trans ((HB.out.trans (HB8.out.mono HB.out.size)).mono HB0.out.size)⟩
                  | exact ⟨by simp, HB0.out.trans ((HB.out.trans ((below_drewN HB8.out _).mono HB.out.size)).mono HB0.out.size)⟩
            · have gne : ((rightP l : Nat) : Int) ≠ 0 := by omega
              have gne2 : (((rightP l : Nat) : Int) != 0) = true := by rw [bne_iff_ne]; omega
              generalize rightP l = rr at hri gne gne2
              have HRI := Lib.hid hri; clear hri gne
              go_wp2_with fail
              refine HRI.out.mono ?_
              rintro e w7 ⟨rfl, hb7⟩
              have HB7 := Lib.hid (HB.out.trans (hb7.mono HB.out.size)); clear hb7
              go_wp2
              go_ret
              exact ⟨rfl, HB0.out.trans (HB7.out.mono HB0.out.size)⟩
end


set_option maxRecDepth 100000 in
theorem labelsSplit_contract (H : Type) (enc : TypeId × Value → H) (W : World) (base : Nat) (args : Array Value) (ds gs : List (DataW H)) (before : List MemPlace)
    (hval : ∀ (j : Nat) t v, Tryz.f6.params[j]? = some t → args[j]? = some v → Value.okWide Tryz.prog W .any base t v)
    (hW : DataW.Whole enc Tryz.prog Tryz.f6.params.toList Rows.labelsSplitSpec.vars false W args.toList ds gs before) (hL : laidMetH Tryz.prog Rows.labelsSplitRow.laid W) :
    Calls Tryz.prog 6 args W fun e W' => ∃ v, e = .returned v ∧ Rows.labelsSplitSpec.post enc Tryz.prog Tryz.f6 false true false false W args v W' := by
  have hW' := hW
  obtain ⟨p, q, hA0, hV, rfl, hfz, hnd⟩ := hW
  have hA : DataW.TrodAll enc Tryz.prog W 0 (fun _ => true) true Tryz.f6.params.toList args.toList ds p := hA0
  rw [Tryz.params6] at hA hval
  obtain ⟨v0, vs0, d0, ds0, p0, q0, hargs, rfl, rfl, h0, r0⟩ := trodAll_cons hA
  obtain ⟨v1, vs1, d1, ds1, p1, q1, rfl, rfl, rfl, h1, r1⟩ := trodAll_cons r0
  obtain ⟨v2, vs2, d2, ds2, p2, q2, rfl, rfl, rfl, h2, r2⟩ := trodAll_cons r1
  obtain ⟨rfl, rfl, rfl⟩ := trodAll_nil r2
  obtain rfl : args = #[v0, v1, v2] := by cases args; simp_all
  obtain ⟨rfl, rfl⟩ := trodVars_none hV
  obtain ⟨A0, c0, l0, rfl, hm0, hx0, hs0⟩ := open_labels (hval 0 23 v0 rfl rfl) h0
  obtain ⟨A1, c1, t1, rfl, hm1, hx1, hs1⟩ := open_texts (hval 1 24 v1 rfl rfl) h1
  obtain ⟨x2, rfl, hs2⟩ := open_label (hval 2 26 v2 rfl rfl) h2
  clear hA0 hA
  unfold maxLen at hm0 hs0
  unfold maxLen at hm1 hs1
  unfold maxLen at hs2
  refine (lsplit_walk A0 A1 c0 c1 l0 t1 x2 W (tabs hL) hx0 hx1).mono fun e W' ⟨he, hg⟩ => ?_
  subst he
  exact ⟨_, rfl, law_end laidOut (by kernel_rfl) (by kernel_rfl) Tryz.underlying4 rfl hW' ⟨rfl, rfl, rfl⟩ hg⟩

theorem labelsSplit_met (os : Os) : laidMet Tryz.prog Rows.labelsSplitRow.laid ((laidWorld os).forCall (fun _ _ => 0) ⟨#[], #[.slice none 0 0, .slice none 0 0, .agg #[.string ⟨#[]⟩, .string ⟨#[]⟩]], []⟩).memory :=
  laid_met os _
theorem labelsSplit_reads (os : Os) {H : Type} (enc : TypeId × Value → H) : ∃ places, DataW.whole enc Tryz.prog ((laidWorld os).forCall (fun _ _ => 0) ⟨#[], #[.slice none 0 0, .slice none 0 0, .agg #[.string ⟨#[]⟩, .string ⟨#[]⟩]], []⟩).memory Tryz.f6.params.toList Rows.labelsSplitSpec.vars false (#[.slice none 0 0, .slice none 0 0, .agg #[.string ⟨#[]⟩, .string ⟨#[]⟩]] : Array Value).toList 8 = some ([.nil, .nil, .agg [.lit (.string []), .lit (.string [])]], [], places) :=
  ⟨[], by kernel_rfl⟩

set_option maxRecDepth 100000 in
theorem labelsSplit_lifted (os : Os) (started : os.Started) (H : Type) (enc : TypeId × Value → H) (F : Stop.Interp) :
    ReturnsInHanded {} Tryz.checked os 6 .any ((OpenSpec.ofChange Rows.labelsSplitSpec).preRow enc Tryz.prog Tryz.f6 Rows.labelsSplitRow.domain false Rows.labelsSplitRow.laid) (((OpenSpec.ofChange Rows.labelsSplitSpec).at F).post enc Tryz.prog Tryz.f6 false true false false) := by
  obtain ⟨places, hx⟩ := labelsSplit_reads os enc
  refine returnsInHanded_of_row (C := Tryz.checked) (s := OpenSpec.ofChange Rows.labelsSplitSpec) ownKn started (by kernel_rfl) Tryz.func6
    (witness_row_at (enc := enc) (C := Tryz.checked) false (laidWorld os) #[.slice none 0 0, .slice none 0 0, .agg #[.string ⟨#[]⟩, .string ⟨#[]⟩]] rfl (by kernel_rfl) (by kernel_rfl) (by kernel_rfl)
      (OpenSpec.preRow_of_cond 8 hx (by kernel_rfl) (fun k hk => by cases hk) (by kernel_rfl) (labelsSplit_met os))) ?_
  intro W base args ds gs before hval hW _ _ _ hL _ _
  exact labelsSplit_contract H enc W base args ds gs before hval hW hL

theorem labelsSplit_said : Rows.LabelsSplitSaid :=
  OpenClaim.holds_of_cond 6 Tryz.f6 rfl rfl rfl rfl rfl rfl rfl ⟨rfl, rfl, rfl, rfl, rfl⟩ rfl rfl rfl rfl rfl (by kernel_rfl) Tryz.func6 (by kernel_rfl)
    (of_decide_eq_true (by kernel_rfl)) (by unfold Func.isWrapper; first | (rw [if_pos (by decide +kernel)]; kernel_rfl) | (rw [if_neg (by decide +kernel)]; exact ⟨rfl, rfl⟩))
    (fun os started H enc _ F => by rw [OpenClaim.pre_eq_preRow]; exact labelsSplit_lifted os started H enc F)

theorem labelsSplit_plain (f : FuncId) (fn : Func) (hf : Tryz.pinned.checked.prog.funcNamed "manometer/manometerlaw05.LabelsSplit" = some f) (hfn : Tryz.pinned.checked.prog.funcs[f]? = some fn) :
    false = Tryz.pinned.checked.prog.looks [] ∧ ∀ (j : Nat) t, fn.params[j]? = some t → Tryz.pinned.checked.prog.wantsStandIn t = false := by
  obtain rfl : f = 6 := Option.some.inj ((show Tryz.prog.funcNamed "manometer/manometerlaw05.LabelsSplit" = some 6 by kernel_rfl).symm.trans hf) |>.symm
  obtain rfl : fn = Tryz.f6 := (Option.some.inj (Tryz.func6.symm.trans hfn)).symm
  refine ⟨by kernel_rfl, fun j t ht => ?_⟩
  rw [Tryz.params6] at ht
  have hm : t = 23 ∨ t = 24 ∨ t = 26 := by simpa using Array.mem_of_getElem? ht
  rcases hm with rfl | rfl | rfl
  · exact (show Tryz.prog.wantsStandIn 23 = false by kernel_rfl)
  · exact (show Tryz.prog.wantsStandIn 24 = false by kernel_rfl)
  · exact (show Tryz.prog.wantsStandIn 26 = false by kernel_rfl)

theorem labelsSplit_card : Rows.LabelsSplitCardSaid :=
  Claim7.holds_tied_plain_at .later [] _ _ _ _ labelsSplit_said (fun _ h => by cases h) (by kernel_rfl) (fun _ h => by cases h) labelsSplit_row_tie rfl ⟨rfl, rfl⟩ (by kernel_rfl) rfl labelsSplit_plain (by kernel_rfl)
#print axioms labelsSplit_card
end Go.Proofs.YtgibcfeioljofaaGreatDoor
