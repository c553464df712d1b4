/-
  LabelsParts (P5.2): a name's value, labels with another value, the labels of some names and without them are what the plain answers say. The condition is the library's two tables': they hold what their initialisers lay, which the card ties to the program's text.
-/
import Derived.Test.YtmicbgcdnkomjaaGreatDoorLq
import Derived.Test.YtmicbgcdnkomjaaGreatDoorAm
import Derived.Test.YtmicbgcdnkomjaaGreatDoorWi
import Derived.Test.YtmicbgcdnkomjaaGreatDoorRby
import Derived.Test.YtmicbgcdnkomjaaGreatDoorSm0
import Derived.Deep.RegionHeld3
namespace Go.Proofs.YtmicbgcdnkomjaaGreatDoor
set_option linter.unusedVariables false
set_option linter.unusedSimpArgs false
open Go.ChangeShapes Go.WideShapes Go.ChangeAt Go.RowKit

section
set_option maxHeartbeats 3200000
set_option maxRecDepth 100000
theorem same_yes (A B : Option Addr) (ca cb : Nat) (l : List Lb) (w : World) (hx : Rd w A (lcells l)) (hy : Rd w B (lcells l)) (hl : l.length ≤ 1000000) :
    Calls Tryz.prog 14 #[.slice A l.length ca, .slice B l.length cb] w fun e w' => e = .returned (.bool true) ∧ RowKit.Below w.heap.size w w' := by
  refine (rsame_any A B ca cb l l w hx hy hl hl).mono ?_
  rintro e w' ⟨he, n, rfl⟩
  exact ⟨by rw [he, decide_eq_true rfl], below_drewN (RowKit.Below.refl _ _) n⟩
theorem lparts_walk (A B : Option Addr) (ca cb : Nat) (l : List Lb) (ns : List ByteArray) (x : Lb) (w : World) (hT : Tabs w) (ha : Rd w A (lcells l)) (hn : Rd w B (tcells ns)) :
    Calls Tryz.prog 3 #[.slice A l.length ca, .slice B ns.length cb, .agg #[.string x.1, .string x.2]] w fun e w' => e = .returned (.bool true) ∧ RowKit.Below w.heap.size w w' := by
  obtain ⟨x1, x2⟩ := x
  simp only
  obtain ⟨W0, hW0⟩ : ∃ W0, W0 = w.alloc (.cells #[.string x1, .string x2] 26) := ⟨_, rfl⟩
  have hb0 : RowKit.Below w.heap.size w W0 := by rw [hW0]; exact (RowKit.Below.refl _ w).alloc (Nat.le_refl _) _
  have hbx : W0.heap[w.heap.size]? = some (.cells #[.string x1, .string x2] 26 (0, 0)) := by rw [hW0]; exact heap_alloc_new _ _
  have hT0 := hT.below hb0
  have ha0 := ha.below hb0
  have hn0 := hn.below hb0
  have hbox : (∀ W, RowKit.Below W0.heap.size W0 W → W.cell? ⟨w.heap.size, 0, none⟩ = some (.string x1)) ∧ (∀ W, RowKit.Below W0.heap.size W0 W → W.cell? ⟨w.heap.size, 1, none⟩ = some (.string x2)) := by
    constructor
    · intro W hb
      have := cell_blk ((hb.block _ (blk_lt hbx)).trans hbx) 0
      simpa using this
    · intro W hb
      have := cell_blk ((hb.block _ (blk_lt hbx)).trans hbx) 1
      simpa using this
  have HB0 := Lib.hid hb0; have HBOX := Lib.hid hbox; have HT := Lib.hid hT0; have HA := Lib.hid ha0; have HN := Lib.hid hn0; have HW0 := Lib.hid hW0
  clear hb0 hbx hT hT0 ha ha0 hn hn0 hbox
  have HL := Lib.hid (live_any W0 HT.out)
  have HL1 := Lib.hid (fun (W : World) (hb : RowKit.Below W0.heap.size W0 W) => live_any W (HT.out.below hb))
  have HF := Lib.hid (fun (W : World) (hb : RowKit.Below W0.heap.size W0 W) => few_any A ca l W (HA.out.below hb))
  have HF2 := Lib.hid (fun (W : World) => few_any (some ⟨W.heap.size, 0, none⟩) 1 [(x1, x2)] (W.alloc (.cells #[.string x1, .string x2] 26)) (rd_row' W [.string x1, .string x2] 26))
  have HNA := Lib.hid (fun (W : World) (hb : RowKit.Below W0.heap.size W0 W) => names_any B cb ns W (HN.out.below hb))
  go_enter Tryz.func3, Tryz.ntmps3
  go_wp2_with fail
  rw [← HW0.out]
  refine HL.out.mono ?_
  rintro e w1 ⟨rfl, hb1⟩
  have HB1 := Lib.hid hb1; clear hb1
  have hf := HF.out _ HB1.out
  cases hfa : fewB l with
  | false =>
    rw [hfa] at hf
    have HF := Lib.hid hf; clear hf
    go_wp2_with fail
    refine HF.out.mono ?_
    rintro e w2 ⟨rfl, hb2⟩
    have HB2 := Lib.hid (HB1.out.trans (hb2.mono HB1.out.size)); clear hb2
    go_wp2_with fail
    refine (HL1.out _ HB2.out).mono ?_
    rintro e wz ⟨rfl, hbz⟩
    have HWZ := Lib.hid (HB2.out.trans (hbz.mono HB2.out.size)); clear hbz
    go_wp2
    go_ret
    exact ⟨rfl, HB0.out.trans (HWZ.out.mono HB0.out.size)⟩
  | true =>
    rw [hfa] at hf
    have HFA := Lib.hid (few_few hfa)
    have hl60 := (few_of hfa).1
    have HF := Lib.hid hf; clear hf hfa
    go_wp2_with fail
    refine HF.out.mono ?_
    rintro e w2 ⟨rfl, hb2⟩
    have HB2 := Lib.hid (HB1.out.trans (hb2.mono HB1.out.size)); clear hb2
    have d0 := HBOX.out.1 _ HB2.out
    have d1 := HBOX.out.2 _ HB2.out
    have hf2 := HF2.out w2
    have HB2a := Lib.hid (HB2.out.alloc HB2.out.size (.cells #[.string x1, .string x2] 26))
    cases hfb : fewB [(x1, x2)] with
    | false =>
      rw [hfb] at hf2
      have HF2 := Lib.hid (show Calls Tryz.prog _ #[.slice (some ⟨w2.heap.size, 0, none⟩) 1 1] _ _ from hf2); clear hf2
      go_wp2_with fail
      refine HF2.out.mono ?_
      rintro e w3 ⟨rfl, hb3⟩
      have HB3 := Lib.hid (HB2a.out.trans (hb3.mono HB2a.out.size)); clear hb3 d0 d1
      go_wp2_with fail
      refine (HL1.out _ HB3.out).mono ?_
      rintro e wz ⟨rfl, hbz⟩
      have HWZ := Lib.hid (HB3.out.trans (hbz.mono HB3.out.size)); clear hbz
      go_wp2
      go_ret
      exact ⟨rfl, HB0.out.trans (HWZ.out.mono HB0.out.size)⟩
    | true =>
      rw [hfb] at hf2
      have hxs := (few_of hfb).2 (x1, x2) (by simp)
      have HF2 := Lib.hid (show Calls Tryz.prog _ #[.slice (some ⟨w2.heap.size, 0, none⟩) 1 1] _ _ from hf2); clear hf2 hfb
      go_wp2_with fail
      refine HF2.out.mono ?_
      rintro e w3 ⟨rfl, hb3⟩
      have HB3 := Lib.hid (HB2a.out.trans (hb3.mono HB2a.out.size)); clear hb3 d0 d1
      have hna := HNA.out _ HB3.out
      cases hnb : namesB ns with
      | false =>
        rw [hnb] at hna
        have HNA := Lib.hid hna; clear hna
        go_wp2_with fail
        refine HNA.out.mono ?_
        rintro e w4 ⟨rfl, rfl⟩
        go_wp2_with fail
        refine (HL1.out _ HB3.out).mono ?_
        rintro e wz ⟨rfl, hbz⟩
        have HWZ := Lib.hid (HB3.out.trans (hbz.mono HB3.out.size)); clear hbz
        go_wp2
        go_ret
        exact ⟨rfl, HB0.out.trans (HWZ.out.mono HB0.out.size)⟩
      | true =>
        rw [hnb] at hna
        have hn60 := (names_of hnb).1
        have HNA := Lib.hid hna; clear hna hnb
        have d0 := HBOX.out.1 _ HB3.out
        have d1 := HBOX.out.2 _ HB3.out
        obtain ⟨hx1, hx2⟩ := hxs
        have hwi := fun W (hb : RowKit.Below W0.heap.size W0 W) => with_any A ca l x1 x2 W (HT.out.below hb) (HA.out.below hb) HFA.out (by omega) (by omega) (by omega)
        have hrw := fun W (hb : RowKit.Below W0.heap.size W0 W) => rwith_any A ca l x1 x2 W (HA.out.below hb) HFA.out (by omega) (by omega) (by omega)
        have hge := fun W (hb : RowKit.Below W0.heap.size W0 W) => get_any A ca l x1 W (HA.out.below hb) (by omega)
        have hrg := fun W (hb : RowKit.Below W0.heap.size W0 W) => rget_any A ca l x1 W (HA.out.below hb) (by omega)
        have hby := fun W (hb : RowKit.Below W0.heap.size W0 W) => by_any A B ca cb l ns W (HA.out.below hb) (HN.out.below hb) (by omega) (by omega)
        have hrb := fun W (hb : RowKit.Below W0.heap.size W0 W) => rby_any A B ca cb l ns W (HA.out.below hb) (HN.out.below hb) (by omega) (by omega)
        have hwo := fun W (hb : RowKit.Below W0.heap.size W0 W) => wo_any A B ca cb l ns W (HA.out.below hb) (HN.out.below hb) (by omega) (by omega)
        have hro := fun W (hb : RowKit.Below W0.heap.size W0 W) => rwo_any A B ca cb l ns W (HA.out.below hb) (HN.out.below hb) (by omega) (by omega)
        have hbl : (byP l ns).length ≤ 1000000 := by have := split_len l ns; omega
        have hwl : (woP l ns).length ≤ 1000000 := by have := split_len l ns; omega
        have hpl : (withP l x1 x2).2.length ≤ 1000000 := with_len (by omega)
        generalize withP l x1 x2 = Pw at hwi hrw hpl
        generalize byP l ns = Pb at hby hrb hbl
        generalize woP l ns = Po at hwo hro hwl
        generalize getP l x1 = gv at hge hrg
        obtain ⟨er, m⟩ := Pw
        simp only at hwi hrw hpl
        have HWI := Lib.hid hwi; have HRW := Lib.hid hrw; have HGE := Lib.hid hge; have HRG := Lib.hid hrg; have HBY := Lib.hid hby; have HRB := Lib.hid hrb; have HWO := Lib.hid hwo; have HRO := Lib.hid hro
        have HLN := Lib.hid (And.intro hbl (And.intro hwl hpl))
        clear hwi hrw hge hrg hby hrb hwo hro hbl hwl hpl
        go_wp2_with fail
        refine HNA.out.mono ?_
        rintro e w4 ⟨rfl, rfl⟩
        go_wp2_with fail
        refine (HWI.out _ HB3.out).mono ?_
        rintro e w5 ⟨A4, c4, rfl, ho4, hb5⟩
        obtain ⟨A4', c4', e4, hr4⟩ := own_rdL ho4
        injection e4 with e4 _ _
        subst e4
        have HB4 := Lib.hid (HB3.out.trans (hb5.mono HB3.out.size)); have HR4 := Lib.hid hr4; clear ho4 hr4 hb5 d0 d1
        have d0 := HBOX.out.1 _ HB4.out
        have d1 := HBOX.out.2 _ HB4.out
        go_wp2_with fail
        refine (HRW.out _ HB4.out).mono ?_
        rintro e w6 ⟨A5, c5, rfl, ho5, hb6⟩
        obtain ⟨A5', c5', e5, hr5⟩ := own_rdL ho5
        injection e5 with e5 _ _
        subst e5
        have HB := Lib.hid (HB4.out.trans (hb6.mono HB4.out.size)); have HR5 := Lib.hid hr5; have HR4 := Lib.hid (HR4.out.below hb6); clear ho5 hr5 hb6 d0 d1
        have gq : (gv.toList == gv.toList) = true := by simp
        go_wp2
        go_region_held3 (fun w' => w'.cell? ⟨w.heap.size, 0, none⟩ = some (.string x1)) (first | exact HBOX.out.1 _ HB.out | exact HBOX.out.1 _ (below_drewN HB.out _)) (first
          | (go_at_call 12; go_must (refine (HGE.out _ (by first | exact HB.out | exact below_drewN HB.out _)).mono ?_; rintro e wq ⟨rfl, hbq⟩; (try (have hq1 := undrew hbq; clear hbq; have hbq := hq1; clear hq1)); (try (have hq1 := HRby.out.below hbq; have HRby := Lib.hid hq1; clear hq1)); (try (have hq1 := HRrby.out.below hbq; have HRrby := Lib.hid hq1; clear hq1)); (try (have hq1 := HRwo.out.below hbq; have HRwo := Lib.hid hq1; clear hq1)); (try (have hq1 := HRrwo.out.below hbq; have HRrwo := Lib.hid hq1; clear hq1)); have hq1 := HR4.out.below hbq; have HR4 := Lib.hid hq1; clear hq1; have hq1 := HR5.out.below hbq; have HR5 := Lib.hid hq1; clear hq1; have hq1 := HB.out.trans (hbq.mono HB.out.size); have HB := Lib.hid hq1; clear hq1 hbq))
          | (go_at_call 13; go_must (refine (HRG.out _ (by first | exact HB.out | exact below_drewN HB.out _)).mono ?_; rintro e wq ⟨rfl, hbq⟩; (try (have hq1 := undrew hbq; clear hbq; have hbq := hq1; clear hq1)); (try (have hq1 := HRby.out.below hbq; have HRby := Lib.hid hq1; clear hq1)); (try (have hq1 := HRrby.out.below hbq; have HRrby := Lib.hid hq1; clear hq1)); (try (have hq1 := HRwo.out.below hbq; have HRwo := Lib.hid hq1; clear hq1)); (try (have hq1 := HRrwo.out.below hbq; have HRrwo := Lib.hid hq1; clear hq1)); have hq1 := HR4.out.below hbq; have HR4 := Lib.hid hq1; clear hq1; have hq1 := HR5.out.below hbq; have HR5 := Lib.hid hq1; clear hq1; have hq1 := HB.out.trans (hbq.mono HB.out.size); have HB := Lib.hid hq1; clear hq1 hbq))
          | (go_at_call 15; go_must (refine (HBY.out _ (by first | exact HB.out | exact below_drewN HB.out _)).mono ?_; rintro e wq ⟨Aby, cby, rfl, hoq, hbq⟩; obtain ⟨Aq, cq, eq, hrq⟩ := own_rdL hoq; injection eq with eq _ _; subst eq; (try (have hq1 := undrew hbq; clear hbq; have hbq := hq1; clear hq1)); (try (have hq1 := HRby.out.below hbq; have HRby := Lib.hid hq1; clear hq1)); (try (have hq1 := HRrby.out.below hbq; have HRrby := Lib.hid hq1; clear hq1)); (try (have hq1 := HRwo.out.below hbq; have HRwo := Lib.hid hq1; clear hq1)); (try (have hq1 := HRrwo.out.below hbq; have HRrwo := Lib.hid hq1; clear hq1)); have hq1 := HR4.out.below hbq; have HR4 := Lib.hid hq1; clear hq1; have hq1 := HR5.out.below hbq; have HR5 := Lib.hid hq1; clear hq1; have hq1 := HB.out.trans (hbq.mono HB.out.size); have HB := Lib.hid hq1; clear hq1 hbq; have HRby := Lib.hid hrq; clear hrq hoq))
          | (go_at_call 16; go_must (refine (HRB.out _ (by first | exact HB.out | exact below_drewN HB.out _)).mono ?_; rintro e wq ⟨Arby, crby, rfl, hoq, hbq⟩; obtain ⟨Aq, cq, eq, hrq⟩ := own_rdL hoq; injection eq with eq _ _; subst eq; (try (have hq1 := undrew hbq; clear hbq; have hbq := hq1; clear hq1)); (try (have hq1 := HRby.out.below hbq; have HRby := Lib.hid hq1; clear hq1)); (try (have hq1 := HRrby.out.below hbq; have HRrby := Lib.hid hq1; clear hq1)); (try (have hq1 := HRwo.out.below hbq; have HRwo := Lib.hid hq1; clear hq1)); (try (have hq1 := HRrwo.out.below hbq; have HRrwo := Lib.hid hq1; clear hq1)); have hq1 := HR4.out.below hbq; have HR4 := Lib.hid hq1; clear hq1; have hq1 := HR5.out.below hbq; have HR5 := Lib.hid hq1; clear hq1; have hq1 := HB.out.trans (hbq.mono HB.out.size); have HB := Lib.hid hq1; clear hq1 hbq; have HRrby := Lib.hid hrq; clear hrq hoq))
          | (go_at_call 17; go_must (refine (HWO.out _ (by first | exact HB.out | exact below_drewN HB.out _)).mono ?_; rintro e wq ⟨Awo, cwo, rfl, hoq, hbq⟩; obtain ⟨Aq, cq, eq, hrq⟩ := own_rdL hoq; injection eq with eq _ _; subst eq; (try (have hq1 := undrew hbq; clear hbq; have hbq := hq1; clear hq1)); (try (have hq1 := HRby.out.below hbq; have HRby := Lib.hid hq1; clear hq1)); (try (have hq1 := HRrby.out.below hbq; have HRrby := Lib.hid hq1; clear hq1)); (try (have hq1 := HRwo.out.below hbq; have HRwo := Lib.hid hq1; clear hq1)); (try (have hq1 := HRrwo.out.below hbq; have HRrwo := Lib.hid hq1; clear hq1)); have hq1 := HR4.out.below hbq; have HR4 := Lib.hid hq1; clear hq1; have hq1 := HR5.out.below hbq; have HR5 := Lib.hid hq1; clear hq1; have hq1 := HB.out.trans (hbq.mono HB.out.size); have HB := Lib.hid hq1; clear hq1 hbq; have HRwo := Lib.hid hrq; clear hrq hoq))
          | (go_at_call 18; go_must (refine (HRO.out _ (by first | exact HB.out | exact below_drewN HB.out _)).mono ?_; rintro e wq ⟨Arwo, crwo, rfl, hoq, hbq⟩; obtain ⟨Aq, cq, eq, hrq⟩ := own_rdL hoq; injection eq with eq _ _; subst eq; (try (have hq1 := undrew hbq; clear hbq; have hbq := hq1; clear hq1)); (try (have hq1 := HRby.out.below hbq; have HRby := Lib.hid hq1; clear hq1)); (try (have hq1 := HRrby.out.below hbq; have HRrby := Lib.hid hq1; clear hq1)); (try (have hq1 := HRwo.out.below hbq; have HRwo := Lib.hid hq1; clear hq1)); (try (have hq1 := HRrwo.out.below hbq; have HRrwo := Lib.hid hq1; clear hq1)); have hq1 := HR4.out.below hbq; have HR4 := Lib.hid hq1; clear hq1; have hq1 := HR5.out.below hbq; have HR5 := Lib.hid hq1; clear hq1; have hq1 := HB.out.trans (hbq.mono HB.out.size); have HB := Lib.hid hq1; clear hq1 hbq; have HRrwo := Lib.hid hrq; clear hrq hoq))
          | (go_at_call 14; go_must (first | (with_reducible refine (same_yes _ _ _ _ Pb _ HRby.out HRrby.out HLN.out.1).mono ?_; rintro e wq ⟨rfl, hbq⟩; (try (have hq1 := undrew hbq; clear hbq; have hbq := hq1; clear hq1)); (try (have hq1 := HRby.out.below hbq; have HRby := Lib.hid hq1; clear hq1)); (try (have hq1 := HRrby.out.below hbq; have HRrby := Lib.hid hq1; clear hq1)); (try (have hq1 := HRwo.out.below hbq; have HRwo := Lib.hid hq1; clear hq1)); (try (have hq1 := HRrwo.out.below hbq; have HRrwo := Lib.hid hq1; clear hq1)); have hq1 := HR4.out.below hbq; have HR4 := Lib.hid hq1; clear hq1; have hq1 := HR5.out.below hbq; have HR5 := Lib.hid hq1; clear hq1; have hq1 := HB.out.trans (hbq.mono HB.out.size); have HB := Lib.hid hq1; clear hq1 hbq) | (with_reducible refine (same_yes _ _ _ _ Po _ HRwo.out HRrwo.out HLN.out.2.1).mono ?_; rintro e wq ⟨rfl, hbq⟩; (try (have hq1 := undrew hbq; clear hbq; have hbq := hq1; clear hq1)); (try (have hq1 := HRby.out.below hbq; have HRby := Lib.hid hq1; clear hq1)); (try (have hq1 := HRrby.out.below hbq; have HRrby := Lib.hid hq1; clear hq1)); (try (have hq1 := HRwo.out.below hbq; have HRwo := Lib.hid hq1; clear hq1)); (try (have hq1 := HRrwo.out.below hbq; have HRrwo := Lib.hid hq1; clear hq1)); have hq1 := HR4.out.below hbq; have HR4 := Lib.hid hq1; clear hq1; have hq1 := HR5.out.below hbq; have HR5 := Lib.hid hq1; clear hq1; have hq1 := HB.out.trans (hbq.mono HB.out.size); have HB := Lib.hid hq1; clear hq1 hbq) | (with_reducible refine (same_yes _ _ _ _ m _ HR4.out HR5.out HLN.out.2.2).mono ?_; rintro e wq ⟨rfl, hbq⟩; (try (have hq1 := undrew hbq; clear hbq; have hbq := hq1; clear hq1)); (try (have hq1 := HRby.out.below hbq; have HRby := Lib.hid hq1; clear hq1)); (try (have hq1 := HRrby.out.below hbq; have HRrby := Lib.hid hq1; clear hq1)); (try (have hq1 := HRwo.out.below hbq; have HRwo := Lib.hid hq1; clear hq1)); (try (have hq1 := HRrwo.out.below hbq; have HRrwo := Lib.hid hq1; clear hq1)); have hq1 := HR4.out.below hbq; have HR4 := Lib.hid hq1; clear hq1; have hq1 := HR5.out.below hbq; have HR5 := Lib.hid hq1; clear hq1; have hq1 := HB.out.trans (hbq.mono HB.out.size); have HB := Lib.hid hq1; clear hq1 hbq)))
          | fail)
        all_goals
          go_wp2
          go_ret
          first
          | exact ⟨rfl, HB0.out.trans (HB.out.mono HB0.out.size)⟩
          | exact ⟨rfl, HB0.out.trans ((below_drewN HB.out _).mono HB0.out.size)⟩
          | exact ⟨by simp, HB0.out.trans (HB.out.mono HB0.out.size)⟩
end


set_option maxRecDepth 100000 in
theorem labelsParts_contract (H : Type) (enc : TypeId × Value → H) (W : World) (base : Nat) (args : Array Value) (ds gs : List (DataW H)) (before : List MemPlace)
    (hval : ∀ (j : Nat) t v, Tryz.f3.params[j]? = some t → args[j]? = some v → Value.okWide Tryz.prog W .any base t v)
    (hW : DataW.Whole enc Tryz.prog Tryz.f3.params.toList Rows.labelsPartsSpec.vars false W args.toList ds gs before) (hL : laidMetH Tryz.prog Rows.labelsPartsRow.laid W) :
    Calls Tryz.prog 3 args W fun e W' => ∃ v, e = .returned v ∧ Rows.labelsPartsSpec.post enc Tryz.prog Tryz.f3 false true false false W args v W' := by
  have hW' := hW
  obtain ⟨p, q, hA0, hV, rfl, hfz, hnd⟩ := hW
  have hA : DataW.TrodAll enc Tryz.prog W 0 (fun _ => true) true Tryz.f3.params.toList args.toList ds p := hA0
  rw [Tryz.params3] at hA hval
  obtain ⟨v0, vs0, d0, ds0, p0, q0, hargs, rfl, rfl, h0, r0⟩ := trodAll_cons hA
  obtain ⟨v1, vs1, d1, ds1, p1, q1, rfl, rfl, rfl, h1, r1⟩ := trodAll_cons r0
  obtain ⟨v2, vs2, d2, ds2, p2, q2, rfl, rfl, rfl, h2, r2⟩ := trodAll_cons r1
  obtain ⟨rfl, rfl, rfl⟩ := trodAll_nil r2
  obtain rfl : args = #[v0, v1, v2] := by cases args; simp_all
  obtain ⟨rfl, rfl⟩ := trodVars_none hV
  obtain ⟨A0, c0, l0, rfl, hm0, hx0, hs0⟩ := open_labels (hval 0 23 v0 rfl rfl) h0
  obtain ⟨A1, c1, t1, rfl, hm1, hx1, hs1⟩ := open_texts (hval 1 24 v1 rfl rfl) h1
  obtain ⟨x2, rfl, hs2⟩ := open_label (hval 2 26 v2 rfl rfl) h2
  clear hA0 hA
  unfold maxLen at hm0 hs0
  unfold maxLen at hm1 hs1
  unfold maxLen at hs2
  refine (lparts_walk A0 A1 c0 c1 l0 t1 x2 W (tabs hL) hx0 hx1).mono fun e W' ⟨he, hg⟩ => ?_
  subst he
  exact ⟨_, rfl, law_end laidOut (by kernel_rfl) (by kernel_rfl) Tryz.underlying4 rfl hW' ⟨rfl, rfl, rfl⟩ hg⟩

theorem labelsParts_met (os : Os) : laidMet Tryz.prog Rows.labelsPartsRow.laid ((laidWorld os).forCall (fun _ _ => 0) ⟨#[], #[.slice none 0 0, .slice none 0 0, .agg #[.string ⟨#[]⟩, .string ⟨#[]⟩]], []⟩).memory :=
  laid_met os _
theorem labelsParts_reads (os : Os) {H : Type} (enc : TypeId × Value → H) : ∃ places, DataW.whole enc Tryz.prog ((laidWorld os).forCall (fun _ _ => 0) ⟨#[], #[.slice none 0 0, .slice none 0 0, .agg #[.string ⟨#[]⟩, .string ⟨#[]⟩]], []⟩).memory Tryz.f3.params.toList Rows.labelsPartsSpec.vars false (#[.slice none 0 0, .slice none 0 0, .agg #[.string ⟨#[]⟩, .string ⟨#[]⟩]] : Array Value).toList 8 = some ([.nil, .nil, .agg [.lit (.string []), .lit (.string [])]], [], places) :=
  ⟨[], by kernel_rfl⟩

set_option maxRecDepth 100000 in
theorem labelsParts_lifted (os : Os) (started : os.Started) (H : Type) (enc : TypeId × Value → H) (F : Stop.Interp) :
    ReturnsInHanded {} Tryz.checked os 3 .any ((OpenSpec.ofChange Rows.labelsPartsSpec).preRow enc Tryz.prog Tryz.f3 Rows.labelsPartsRow.domain false Rows.labelsPartsRow.laid) (((OpenSpec.ofChange Rows.labelsPartsSpec).at F).post enc Tryz.prog Tryz.f3 false true false false) := by
  obtain ⟨places, hx⟩ := labelsParts_reads os enc
  refine returnsInHanded_of_row (C := Tryz.checked) (s := OpenSpec.ofChange Rows.labelsPartsSpec) ownKn started (by kernel_rfl) Tryz.func3
    (witness_row_at (enc := enc) (C := Tryz.checked) false (laidWorld os) #[.slice none 0 0, .slice none 0 0, .agg #[.string ⟨#[]⟩, .string ⟨#[]⟩]] rfl (by kernel_rfl) (by kernel_rfl) (by kernel_rfl)
      (OpenSpec.preRow_of_cond 8 hx (by kernel_rfl) (fun k hk => by cases hk) (by kernel_rfl) (labelsParts_met os))) ?_
  intro W base args ds gs before hval hW _ _ _ hL _ _
  exact labelsParts_contract H enc W base args ds gs before hval hW hL

theorem labelsParts_said : Rows.LabelsPartsSaid :=
  OpenClaim.holds_of_cond 3 Tryz.f3 rfl rfl rfl rfl rfl rfl rfl ⟨rfl, rfl, rfl, rfl, rfl⟩ rfl rfl rfl rfl rfl (by kernel_rfl) Tryz.func3 (by kernel_rfl)
    (of_decide_eq_true (by kernel_rfl)) (by unfold Func.isWrapper; first | (rw [if_pos (by decide +kernel)]; kernel_rfl) | (rw [if_neg (by decide +kernel)]; exact ⟨rfl, rfl⟩))
    (fun os started H enc _ F => by rw [OpenClaim.pre_eq_preRow]; exact labelsParts_lifted os started H enc F)

theorem labelsParts_plain (f : FuncId) (fn : Func) (hf : Tryz.pinned.checked.prog.funcNamed "manometer/manometerlaw05.LabelsParts" = some f) (hfn : Tryz.pinned.checked.prog.funcs[f]? = some fn) :
    false = Tryz.pinned.checked.prog.looks [] ∧ ∀ (j : Nat) t, fn.params[j]? = some t → Tryz.pinned.checked.prog.wantsStandIn t = false := by
  obtain rfl : f = 3 := Option.some.inj ((show Tryz.prog.funcNamed "manometer/manometerlaw05.LabelsParts" = some 3 by kernel_rfl).symm.trans hf) |>.symm
  obtain rfl : fn = Tryz.f3 := (Option.some.inj (Tryz.func3.symm.trans hfn)).symm
  refine ⟨by kernel_rfl, fun j t ht => ?_⟩
  rw [Tryz.params3] at ht
  have hm : t = 23 ∨ t = 24 ∨ t = 26 := by simpa using Array.mem_of_getElem? ht
  rcases hm with rfl | rfl | rfl
  · exact (show Tryz.prog.wantsStandIn 23 = false by kernel_rfl)
  · exact (show Tryz.prog.wantsStandIn 24 = false by kernel_rfl)
  · exact (show Tryz.prog.wantsStandIn 26 = false by kernel_rfl)

theorem labelsParts_card : Rows.LabelsPartsCardSaid :=
  Claim7.holds_tied_plain_at .later [] _ _ _ _ labelsParts_said (fun _ h => by cases h) (by kernel_rfl) (fun _ h => by cases h) labelsParts_row_tie rfl ⟨rfl, rfl⟩ (by kernel_rfl) rfl labelsParts_plain (by kernel_rfl)
#print axioms labelsParts_card
end Go.Proofs.YtmicbgcdnkomjaaGreatDoor
