/-
  labels.With: the labels with one name's value another one.
-/
import Derived.Test.YtgibcfeioljofaaGreatDoorRg
import Derived.Test.YtgibcfeioljofaaGreatDoorKe
import Derived.Test.YtgibcfeioljofaaGreatDoorRwi
namespace Go.Proofs.YtgibcfeioljofaaGreatDoor
set_option linter.unusedVariables false
set_option linter.unusedSimpArgs false
open Go.RowKit
section
set_option maxHeartbeats 1600000
set_option maxRecDepth 100000
theorem w1_tells (a : Nat) (n : ByteArray) :
    TellsT 32 #[.pointer (some ⟨a, 0, none⟩)] (fun t => !decide (t = n)) (fun W => W.heap[a]? = some (.cells #[.string n] 9 (0, 0))) := by
  rintro W t hc
  have hd := cell_blk hc 0
  simp only [List.getElem?_toArray, List.getElem?_cons_zero] at hd
  simp only
  clear hc
  by_cases he : t = n
  · have hq : (t.toList == n.toList) = true := by rw [he]; simp
    rw [decide_eq_true he]
    clear he
    go_enter Tryz.func32, Tryz.ntmps32
    go_wp2
    go_ret
    exact ⟨rfl, Below.refl _ _⟩
  · have hq := text_ne he
    rw [decide_eq_false he]
    clear he
    go_enter Tryz.func32, Tryz.ntmps32
    go_wp2
    go_ret
    exact ⟨rfl, Below.refl _ _⟩
theorem with_any (A : Option Addr) (ca : Nat) (l : List Lb) (n v : ByteArray) (w : World) (hT : Tabs w) (hx : Rd w A (lcells l)) (hf : Few l) (hl : l.length ≤ 1000) (hn : n.size ≤ 6000) (hv : v.size ≤ 6000) :
    Calls Tryz.prog 10 #[.slice A l.length ca, .string n, .string v] w fun e w' => ∃ A' c', e = .returned (.tuple #[.slice A' (withP l n v).2.length c', .int .i64 ((withP l n v).1 : Nat)]) ∧ w'.ownsRow w.heap.size 26 2 (.slice A' (withP l n v).2.length c') (withP l n v).2.length (lcells (withP l n v).2) ∧ RowKit.Below w.heap.size w w' := by
  have hmf : ∀ (fn : Fn) (first cap : Array Value) (w : World), (Instr.makeFunc fn first cap).run Tryz.prog w = .ok (.func fn first cap) w := fun _ _ _ _ => rfl
  have hb0 : RowKit.Below w.heap.size w (w.alloc (.cells #[.string n] 9)) := (RowKit.Below.refl _ w).alloc (Nat.le_refl _) _
  have hbx := heap_alloc_new w (.cells #[.string n] 9)
  have hr := right_any A ca l (w.alloc (.cells #[.string n] 9)) (hT.below hb0) (hx.below hb0) hf
  obtain ⟨R, hR⟩ : ∃ R, R = withP l n v := ⟨_, rfl⟩
  rw [← hR]
  unfold withP at hR
  obtain ⟨r, hrr⟩ : ∃ r, r = rightP l := ⟨_, rfl⟩
  rw [← hrr] at hr hR
  clear hrr
  have HRI := Lib.hid hr; have HB0 := Lib.hid hb0; have HBX := Lib.hid hbx; have HT := Lib.hid hT; have HX := Lib.hid hx; clear hr hb0 hbx hT hx
  have HSZ := Lib.hid (World.size_alloc w (.cells #[.string n] 9))
  by_cases h0 : r = 0
  · subst h0
    rw [if_neg (by simp)] at hR
    have egw : ∀ args w, (callFunc 32 args).run Tryz.prog w = .ok (.enter 32 args) w := enters_of Tryz.func32 (by kernel_rfl) rfl
    obtain ⟨Y, hY⟩ : ∃ Y, Y = l.filter (fun x => !decide (x.1 = n)) := ⟨_, rfl⟩
    rw [← hY] at hR
    have hfw : Few (Y ++ [(n, v)]) := by rw [hY]; exact few_with hf hl hn hv _
    have hyl : Y.length ≤ 1000 := by rw [hY]; have := List.length_filter_le (fun x : Lb => !decide (x.1 = n)) l; omega
    have HR := Lib.hid hR; have HFW := Lib.hid hfw; have HYL := Lib.hid hyl; have HEW := Lib.hid egw; have HY := Lib.hid hY; clear hY hR hfw hyl hf hn hv egw
    go_enter Tryz.func10, Tryz.ntmps10
    go_wp2_with fail
    refine HRI.out.mono ?_
    rintro e w1 ⟨rfl, hb1⟩
    have hbx1 := (hb1.block _ (blk_lt HBX.out)).trans HBX.out
    have hB1 := HB0.out.trans (hb1.mono HB0.out.size)
    have hk := kept_any A ca l w1 32 #[.pointer (some ⟨w.heap.size, 0, none⟩)] (fun t => !decide (t = n)) HEW.out (fun W t hb => w1_tells w.heap.size n W t ((hb.block _ (blk_lt hbx1)).trans hbx1)) (HX.out.below hB1) (by omega)
    rw [show keepP (fun t => !decide (t = n)) l = Y from HY.out.symm] at hk
    have HK := Lib.hid hk; have HB1 := Lib.hid hB1; have HBX1 := Lib.hid hbx1; clear hk hB1 hbx1 hb1
    go_wp2_with fail
    refine HK.out.mono ?_
    rintro e w2 ⟨A2, c2, rfl, ho, hb⟩
    have hbx2 := (hb.block _ (blk_lt HBX1.out)).trans HBX1.out
    have hd := cell_blk hbx2 0
    simp only [List.getElem?_toArray, List.getElem?_cons_zero] at hd
    have hB2 := HB1.out.trans (hb.mono HB1.out.size)
    have HO := Lib.hid (ho.lower HB1.out.size); have HB2 := Lib.hid hB2; clear ho hb hbx2 hB2
    have hmk := fun A' c' w' (h : Rd w' A' (lcells (Y ++ [(n, v)]))) (hb : RowKit.Below w.heap.size w w') => make_any A' c' (Y ++ [(n, v)]) w' (HT.out.below hb) h HFW.out
    rw [← HR.out] at hmk
    have HMK := Lib.hid hmk; clear hmk
    go_wp2_with (first
      | (at_builtin; go_must (refine wpList_append_lb rfl _ _ rfl rfl w.heap.size _ Y rfl (HO.out.alloc _) _ 1 [(n, v)] rfl (rd_row w2 [.string n, .string v] 26) (by have := HYL.out; simp; omega) (by have := HB2.out.size; simp; omega) ?_; intro v3 w3 own3 grow3))
      | fail)
    have hb3 : RowKit.Below w.heap.size w w3 := (HB2.out.alloc HB2.out.size (.cells #[.string n, .string v] 26)).grown grow3 (by have := HB2.out.size; simp at this ⊢; omega) (fun k h => (HO.out.lt k h).1)
    have HB3 := Lib.hid hb3; clear hb3 grow3 hd
    obtain ⟨A', c', e', hr3⟩ := own_rdL own3
    subst e'
    clear own3
    have HR3 := Lib.hid hr3; clear hr3
    go_wp2_with fail
    refine (HMK.out _ _ _ HR3.out HB3.out).mono ?_
    rintro e w4 ⟨A4, c4, rfl, ho4, hb4⟩
    have HB4 := Lib.hid (HB3.out.trans (hb4.mono HB3.out.size)); clear hb4
    have HO4 := Lib.hid (ho4.lower HB3.out.size); clear ho4
    go_wp2
    go_ret2
    exact ⟨A4, c4, rfl, HO4.out, HB4.out⟩
  · rw [if_pos h0] at hR
    subst hR
    have g0 : ((r : Int) != 0) = true := by rw [bne_iff_ne]; omega
    go_enter Tryz.func10, Tryz.ntmps10
    go_wp2_with fail
    refine HRI.out.mono ?_
    rintro e w1 ⟨rfl, hb1⟩
    have HB1 := Lib.hid (HB0.out.trans (hb1.mono HB0.out.size)); clear hb1
    go_wp2
    go_ret2
    exact ⟨none, 0, rfl, World.ownsRow_nil _ _ _ _, HB1.out⟩
end
end Go.Proofs.YtgibcfeioljofaaGreatDoor
