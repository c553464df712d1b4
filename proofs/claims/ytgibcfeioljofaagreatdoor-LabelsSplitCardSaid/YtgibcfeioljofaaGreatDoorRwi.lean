/-
  With: the plain answers' own.
-/
import Derived.Test.YtgibcfeioljofaaGreatDoorGt
import Derived.Test.YtgibcfeioljofaaGreatDoorRma
import Derived.Test.YtgibcfeioljofaaGreatDoorRr2
namespace Go.Proofs.YtgibcfeioljofaaGreatDoor
set_option linter.unusedVariables false
set_option linter.unusedSimpArgs false
open Go.RowKit
theorem few_with {l : List Lb} {n v : ByteArray} (hf : Few l) (hl : l.length ≤ 1000) (hn : n.size ≤ 6000) (hv : v.size ≤ 6000) (p : Lb → Bool) : Few (l.filter p ++ [(n, v)]) := by
  refine ⟨?_, fun x hx => ?_⟩
  · have := List.length_filter_le p l
    rw [List.length_append, List.length_singleton]; omega
  · rcases List.mem_append.1 hx with h | h
    · exact hf.2 x (List.mem_filter.1 h).1
    · rw [List.mem_singleton] at h; subst h; exact ⟨hn, hv⟩
section
set_option maxHeartbeats 1600000
set_option maxRecDepth 100000
theorem rwith_any (A : Option Addr) (ca : Nat) (l : List Lb) (n v : ByteArray) (w : World) (hx : Rd w A (lcells l)) (hf : Few l) (hl : l.length ≤ 1000) (hn : n.size ≤ 6000) (hv : v.size ≤ 6000) :
    Calls Tryz.prog 11 #[.slice A l.length ca, .string n, .string v] w fun e w' => ∃ A' c', e = .returned (.tuple #[.slice A' (withP l n v).2.length c', .int .i64 ((withP l n v).1 : Nat)]) ∧ w'.ownsRow w.heap.size 26 2 (.slice A' (withP l n v).2.length c') (withP l n v).2.length (lcells (withP l n v).2) ∧ Below w.heap.size w w' := by
  have hr := rright_any A ca l w hx hf
  obtain ⟨R, hR⟩ : ∃ R, R = withP l n v := ⟨_, rfl⟩
  rw [← hR]
  unfold withP at hR
  obtain ⟨r, hrr⟩ : ∃ r, r = rightP l := ⟨_, rfl⟩
  rw [← hrr] at hr hR
  clear hrr
  have HRI := Lib.hid hr; clear hr
  by_cases h0 : r = 0
  · subst h0
    rw [if_neg (by simp)] at hR
    obtain ⟨p, hp⟩ : ∃ p : Lb → Bool, p = fun x => !decide (x.1 = n) := ⟨_, rfl⟩
    obtain ⟨Y, hY⟩ : ∃ Y, Y = l.filter (fun x => !decide (x.1 = n)) := ⟨_, rfl⟩
    rw [← hY] at hR
    have hst : Y = [] ++ (l.drop 0).filter p := by rw [hY, hp]; rfl
    have hfw : Few (Y ++ [(n, v)]) := by rw [hY]; exact few_with hf hl hn hv _
    have hyl : Y.length ≤ 1000 := by rw [hY]; have := List.length_filter_le (fun x : Lb => !decide (x.1 = n)) l; omega
    have HST := Lib.hid hst; have HR := Lib.hid hR; have HFW := Lib.hid hfw; have HYL := Lib.hid hyl; clear hst hY hR hfw hyl hf hn hv
    have HP := Lib.hid hp; clear hp
    go_enter Tryz.func11, Tryz.ntmps11
    go_wp2_with fail
    refine HRI.out.mono ?_
    rintro e w1 ⟨rfl, hb1⟩
    have HB1 := Lib.hid (hb1.alloc hb1.size (.cells #[] 26))
    have HO := Lib.hid (show (w1.alloc (.cells #[] 26)).ownsRow w.heap.size 26 2 (.slice (some ⟨w1.heap.size, 0, none⟩) 0 0) 0 [] from own_whole (l := []) hb1.size (by decide) (heap_alloc_new w1 _))
    clear hb1
    go_wp2
    go_loopw [9, 20] (fun sa sk wr => ∃ (k : Nat) (acc : List Lb) (A1 : Option Addr) (c1 : Nat), sk = .int .i64 k ∧ sa = .slice A1 acc.length c1 ∧ k ≤ l.length ∧ acc.length ≤ k ∧ Aside (wr.ownsRow w.heap.size 26 2 sa acc.length (lcells acc)) ∧ Aside (RowKit.Below w.heap.size w wr) ∧ Aside (Y = acc ++ (l.drop k).filter p)) (fun _ sk _ => l.length - (intOf sk).toNat)
    case atStart => exact ⟨0, [], _, _, rfl, rfl, by omega, by simp, HO.out, HB1.out, HST.out⟩
    case round =>
      obtain ⟨k, acc, A1, c1, rfl, rfl, hk, hak, OW, BW, E⟩ := hrel
      have k0 : (0 : Int) ≤ (k : Int) := by omega
      by_cases hlt : k < l.length
      · have k1 : (k : Int) < (l.length : Int) := by omega
        obtain ⟨b, off, rfl, c0, c1'⟩ := lb_at (hx.below BW.out) hlt
        have hE := E.out
        rw [List.drop_eq_getElem_cons hlt, List.filter_cons] at hE
        clear E hx
        generalize l[k] = x at c0 c1' hE
        obtain ⟨x1, x2⟩ := x
        simp only at c0 c1' hE
        have HBW := Lib.hid (show RowKit.Below w.heap.size w (wr.alloc (.cells #[.string x1, .string x2] 26)) from BW.out.alloc BW.out.size _)
        have HOW := Lib.hid (show (wr.alloc (.cells #[.string x1, .string x2] 26)).ownsRow w.heap.size 26 2 (.slice A1 acc.length c1) acc.length (lcells acc) from OW.out.alloc _)
        have hpx : p (x1, x2) = (!decide (x1 = n)) := by rw [HP.out]
        by_cases he : x1 = n
        · have hdn : decide (x1 = n) = true := decide_eq_true he
          have hq : (x1.toList == n.toList) = true := by rw [he]; simp
          clear he
          have hpt : ¬ p (x1, x2) = true := by rw [hpx]; rw [hdn]; decide
          rw [if_neg hpt] at hE
          have HE := Lib.hid hE; clear hE hpt hpx
          have hcell0 := cell_blk (heap_alloc_new wr (.cells #[.string x1, .string x2] 26)) 0
          simp only [List.getElem?_toArray, List.getElem?_cons_zero] at hcell0
          go_wp2
          go_roundw
          case rel => exact ⟨k + 1, acc, A1, c1, by go_num, rfl, by omega, by omega, (show Aside _ from HOW.out), (show Aside _ from HBW.out), (show Aside _ from HE.out)⟩
          case measure => simp [intOf]; omega
        · have hdn : decide (x1 = n) = false := decide_eq_false he
          have hq := text_ne he
          clear he
          have hpt : p (x1, x2) = true := by rw [hpx]; rw [hdn]; rfl
          rw [if_pos hpt] at hE
          have hE2 : Y = (acc ++ [(x1, x2)]) ++ (l.drop (k + 1)).filter p := by rw [hE, List.append_assoc]; rfl
          have HE := Lib.hid hE2; clear hE2 hE hpt hpx
          have hcell0 := cell_blk (heap_alloc_new wr (.cells #[.string x1, .string x2] 26)) 0
          have hcell1 := cell_blk (heap_alloc_new wr (.cells #[.string x1, .string x2] 26)) 1
          simp only [List.getElem?_toArray, List.getElem?_cons_zero, List.getElem?_cons_succ] at hcell0 hcell1
          go_wp2_with (first
            | (at_builtin; go_must (refine wpList_append_lb rfl _ _ rfl rfl w.heap.size _ acc rfl (HOW.out.alloc _) _ 1 [(x1, x2)] rfl (by have := rd_row (wr.alloc (.cells #[.string x1, .string x2] 26)) [.string x1, .string x2] 26; rwa [World.size_alloc] at this) (by simp; omega) (by have := HBW.out.size; rw [World.size_alloc] at this; simp; omega) ?_; intro v3 w3 own3 grow3))
            | fail)
          have hb3 : RowKit.Below w.heap.size w w3 := (HBW.out.alloc HBW.out.size (.cells #[.string x1, .string x2] 26)).grown grow3 (by have := HBW.out.size; simp at this ⊢; omega) (fun k h => (HOW.out.lt k h).1)
          have HB3 := Lib.hid hb3; clear hb3 grow3 hcell0 hcell1
          obtain ⟨A', c', e', -⟩ := own_rdL own3
          subst e'
          have HO3 := Lib.hid own3; clear own3
          go_wp2
          go_roundw
          case rel => exact ⟨k + 1, acc ++ [(x1, x2)], A', c', by go_num, rfl, by omega, by simp; omega, (show Aside _ from HO3.out), (show Aside _ from HB3.out), (show Aside _ from HE.out)⟩
          case measure => simp [intOf]; omega
      · obtain rfl : k = l.length := by omega
        have hE := E.out
        rw [List.drop_length, List.filter_nil, List.append_nil] at hE
        subst hE
        clear E
        have hmk := fun A' c' w' (h : Rd w' A' (lcells (Y ++ [(n, v)]))) => rmake_any A' c' (Y ++ [(n, v)]) w' h HFW.out
        rw [← HR.out] at hmk
        have HMK := Lib.hid hmk; clear hmk
        go_wp2_with (first
          | (at_builtin; go_must (refine wpList_append_lb rfl _ _ rfl rfl w.heap.size _ Y rfl (OW.out.alloc _) _ 1 [(n, v)] rfl (rd_row wr [.string n, .string v] 26) (by have := HYL.out; simp; omega) (by have := BW.out.size; simp; omega) ?_; intro v3 w3 own3 grow3))
          | fail)
        have hb3 : RowKit.Below w.heap.size w w3 := (BW.out.alloc BW.out.size (.cells #[.string n, .string v] 26)).grown grow3 (by have := BW.out.size; simp at this ⊢; omega) (fun k h => (OW.out.lt k h).1)
        have HB3 := Lib.hid hb3; clear hb3 grow3
        obtain ⟨A', c', e', hr3⟩ := own_rdL own3
        subst e'
        clear own3
        have HR3 := Lib.hid hr3; clear hr3
        go_wp2_with fail
        refine (HMK.out _ _ _ HR3.out).mono ?_
        rintro e w4 ⟨A4, c4, rfl, ho4, hb4⟩
        have HB4 := Lib.hid (HB3.out.trans (hb4.mono HB3.out.size)); clear hb4
        have HO4 := Lib.hid (ho4.lower HB3.out.size); clear ho4
        go_wp2
        go_ret2
        exact ⟨A4, c4, rfl, HO4.out, HB4.out⟩
  · rw [if_pos h0] at hR
    subst hR
    have g0 : ((r : Int) != 0) = true := by rw [bne_iff_ne]; omega
    go_enter Tryz.func11, Tryz.ntmps11
    go_wp2_with fail
    refine HRI.out.mono ?_
    rintro e w1 ⟨rfl, hb1⟩
    go_wp2
    go_ret2
    exact ⟨none, 0, rfl, World.ownsRow_nil _ _ _ _, hb1⟩
end
end Go.Proofs.YtgibcfeioljofaaGreatDoor
