/-
  By and Without: the plain answers' own.
-/
import Derived.Test.YtmicbgcdnkomjaaGreatDoorTx
import Derived.Test.YtmicbgcdnkomjaaGreatDoorRpu
namespace Go.Proofs.YtmicbgcdnkomjaaGreatDoor
set_option linter.unusedVariables false
set_option linter.unusedSimpArgs false
open Go.RowKit
section
set_option maxHeartbeats 1600000
set_option maxRecDepth 100000
theorem rby_any (A B : Option Addr) (ca cb : Nat) (l : List Lb) (ns : List ByteArray) (w : World) (hx : Rd w A (lcells l)) (hn : Rd w B (tcells ns)) (hl : l.length ≤ 1000) (hnl : ns.length ≤ 1000) :
    Calls Tryz.prog 16 #[.slice A l.length ca, .slice B ns.length cb] w fun e w' => ∃ A' c', e = .returned (.slice A' (byP l ns).length c') ∧ w'.ownsRow w.heap.size 26 2 (.slice A' (byP l ns).length c') (byP l ns).length (lcells (byP l ns)) ∧ Below w.heap.size w w' := by
  obtain ⟨p, hp⟩ : ∃ p : Lb → Bool, p = fun x => inP ns x.1 := ⟨_, rfl⟩
  obtain ⟨Y, hY⟩ : ∃ Y, Y = byP l ns := ⟨_, rfl⟩
  rw [← hY]
  have hst : Y = [] ++ (l.drop 0).filter p := by rw [hY, hp]; rfl
  have HST := Lib.hid hst; clear hst hY
  have HP := Lib.hid hp; clear hp
  have hown : (w.alloc (.cells #[] 26)).ownsRow w.heap.size 26 2 (.slice (some ⟨w.heap.size, 0, none⟩) 0 0) 0 [] := own_whole (l := []) (Nat.le_refl _) (by decide) (heap_alloc_new w _)
  have HO := Lib.hid hown; clear hown
  have HB0 := Lib.hid (show RowKit.Below w.heap.size w (w.alloc (.cells #[] 26)) from (RowKit.Below.refl _ w).alloc (Nat.le_refl _) _)
  go_enter Tryz.func16, Tryz.ntmps16
  go_wp2
  go_loopw [5, 11] (fun sa sk wr => ∃ (k : Nat) (acc : List Lb) (A1 : Option Addr) (c1 : Nat), sk = .int .i64 k ∧ sa = .slice A1 acc.length c1 ∧ k ≤ l.length ∧ acc.length ≤ k ∧ Aside (wr.ownsRow w.heap.size 26 2 sa acc.length (lcells acc)) ∧ Aside (RowKit.Below w.heap.size w wr) ∧ Aside (Y = acc ++ (l.drop k).filter p)) (fun _ sk _ => l.length - (intOf sk).toNat)
  case atStart => exact ⟨0, [], _, _, rfl, rfl, by omega, by simp, HO.out, HB0.out, HST.out⟩
  case round =>
    obtain ⟨k, acc, A1, c1, rfl, rfl, hk, hak, OW, BW, E⟩ := hrel
    have k0 : (0 : Int) ≤ (k : Int) := by omega
    by_cases hlt : k < l.length
    · have k1 : (k : Int) < (l.length : Int) := by omega
      obtain ⟨b, off, rfl, c0, c1'⟩ := lb_at (hx.below BW.out) hlt
      have hE := E.out
      rw [List.drop_eq_getElem_cons hlt, List.filter_cons] at hE
      clear E hx
      generalize l[k] = x at c0 c1' hE
      obtain ⟨x1, x2⟩ := x
      simp only at c0 c1' hE
      have HBW := Lib.hid (show RowKit.Below w.heap.size w (wr.alloc (.cells #[.string x1, .string x2] 26)) from BW.out.alloc BW.out.size _)
      have HOW := Lib.hid (show (wr.alloc (.cells #[.string x1, .string x2] 26)).ownsRow w.heap.size 26 2 (.slice A1 acc.length c1) acc.length (lcells acc) from OW.out.alloc _)
      have hin := rin_any B cb ns x1 (wr.alloc (.cells #[.string x1, .string x2] 26)) (hn.below HBW.out) (by omega)
      have hpx : p (x1, x2) = (inP ns x1) := by rw [HP.out]
      clear hn
      generalize inP ns x1 = ib at hin hpx
      have HIN := Lib.hid hin; clear hin
      cases ib with
      | true =>
        have hpt : p (x1, x2) = true := by rw [hpx]; skip
        rw [if_pos hpt] at hE
        have hE2 : Y = (acc ++ [(x1, x2)]) ++ (l.drop (k + 1)).filter p := by rw [hE, List.append_assoc]; rfl
        have HE := Lib.hid hE2; clear hE2 hE hpt hpx
        have hcell0 := cell_blk (heap_alloc_new wr (.cells #[.string x1, .string x2] 26)) 0
        have hcell1 := cell_blk (heap_alloc_new wr (.cells #[.string x1, .string x2] 26)) 1
        simp only [List.getElem?_toArray, List.getElem?_cons_zero, List.getElem?_cons_succ] at hcell0 hcell1
        go_wp2_with fail
        refine HIN.out.mono ?_
        rintro e w2 ⟨rfl, rfl⟩
        go_wp2_with (first
          | (at_builtin; go_must (refine wpList_append_lb rfl _ _ rfl rfl w.heap.size _ acc rfl (HOW.out.alloc _) _ 1 [(x1, x2)] rfl (by have := rd_row (wr.alloc (.cells #[.string x1, .string x2] 26)) [.string x1, .string x2] 26; rwa [World.size_alloc] at this) (by simp; omega) (by have := HBW.out.size; rw [World.size_alloc] at this; simp; omega) ?_; intro v3 w3 own3 grow3))
          | fail)
        have hb3 : RowKit.Below w.heap.size w w3 := (HBW.out.alloc HBW.out.size (.cells #[.string x1, .string x2] 26)).grown grow3 (by have := HBW.out.size; simp at this ⊢; omega) (fun k h => (HOW.out.lt k h).1)
        have HB3 := Lib.hid hb3; clear hb3 grow3 hcell0 hcell1
        obtain ⟨A', c', e', -⟩ := own_rdL own3
        subst e'
        have HO3 := Lib.hid own3; clear own3
        go_wp2
        go_roundw
        case rel => exact ⟨k + 1, acc ++ [(x1, x2)], A', c', by go_num, rfl, by omega, by simp; omega, (show Aside _ from HO3.out), (show Aside _ from HB3.out), (show Aside _ from HE.out)⟩
        case measure => simp [intOf]; omega
      | false =>
        have hpt : ¬ p (x1, x2) = true := by rw [hpx]; decide
        rw [if_neg hpt] at hE
        have HE := Lib.hid hE; clear hE hpt hpx
        have hcell0 := cell_blk (heap_alloc_new wr (.cells #[.string x1, .string x2] 26)) 0
        simp only [List.getElem?_toArray, List.getElem?_cons_zero] at hcell0
        go_wp2_with fail
        refine HIN.out.mono ?_
        rintro e w2 ⟨rfl, rfl⟩
        go_wp2
        go_roundw
        case rel => exact ⟨k + 1, acc, A1, c1, by go_num, rfl, by omega, by omega, (show Aside _ from HOW.out), (show Aside _ from HBW.out), (show Aside _ from HE.out)⟩
        case measure => simp [intOf]; omega
    · obtain rfl : k = l.length := by omega
      have hE := E.out
      rw [List.drop_length, List.filter_nil, List.append_nil] at hE
      subst hE
      clear E
      go_wp2
      go_ret
      exact ⟨A1, c1, rfl, OW.out, BW.out⟩
theorem rwo_any (A B : Option Addr) (ca cb : Nat) (l : List Lb) (ns : List ByteArray) (w : World) (hx : Rd w A (lcells l)) (hn : Rd w B (tcells ns)) (hl : l.length ≤ 1000) (hnl : ns.length ≤ 1000) :
    Calls Tryz.prog 18 #[.slice A l.length ca, .slice B ns.length cb] w fun e w' => ∃ A' c', e = .returned (.slice A' (woP l ns).length c') ∧ w'.ownsRow w.heap.size 26 2 (.slice A' (woP l ns).length c') (woP l ns).length (lcells (woP l ns)) ∧ Below w.heap.size w w' := by
  obtain ⟨p, hp⟩ : ∃ p : Lb → Bool, p = fun x => !decide (bl x.1 = nameLabel) && !inP ns x.1 := ⟨_, rfl⟩
  obtain ⟨Y, hY⟩ : ∃ Y, Y = woP l ns := ⟨_, rfl⟩
  rw [← hY]
  have hst : Y = [] ++ (l.drop 0).filter p := by rw [hY, hp]; rfl
  have HST := Lib.hid hst; clear hst hY
  have HP := Lib.hid hp; clear hp
  have hown : (w.alloc (.cells #[] 26)).ownsRow w.heap.size 26 2 (.slice (some ⟨w.heap.size, 0, none⟩) 0 0) 0 [] := own_whole (l := []) (Nat.le_refl _) (by decide) (heap_alloc_new w _)
  have HO := Lib.hid hown; clear hown
  have HB0 := Lib.hid (show RowKit.Below w.heap.size w (w.alloc (.cells #[] 26)) from (RowKit.Below.refl _ w).alloc (Nat.le_refl _) _)
  go_enter Tryz.func18, Tryz.ntmps18
  go_wp2
  go_loopw [5, 11] (fun sa sk wr => ∃ (k : Nat) (acc : List Lb) (A1 : Option Addr) (c1 : Nat), sk = .int .i64 k ∧ sa = .slice A1 acc.length c1 ∧ k ≤ l.length ∧ acc.length ≤ k ∧ Aside (wr.ownsRow w.heap.size 26 2 sa acc.length (lcells acc)) ∧ Aside (RowKit.Below w.heap.size w wr) ∧ Aside (Y = acc ++ (l.drop k).filter p)) (fun _ sk _ => l.length - (intOf sk).toNat)
  case atStart => exact ⟨0, [], _, _, rfl, rfl, by omega, by simp, HO.out, HB0.out, HST.out⟩
  case round =>
    obtain ⟨k, acc, A1, c1, rfl, rfl, hk, hak, OW, BW, E⟩ := hrel
    have k0 : (0 : Int) ≤ (k : Int) := by omega
    by_cases hlt : k < l.length
    · have k1 : (k : Int) < (l.length : Int) := by omega
      obtain ⟨b, off, rfl, c0, c1'⟩ := lb_at (hx.below BW.out) hlt
      have hE := E.out
      rw [List.drop_eq_getElem_cons hlt, List.filter_cons] at hE
      clear E hx
      generalize l[k] = x at c0 c1' hE
      obtain ⟨x1, x2⟩ := x
      simp only at c0 c1' hE
      have HBW := Lib.hid (show RowKit.Below w.heap.size w (wr.alloc (.cells #[.string x1, .string x2] 26)) from BW.out.alloc BW.out.size _)
      have HOW := Lib.hid (show (wr.alloc (.cells #[.string x1, .string x2] 26)).ownsRow w.heap.size 26 2 (.slice A1 acc.length c1) acc.length (lcells acc) from OW.out.alloc _)
      have hin := rin_any B cb ns x1 (wr.alloc (.cells #[.string x1, .string x2] 26)) (hn.below HBW.out) (by omega)
      have hpx : p (x1, x2) = (!decide (bl x1 = nameLabel) && !inP ns x1) := by rw [HP.out]
      clear hn
      generalize inP ns x1 = ib at hin hpx
      have HIN := Lib.hid hin; clear hin
      cases ib with
      | true =>
        have hpt : ¬ p (x1, x2) = true := by rw [hpx]; simp
        rw [if_neg hpt] at hE
        have HE := Lib.hid hE; clear hE hpt hpx
        have hcell0 := cell_blk (heap_alloc_new wr (.cells #[.string x1, .string x2] 26)) 0
        simp only [List.getElem?_toArray, List.getElem?_cons_zero] at hcell0
        go_wp2_with fail
        refine HIN.out.mono ?_
        rintro e w2 ⟨rfl, rfl⟩
        go_wp2
        go_roundw
        case rel => exact ⟨k + 1, acc, A1, c1, by go_num, rfl, by omega, by omega, (show Aside _ from HOW.out), (show Aside _ from HBW.out), (show Aside _ from HE.out)⟩
        case measure => simp [intOf]; omega
      | false =>
        by_cases he : bl x1 = nameLabel
        · have hq : (x1.toList == [95, 95, 110, 97, 109, 101, 95, 95]) = true := by rw [toList_bl, he]; rfl
          have hdn : decide (bl x1 = nameLabel) = true := decide_eq_true he
          clear he
          have hpt : ¬ p (x1, x2) = true := by rw [hpx]; rw [hdn]; decide
          rw [if_neg hpt] at hE
          have HE := Lib.hid hE; clear hE hpt hpx
          have hcell0 := cell_blk (heap_alloc_new wr (.cells #[.string x1, .string x2] 26)) 0
          simp only [List.getElem?_toArray, List.getElem?_cons_zero] at hcell0
          go_wp2_with fail
          refine HIN.out.mono ?_
          rintro e w2 ⟨rfl, rfl⟩
          go_wp2
          go_roundw
          case rel => exact ⟨k + 1, acc, A1, c1, by go_num, rfl, by omega, by omega, (show Aside _ from HOW.out), (show Aside _ from HBW.out), (show Aside _ from HE.out)⟩
          case measure => simp [intOf]; omega
        · have hq : (x1.toList == [95, 95, 110, 97, 109, 101, 95, 95]) = false := by rw [toList_bl, beq_eq_false_iff_ne]; exact he
          have hdn : decide (bl x1 = nameLabel) = false := decide_eq_false he
          clear he
          have hpt : p (x1, x2) = true := by rw [hpx]; rw [hdn]; rfl
          rw [if_pos hpt] at hE
          have hE2 : Y = (acc ++ [(x1, x2)]) ++ (l.drop (k + 1)).filter p := by rw [hE, List.append_assoc]; rfl
          have HE := Lib.hid hE2; clear hE2 hE hpt hpx
          have hcell0 := cell_blk (heap_alloc_new wr (.cells #[.string x1, .string x2] 26)) 0
          have hcell1 := cell_blk (heap_alloc_new wr (.cells #[.string x1, .string x2] 26)) 1
          simp only [List.getElem?_toArray, List.getElem?_cons_zero, List.getElem?_cons_succ] at hcell0 hcell1
          go_wp2_with fail
          refine HIN.out.mono ?_
          rintro e w2 ⟨rfl, rfl⟩
          go_wp2_with (first
            | (at_builtin; go_must (refine wpList_append_lb rfl _ _ rfl rfl w.heap.size _ acc rfl (HOW.out.alloc _) _ 1 [(x1, x2)] rfl (by have := rd_row (wr.alloc (.cells #[.string x1, .string x2] 26)) [.string x1, .string x2] 26; rwa [World.size_alloc] at this) (by simp; omega) (by have := HBW.out.size; rw [World.size_alloc] at this; simp; omega) ?_; intro v3 w3 own3 grow3))
            | fail)
          have hb3 : RowKit.Below w.heap.size w w3 := (HBW.out.alloc HBW.out.size (.cells #[.string x1, .string x2] 26)).grown grow3 (by have := HBW.out.size; simp at this ⊢; omega) (fun k h => (HOW.out.lt k h).1)
          have HB3 := Lib.hid hb3; clear hb3 grow3 hcell0 hcell1
          obtain ⟨A', c', e', -⟩ := own_rdL own3
          subst e'
          have HO3 := Lib.hid own3; clear own3
          go_wp2
          go_roundw
          case rel => exact ⟨k + 1, acc ++ [(x1, x2)], A', c', by go_num, rfl, by omega, by simp; omega, (show Aside _ from HO3.out), (show Aside _ from HB3.out), (show Aside _ from HE.out)⟩
          case measure => simp [intOf]; omega
    · obtain rfl : k = l.length := by omega
      have hE := E.out
      rw [List.drop_length, List.filter_nil, List.append_nil] at hE
      subst hE
      clear E
      go_wp2
      go_ret
      exact ⟨A1, c1, rfl, OW.out, BW.out⟩
end
end Go.Proofs.YtmicbgcdnkomjaaGreatDoor
