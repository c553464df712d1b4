/-
  The plain answers' index: a text more in a rising list, Names, Values; the same texts.
-/
import Derived.BigQuiet
import Derived.Test.YtjgappbomohlcaaGreatDoorKPya
import Derived.Test.YtjgappbomohlcaaGreatDoorK03
import Derived.Test.YtjgappbomohlcaaGreatDoorK01
namespace Go.Proofs.YtjgappbomohlcaaGreatDoor
section
set_option linter.unusedVariables false
set_option linter.unusedSimpArgs false
open Go.RowKit
theorem gtr_true {a n : ByteArray} (h : bl n < bl a) : (decide (bl a < bl n) || a.toList == n.toList) = false := by
  rw [decide_eq_false (fun e => blt_irr _ (List.lt_trans h e)), Bool.false_or, beq_eq_false_iff_ne, toList_bl, toList_bl]
  intro e; rw [e] at h; exact List.lt_irrefl _ h
theorem gtr_false {a n : ByteArray} (h : ¬ bl n < bl a) : (decide (bl a < bl n) || a.toList == n.toList) = true := by
  rcases blt_tri a n with e | e | e
  · rw [decide_eq_true e]; rfl
  · rw [e]; simp
  · exact absurd e h
def TxtR (w : World) (r : List ByteArray) (e : Ending) (w' : World) : Prop := ∃ A c, e = .returned (.slice A r.length c) ∧ Rd w' A (tcells r) ∧ Below w.heap.size w w'
theorem rd_own_t {w : World} {B : Nat} {A : Option Addr} {n c : Nat} {l : List ByteArray} (h : w.ownsRow B 9 1 (.slice A n c) l.length (tcells l)) : Rd w A (tcells l) := by
  obtain ⟨A1, c1, e, h1⟩ := own_rdT h
  injection e with e
  rw [e]; exact h1
theorem wordT_len (l : List ByteArray) (s : ByteArray) : (wordT l s).length ≤ l.length + 1 := by
  unfold wordT
  rw [List.length_append, List.length_cons]
  have : (l.filter fun x => decide (bl x < bl s)).length + (l.filter fun x => decide (bl s < bl x)).length ≤ l.length := by
    induction l with
    | nil => simp
    | cons a r ih =>
      rw [List.filter_cons, List.filter_cons, List.length_cons]
      by_cases e1 : bl a < bl s
      · have e2 : ¬ bl s < bl a := fun e => blt_irr _ (List.lt_trans e1 e)
        simp [e1, e2]; omega
      · by_cases e2 : bl s < bl a
        · simp [e1, e2]; omega
        · simp [e1, e2]; omega
  omega
theorem riseT_snoc (l : List ByteArray) (n : ByteArray) : riseT (l ++ [n]) = wordT (riseT l) n := by unfold riseT; rw [List.foldl_append]; rfl
def gN (x : Lb) : List ByteArray := [x.1]
def gV (n : ByteArray) (x : Lb) : List ByteArray := if x.1 = n then [x.2] else []
theorem namesL_g (ys : List RSr) : namesL (ys.map rsv) = riseT (ys.flatMap fun y => y.ls.flatMap gN) := by
  unfold namesL
  rw [List.flatMap_map]
  congr 2
  funext y
  show y.ls.map _ = _
  unfold gN
  rw [List.map_eq_flatMap]
theorem valuesL_g (ys : List RSr) (n : ByteArray) : valuesL (ys.map rsv) n = riseT (ys.flatMap fun y => y.ls.flatMap (gV n)) := by
  unfold valuesL
  rw [List.flatMap_map]
  congr 2
  funext y
  show (y.ls.filter _).map _ = _
  generalize y.ls = l
  induction l with
  | nil => rfl
  | cons x r ih =>
    rw [List.filter_cons, List.flatMap_cons]
    unfold gV at ih ⊢
    by_cases e : x.1 = n
    · rw [decide_eq_true e, if_pos rfl, if_pos e, List.map_cons, ih]; rfl
    · rw [decide_eq_false e, if_neg (by decide), if_neg e, ih]; rfl
theorem flat_snoc {α β : Type} (g : α → List β) (l : List α) (x : α) : (l ++ [x]).flatMap g = l.flatMap g ++ g x := by rw [List.flatMap_append, List.flatMap_singleton]
section
set_option maxHeartbeats 3200000
set_option maxRecDepth 100000
theorem word_any (A : Option Addr) (c : Nat) (l : List ByteArray) (n : ByteArray) (w : World) (hx : Rd w A (tcells l)) (hl : l.length ≤ 100000) :
    Calls Tryz.prog 57 #[.slice A l.length c, .string n] w (TxtR w (wordT l n)) := by
  obtain ⟨R, hR⟩ : ∃ R, R = wordT l n := ⟨_, rfl⟩
  rw [← hR]
  unfold wordT at hR
  have HR := Lib.hid hR; clear hR
  have hb0 : Below w.heap.size w (w.alloc (.cells #[] 9)) := (Below.refl _ w).alloc (Nat.le_refl _) _
  have HB0 := Lib.hid hb0; clear hb0
  go_enter Tryz.func57, Tryz.ntmps57
  go_wp2_with fail
  go_loopw [5, 13] (fun s5 s13 wr => ∃ (k : Nat) (A5 : Option Addr) (c5 : Nat) (acc : List ByteArray), s5 = .slice A5 acc.length c5 ∧ s13 = .int .i64 k ∧ k ≤ l.length ∧ acc.length ≤ k ∧ Aside (acc = (l.take k).filter fun x => decide (bl x < bl n)) ∧ Aside (wr.ownsRow w.heap.size 9 1 (.slice A5 acc.length c5) acc.length (tcells acc)) ∧ Aside (Below w.heap.size w wr)) (fun _ s13 _ => l.length - (intOf s13).toNat)
  case atStart => exact ⟨0, _, 0, [], rfl, rfl, Nat.zero_le _, Nat.le_refl _, (show ([] : List ByteArray) = (l.take 0).filter _ from rfl), (show Aside _ from ⟨rfl, .inr ⟨w.heap.size, 0, #[], rfl, Nat.le_refl _, heap_alloc_new w _, Nat.le_refl _, Nat.zero_le _, rfl, rfl⟩⟩), (show Aside _ from HB0.out)⟩
  case round =>
    obtain ⟨k, A5, c5, acc, rfl, rfl, hk, hak, EA, OW, BW⟩ := hrel
    have k0 : (0 : Int) ≤ (k : Int) := by omega
    by_cases hlt : k < l.length
    · have k1 : (k : Int) < (l.length : Int) := by omega
      obtain ⟨b, off, rfl, c0⟩ := tx_at (hx.below BW.out) hlt
      have htk := List.take_append_getElem hlt
      by_cases he : bl l[k] < bl n
      · have hb : Op.bytesLess l[k].toList n.toList = true := by rw [less_t, decide_eq_true he]
        have hn : acc ++ [l[k]] = (l.take (k + 1)).filter fun x => decide (bl x < bl n) := by
          rw [← htk, List.filter_append, ← EA.out]; simp [he]
        have HN := Lib.hid hn
        clear htk he hn
        generalize l[k] = x at *
        go_wp2_with (first
          | (at_builtin; go_must (refine wpList_append_tx rfl _ _ rfl w.heap.size _ acc rfl (OW.out.alloc _) ⟨wr.heap.size, 0, none⟩ 1 [x] rfl (rd_row wr (tcells [x]) 9) (by simp only [List.length_cons, List.length_nil]; omega) (by have := BW.out.size; rw [World.size_alloc]; omega) ?_; intro v4 w4 own4 grow4))
          | fail)
        have hb4 : Below w.heap.size w w4 := (BW.out.alloc BW.out.size _).grown grow4 (by have := BW.out.size; rw [World.size_alloc]; omega) (fun k h => (OW.out.lt k h).1)
        have HO4 := Lib.hid own4; have HB4 := Lib.hid hb4
        clear own4 grow4 hb4
        obtain ⟨A8, c8, hv8, -⟩ := own_rdT HO4.out
        subst hv8
        go_roundw
        case rel => exact ⟨k + 1, A8, c8, acc ++ [x], rfl, by go_num, by omega, by simp; omega, (show Aside _ from HN.out), (show Aside _ from HO4.out), (show Aside _ from HB4.out)⟩
        case measure => simp [intOf]; omega
      · have hb : Op.bytesLess l[k].toList n.toList = false := by rw [less_t, decide_eq_false he]
        have hn : acc = (l.take (k + 1)).filter fun x => decide (bl x < bl n) := by
          rw [← htk, List.filter_append, ← EA.out]; simp [he]
        have HN := Lib.hid hn
        clear htk he hn
        generalize l[k] = x at *
        go_wp2_with fail
        go_roundw
        case rel => exact ⟨k + 1, A5, c5, acc, rfl, by go_num, by omega, by omega, (show Aside _ from HN.out), (show Aside _ from OW.out), (show Aside _ from BW.out)⟩
        case measure => simp [intOf]; omega
    · obtain rfl : k = l.length := by omega
      have hE := EA.out
      rw [List.take_length] at hE
      rw [← hE] at HR
      have HR2 := Lib.hid HR.out
      clear HR EA hE
      go_wp2_with (first
        | (at_builtin; go_must (refine wpList_append_tx rfl _ _ rfl w.heap.size _ acc rfl (OW.out.alloc _) ⟨wr.heap.size, 0, none⟩ 1 [n] rfl (rd_row wr (tcells [n]) 9) (by simp only [List.length_cons, List.length_nil]; omega) (by have := BW.out.size; rw [World.size_alloc]; omega) ?_; intro v4 w4 own4 grow4))
        | fail)
      have hb4 : Below w.heap.size w w4 := (BW.out.alloc BW.out.size _).grown grow4 (by have := BW.out.size; rw [World.size_alloc]; omega) (fun k h => (OW.out.lt k h).1)
      have HO4 := Lib.hid own4; have HB4 := Lib.hid hb4
      clear own4 grow4 hb4
      obtain ⟨A8, c8, hv8, -⟩ := own_rdT HO4.out
      subst hv8
      clear OW BW
      obtain ⟨P, hP⟩ : ∃ P, P = acc ++ [n] := ⟨_, rfl⟩
      have hpl : P.length ≤ l.length + 1 := by rw [hP, List.length_append, List.length_singleton]; omega
      have hst : R = P ++ l.filter fun x => decide (bl n < bl x) := by rw [HR2.out, hP]; simp
      rw [← hP] at HO4
      rw [show (acc ++ [n]).length = P.length from by rw [hP]]
      have HS := Lib.hid hst
      clear hst hP HR2
      go_loopw [5, 31] (fun s5 s31 wr => ∃ (k : Nat) (A5 : Option Addr) (c5 : Nat) (acc : List ByteArray), s5 = .slice A5 acc.length c5 ∧ s31 = .int .i64 k ∧ k ≤ l.length ∧ acc.length ≤ P.length + k ∧ Aside (acc = P ++ (l.take k).filter fun x => decide (bl n < bl x)) ∧ Aside (wr.ownsRow w.heap.size 9 1 (.slice A5 acc.length c5) acc.length (tcells acc)) ∧ Aside (Below w.heap.size w wr)) (fun _ s31 _ => l.length - (intOf s31).toNat)
      case atStart => exact ⟨0, A8, c8, P, rfl, rfl, Nat.zero_le _, Nat.le_refl _, (show P = P ++ (l.take 0).filter _ from by simp), (show Aside _ from HO4.out), (show Aside _ from HB4.out)⟩
      case round =>
        clear HO4 HB4 hak
        obtain ⟨k, A5, c5, acc2, rfl, rfl, hk, hak, EA, OW, BW⟩ := hrel
        have k0 : (0 : Int) ≤ (k : Int) := by omega
        by_cases hlt : k < l.length
        · have k1 : (k : Int) < (l.length : Int) := by omega
          obtain ⟨b, off, rfl, c0⟩ := tx_at (hx.below BW.out) hlt
          have htk := List.take_append_getElem hlt
          by_cases he : bl n < bl l[k]
          · have hb : ∀ u, (binOp .gtr 9 (.string l[k]) (.string n)).run Tryz.prog u = .ok (.bool true) u := fun u => by rw [gtr_text, less_t, gtr_true he]; rfl
            have hn : acc2 ++ [l[k]] = P ++ (l.take (k + 1)).filter fun x => decide (bl n < bl x) := by
              rw [← htk, List.filter_append, ← List.append_assoc, ← EA.out]; simp [he]
            have HN := Lib.hid hn
            clear htk he hn
            generalize l[k] = x at *
            go_wp2_with (first
              | (at_builtin; go_must (refine wpList_append_tx rfl _ _ rfl w.heap.size _ acc2 rfl (OW.out.alloc _) ⟨wr.heap.size, 0, none⟩ 1 [x] rfl (rd_row wr (tcells [x]) 9) (by simp only [List.length_cons, List.length_nil]; omega) (by have := BW.out.size; rw [World.size_alloc]; omega) ?_; intro v4 w4 own4 grow4))
              | fail)
            have hb4 : Below w.heap.size w w4 := (BW.out.alloc BW.out.size _).grown grow4 (by have := BW.out.size; rw [World.size_alloc]; omega) (fun k h => (OW.out.lt k h).1)
            have HO4 := Lib.hid own4; have HB4 := Lib.hid hb4
            clear own4 grow4 hb4
            obtain ⟨A8, c8, hv8, -⟩ := own_rdT HO4.out
            subst hv8
            go_roundw
            case rel => exact ⟨k + 1, A8, c8, acc2 ++ [x], rfl, by go_num, by omega, by simp; omega, (show Aside _ from HN.out), (show Aside _ from HO4.out), (show Aside _ from HB4.out)⟩
            case measure => simp [intOf]; omega
          · have hb : ∀ u, (binOp .gtr 9 (.string l[k]) (.string n)).run Tryz.prog u = .ok (.bool false) u := fun u => by rw [gtr_text, less_t, gtr_false he]; rfl
            have hn : acc2 = P ++ (l.take (k + 1)).filter fun x => decide (bl n < bl x) := by
              rw [← htk, List.filter_append, ← List.append_assoc, ← EA.out]; simp [he]
            have HN := Lib.hid hn
            clear htk he hn
            generalize l[k] = x at *
            go_wp2_with fail
            go_roundw
            case rel => exact ⟨k + 1, A5, c5, acc2, rfl, by go_num, by omega, by omega, (show Aside _ from HN.out), (show Aside _ from OW.out), (show Aside _ from BW.out)⟩
            case measure => simp [intOf]; omega
        · obtain rfl : k = l.length := by omega
          have hE := EA.out
          rw [List.take_length, ← HS.out] at hE
          subst hE
          go_wp2_with fail
          go_ret
          exact ⟨A5, c5, rfl, rd_own_t OW.out, BW.out⟩
theorem rnames_any {w : World} {p : Nat} {S : Nat → Prop} {v : Value} {ys : List RSr} (h : RixE w p S v ys) :
    Calls Tryz.prog 29 #[.pointer (some ⟨p, 0, none⟩)] w (TxtR w (namesL (ys.map rsv))) := by
  rw [namesL_g]
  obtain ⟨R, hR⟩ : ∃ R, R = riseT (ys.flatMap fun y => y.ls.flatMap (gN)) := ⟨_, rfl⟩
  rw [← hR]
  have HRR := Lib.hid hR; clear hR
  have hfew := h.few
  have HAT := Lib.hid h.at_
  have HEA := Lib.hid h.each
  obtain ⟨B, cb, hvv, hr, hc1, hc2⟩ := own_rd_s h.row
  unfold maxLen at hc2
  have HR := Lib.hid hr
  have c0 := cell_blk h.box 0
  simp only [List.getElem?_toArray, List.getElem?_cons_succ, List.getElem?_cons_zero] at c0
  subst hvv
  clear h hr
  go_enter Tryz.func29, Tryz.ntmps29
  go_wp2_with fail
  go_loopw [3, 13] (fun s3 s13 wr => ∃ (k : Nat) (A7 : Option Addr) (c7 : Nat) (acc : List ByteArray), s3 = .slice A7 acc.length c7 ∧ s13 = .int .i64 k ∧ k ≤ ys.length ∧ acc.length ≤ 16 * k ∧ Aside (acc = riseT ((ys.take k).flatMap fun y => y.ls.flatMap (gN))) ∧ Aside (Rd wr A7 (tcells acc)) ∧ Aside (Below w.heap.size w wr)) (fun _ s13 _ => ys.length - (intOf s13).toNat)
  case atStart => exact ⟨0, none, 0, [], rfl, rfl, Nat.zero_le _, Nat.le_refl _, (show ([] : List ByteArray) = riseT ((ys.take 0).flatMap _) from rfl), (show Aside _ from Rd.nil _ _), (show Aside _ from Below.refl _ _)⟩
  case round =>
    obtain ⟨k, A7, c7, acc, rfl, rfl, hk, hal, EA, RA, BW⟩ := hrel
    have k0 : (0 : Int) ≤ (k : Int) := by omega
    by_cases hlt : k < ys.length
    · have k1 : (k : Int) < (ys.length : Int) := by omega
      obtain ⟨y, hy⟩ : ∃ y, ys[k]? = some y := ⟨_, List.getElem?_eq_getElem hlt⟩
      obtain ⟨b, off, rfl, hcl⟩ := (HR.out.below BW.out).flat rsC_len (by decide) hy
      have d0 := hcl 0 _ rfl; have d1 := hcl 1 _ rfl
      rw [Nat.add_zero] at d0
      have hmem := List.mem_of_getElem? hy
      have hm16 := (right_parts (HEA.out y hmem).1).1
      have hbb := BW.out.alloc BW.out.size (.cells #[.int .u64 (y.n : Nat), .slice y.A y.ls.length y.c] 84)
      have HRY := Lib.hid (HAT.out y hmem)
      have htk : ys.take (k + 1) = ys.take k ++ [y] := by
        obtain ⟨h1, h2⟩ := List.getElem?_eq_some_iff.1 hy
        rw [List.take_succ_eq_append_getElem h1, h2]
      have hst : riseT ((ys.take (k + 1)).flatMap fun y => y.ls.flatMap (gN)) = riseT (((ys.take k).flatMap fun y => y.ls.flatMap (gN)) ++ y.ls.flatMap (gN)) := by rw [htk, flat_snoc]
      have HST := Lib.hid hst
      have HBB := Lib.hid hbb
      have HRA := Lib.hid (RA.out.alloc (.cells #[.int .u64 (y.n : Nat), .slice y.A y.ls.length y.c] 84))
      obtain ⟨P, hP⟩ : ∃ P, P = (ys.take k).flatMap fun y => y.ls.flatMap (gN) := ⟨_, rfl⟩
      rw [← hP] at HST
      have HEA0 := Lib.hid (show acc = riseT P by rw [hP]; exact EA.out)
      obtain ⟨L, hL⟩ : ∃ L, L = y.ls := ⟨_, rfl⟩
      rw [← hL] at d1 HRA HBB hm16 HST HRY
      clear hcl hy hmem hbb htk hst hP EA RA BW hL
      go_wp2_with fail
      go_loopw [3, 20] (fun s3 s20 wr => ∃ (j : Nat) (A7 : Option Addr) (c7 : Nat) (acc : List ByteArray), s3 = .slice A7 acc.length c7 ∧ s20 = .int .i64 j ∧ j ≤ L.length ∧ acc.length ≤ 16 * k + j ∧ Aside (acc = riseT (P ++ (L.take j).flatMap (gN))) ∧ Aside (Rd wr A7 (tcells acc)) ∧ Aside (Below w.heap.size w wr)) (fun _ s20 _ => L.length - (intOf s20).toNat)
      case atStart => exact ⟨0, A7, c7, acc, rfl, rfl, Nat.zero_le _, hal, (show acc = riseT (P ++ (L.take 0).flatMap _) from by rw [List.take_zero, List.flatMap_nil, List.append_nil]; exact HEA0.out), (show Aside _ from HRA.out), (show Aside _ from HBB.out)⟩
      case round =>
        clear HEA0 HRA HBB hal
        obtain ⟨j, A7, c7, acc, rfl, rfl, hj, hal, EA, RA, BW⟩ := hrel
        have j0 : (0 : Int) ≤ (j : Int) := by omega
        by_cases hlj : j < L.length
        · have j1 : (j : Int) < (L.length : Int) := by omega
          have hrd := HRY.out.below BW.out
          obtain ⟨b3, off3, hAy, e0, e1⟩ := lb_at hrd hlj
          rw [hAy]
          have htk := List.take_append_getElem hlj
          have hst : riseT (P ++ (L.take (j + 1)).flatMap (gN)) = riseT ((P ++ (L.take j).flatMap (gN)) ++ (gN) L[j]) := by rw [← htk, flat_snoc, List.append_assoc]
          have HJ := Lib.hid hst
          have HBX := Lib.hid (BW.out.alloc BW.out.size (.cells #[.string L[j].1, .string L[j].2] 80))
          have HRX := Lib.hid (RA.out.alloc (.cells #[.string L[j].1, .string L[j].2] 80))
          have HEJ := Lib.hid EA.out
          clear htk hst hrd EA RA BW
          generalize L[j] = x at *
          obtain ⟨x1, x2⟩ := x
          simp only at e0 e1
          have hw := word_any A7 c7 acc x1 (wr.alloc (.cells #[.string x1, .string x2] 80)) HRX.out (by omega)
          have HW := Lib.hid hw
          have hwl := wordT_len acc x1
          have e9 : wordT acc x1 = riseT (P ++ (L.take (j + 1)).flatMap (gN)) := by rw [HJ.out, show gN (x1, x2) = [x1] from rfl, riseT_snoc, HEJ.out]
          have HE9 := Lib.hid e9
          clear hw e9
          go_wp2_with (first
            | (go_at_call 57; go_must (refine HW.out.mono ?_); rintro e w3 ⟨A8, c8, rfl, hr8, hb8⟩; have HR8 := Lib.hid hr8; have HB8 := Lib.hid hb8; clear hr8 hb8)
            | fail)
          go_roundw
          case rel => exact ⟨j + 1, A8, c8, _, rfl, by go_num, by omega, by omega, (show Aside _ from HE9.out), (show Aside _ from HR8.out), (show Aside _ from HBX.out.trans (HB8.out.mono HBX.out.size))⟩
          case measure => simp [intOf]; omega
        · obtain rfl : j = L.length := by omega
          have hE := EA.out
          rw [List.take_length, ← HST.out] at hE
          have HE9 := Lib.hid hE
          clear hE
          go_wp2_with fail
          go_roundw
          case rel => exact ⟨k + 1, A7, c7, acc, rfl, by go_num, by omega, by omega, (show Aside _ from HE9.out), (show Aside _ from RA.out), (show Aside _ from BW.out)⟩
          case measure => simp [intOf]; omega
    · obtain rfl : k = ys.length := by omega
      have hE := EA.out
      rw [List.take_length, ← HRR.out] at hE
      subst hE
      go_wp2_with fail
      go_ret
      exact ⟨A7, c7, rfl, RA.out, BW.out⟩
theorem rvalues_any {w : World} {p : Nat} {S : Nat → Prop} {v : Value} {ys : List RSr} (h : RixE w p S v ys) (n : ByteArray) :
    Calls Tryz.prog 31 #[.pointer (some ⟨p, 0, none⟩), .string n] w (TxtR w (valuesL (ys.map rsv) n)) := by
  rw [valuesL_g]
  obtain ⟨R, hR⟩ : ∃ R, R = riseT (ys.flatMap fun y => y.ls.flatMap (gV n)) := ⟨_, rfl⟩
  rw [← hR]
  have HRR := Lib.hid hR; clear hR
  have hfew := h.few
  have HAT := Lib.hid h.at_
  have HEA := Lib.hid h.each
  obtain ⟨B, cb, hvv, hr, hc1, hc2⟩ := own_rd_s h.row
  unfold maxLen at hc2
  have HR := Lib.hid hr
  have c0 := cell_blk h.box 0
  simp only [List.getElem?_toArray, List.getElem?_cons_succ, List.getElem?_cons_zero] at c0
  subst hvv
  clear h hr
  go_enter Tryz.func31, Tryz.ntmps31
  go_wp2_with fail
  go_loopw [5, 15] (fun s5 s15 wr => ∃ (k : Nat) (A7 : Option Addr) (c7 : Nat) (acc : List ByteArray), s5 = .slice A7 acc.length c7 ∧ s15 = .int .i64 k ∧ k ≤ ys.length ∧ acc.length ≤ 16 * k ∧ Aside (acc = riseT ((ys.take k).flatMap fun y => y.ls.flatMap (gV n))) ∧ Aside (Rd wr A7 (tcells acc)) ∧ Aside (Below w.heap.size w wr)) (fun _ s15 _ => ys.length - (intOf s15).toNat)
  case atStart => exact ⟨0, none, 0, [], rfl, rfl, Nat.zero_le _, Nat.le_refl _, (show ([] : List ByteArray) = riseT ((ys.take 0).flatMap _) from rfl), (show Aside _ from Rd.nil _ _), (show Aside _ from Below.refl _ _)⟩
  case round =>
    obtain ⟨k, A7, c7, acc, rfl, rfl, hk, hal, EA, RA, BW⟩ := hrel
    have k0 : (0 : Int) ≤ (k : Int) := by omega
    by_cases hlt : k < ys.length
    · have k1 : (k : Int) < (ys.length : Int) := by omega
      obtain ⟨y, hy⟩ : ∃ y, ys[k]? = some y := ⟨_, List.getElem?_eq_getElem hlt⟩
      obtain ⟨b, off, rfl, hcl⟩ := (HR.out.below BW.out).flat rsC_len (by decide) hy
      have d0 := hcl 0 _ rfl; have d1 := hcl 1 _ rfl
      rw [Nat.add_zero] at d0
      have hmem := List.mem_of_getElem? hy
      have hm16 := (right_parts (HEA.out y hmem).1).1
      have hbb := BW.out.alloc BW.out.size (.cells #[.int .u64 (y.n : Nat), .slice y.A y.ls.length y.c] 84)
      have HRY := Lib.hid (HAT.out y hmem)
      have htk : ys.take (k + 1) = ys.take k ++ [y] := by
        obtain ⟨h1, h2⟩ := List.getElem?_eq_some_iff.1 hy
        rw [List.take_succ_eq_append_getElem h1, h2]
      have hst : riseT ((ys.take (k + 1)).flatMap fun y => y.ls.flatMap (gV n)) = riseT (((ys.take k).flatMap fun y => y.ls.flatMap (gV n)) ++ y.ls.flatMap (gV n)) := by rw [htk, flat_snoc]
      have HST := Lib.hid hst
      have HBB := Lib.hid hbb
      have HRA := Lib.hid (RA.out.alloc (.cells #[.int .u64 (y.n : Nat), .slice y.A y.ls.length y.c] 84))
      obtain ⟨P, hP⟩ : ∃ P, P = (ys.take k).flatMap fun y => y.ls.flatMap (gV n) := ⟨_, rfl⟩
      rw [← hP] at HST
      have HEA0 := Lib.hid (show acc = riseT P by rw [hP]; exact EA.out)
      obtain ⟨L, hL⟩ : ∃ L, L = y.ls := ⟨_, rfl⟩
      rw [← hL] at d1 HRA HBB hm16 HST HRY
      clear hcl hy hmem hbb htk hst hP EA RA BW hL
      go_wp2_with fail
      go_loopw [5, 22] (fun s5 s22 wr => ∃ (j : Nat) (A7 : Option Addr) (c7 : Nat) (acc : List ByteArray), s5 = .slice A7 acc.length c7 ∧ s22 = .int .i64 j ∧ j ≤ L.length ∧ acc.length ≤ 16 * k + j ∧ Aside (acc = riseT (P ++ (L.take j).flatMap (gV n))) ∧ Aside (Rd wr A7 (tcells acc)) ∧ Aside (Below w.heap.size w wr)) (fun _ s22 _ => L.length - (intOf s22).toNat)
      case atStart => exact ⟨0, A7, c7, acc, rfl, rfl, Nat.zero_le _, hal, (show acc = riseT (P ++ (L.take 0).flatMap _) from by rw [List.take_zero, List.flatMap_nil, List.append_nil]; exact HEA0.out), (show Aside _ from HRA.out), (show Aside _ from HBB.out)⟩
      case round =>
        clear HEA0 HRA HBB hal
        obtain ⟨j, A7, c7, acc, rfl, rfl, hj, hal, EA, RA, BW⟩ := hrel
        have j0 : (0 : Int) ≤ (j : Int) := by omega
        by_cases hlj : j < L.length
        · have j1 : (j : Int) < (L.length : Int) := by omega
          have hrd := HRY.out.below BW.out
          obtain ⟨b3, off3, hAy, e0, e1⟩ := lb_at hrd hlj
          rw [hAy]
          have htk := List.take_append_getElem hlj
          have hst : riseT (P ++ (L.take (j + 1)).flatMap (gV n)) = riseT ((P ++ (L.take j).flatMap (gV n)) ++ (gV n) L[j]) := by rw [← htk, flat_snoc, List.append_assoc]
          have HJ := Lib.hid hst
          have HBX := Lib.hid (BW.out.alloc BW.out.size (.cells #[.string L[j].1, .string L[j].2] 80))
          have HRX := Lib.hid (RA.out.alloc (.cells #[.string L[j].1, .string L[j].2] 80))
          have HEJ := Lib.hid EA.out
          clear htk hst hrd EA RA BW
          generalize L[j] = x at *
          obtain ⟨x1, x2⟩ := x
          simp only at e0 e1
          by_cases hn : x1 = n
          · have t1 : (x1.toList == n.toList) = true := by rw [hn]; exact beq_self_eq_true _
            have HN := Lib.hid hn; clear hn
            have hw := word_any A7 c7 acc x2 (wr.alloc (.cells #[.string x1, .string x2] 80)) HRX.out (by omega)
            have HW := Lib.hid hw
            have hwl := wordT_len acc x2
            have e9 : wordT acc x2 = riseT (P ++ (L.take (j + 1)).flatMap (gV n)) := by rw [HJ.out, show gV n (x1, x2) = [x2] from if_pos HN.out, riseT_snoc, HEJ.out]
            have HE9 := Lib.hid e9
            clear hw e9
            go_wp2_with (first
              | (go_at_call 57; go_must (refine HW.out.mono ?_); rintro e w3 ⟨A8, c8, rfl, hr8, hb8⟩; have HR8 := Lib.hid hr8; have HB8 := Lib.hid hb8; clear hr8 hb8)
              | fail)
            go_roundw
            case rel => exact ⟨j + 1, A8, c8, _, rfl, by go_num, by omega, by omega, (show Aside _ from HE9.out), (show Aside _ from HR8.out), (show Aside _ from HBX.out.trans (HB8.out.mono HBX.out.size))⟩
            case measure => simp [intOf]; omega
          · have t1 : (x1.toList == n.toList) = false := by
              rw [beq_eq_false_iff_ne, toList_bl, toList_bl]; exact fun e => hn (bl_inj e)
            have e9 : acc = riseT (P ++ (L.take (j + 1)).flatMap (gV n)) := by rw [HJ.out, show gV n (x1, x2) = [] from if_neg hn, List.append_nil, HEJ.out]
            have HE9 := Lib.hid e9
            clear hn e9
            go_wp2_with fail
            go_roundw
            case rel => exact ⟨j + 1, A7, c7, acc, rfl, by go_num, by omega, by omega, (show Aside _ from HE9.out), (show Aside _ from HRX.out), (show Aside _ from HBX.out)⟩
            case measure => simp [intOf]; omega
        · obtain rfl : j = L.length := by omega
          have hE := EA.out
          rw [List.take_length, ← HST.out] at hE
          have HE9 := Lib.hid hE
          clear hE
          go_wp2_with fail
          go_roundw
          case rel => exact ⟨k + 1, A7, c7, acc, rfl, by go_num, by omega, by omega, (show Aside _ from HE9.out), (show Aside _ from RA.out), (show Aside _ from BW.out)⟩
          case measure => simp [intOf]; omega
    · obtain rfl : k = ys.length := by omega
      have hE := EA.out
      rw [List.take_length, ← HRR.out] at hE
      subst hE
      go_wp2_with fail
      go_ret
      exact ⟨A7, c7, rfl, RA.out, BW.out⟩
theorem words_any (A B : Option Addr) (ca cb : Nat) (l m : List ByteArray) (w : World) (hx : Rd w A (tcells l)) (hy : Rd w B (tcells m)) (hl : l.length ≤ 1000000) (hm : m.length ≤ 1000000) :
    Calls Tryz.prog 27 #[.slice A l.length ca, .slice B m.length cb] w fun e w' => e = .returned (.bool (decide (l = m))) ∧ ∃ q, w' = w.drewN q := by
  obtain ⟨R, hR⟩ : ∃ R, R = decide (l = m) := ⟨_, rfl⟩
  rw [← hR]
  have HR := Lib.hid hR; clear hR
  by_cases hlm : l.length = m.length
  · have g0 : ((l.length : Int) != (m.length : Int)) = false := by rw [bne_eq_false_iff_eq]; omega
    go_enter Tryz.func27, Tryz.ntmps27
    go_wp2_with fail
    go_loopw [13] (fun s13 wr => ∃ k q : Nat, s13 = .int .i64 k ∧ k ≤ l.length ∧ wr = w.drewN q ∧ Aside (l.take k = m.take k)) (fun s13 _ => l.length - (intOf s13).toNat)
    case atStart => exact ⟨0, 0, rfl, Nat.zero_le _, rfl, (show l.take 0 = m.take 0 from by simp)⟩
    case round =>
      obtain ⟨k, q, rfl, hk, rfl, NT⟩ := hrel
      have k0 : (0 : Int) ≤ (k : Int) := by omega
      by_cases hlt : k < l.length
      · have k1 : (k : Int) < (l.length : Int) := by omega
        have hlt2 : k < m.length := by omega
        have k2 : (k : Int) < (m.length : Int) := by omega
        obtain ⟨b, off, rfl, c0⟩ := tx_at hx hlt
        obtain ⟨b', off', rfl, c1⟩ := tx_at hy hlt2
        have htl := List.take_append_getElem hlt
        have htm := List.take_append_getElem hlt2
        by_cases he : l[k] = m[k]
        · have hb : (l[k].toList == m[k].toList) = true := by rw [he]; simp
          have hn : l.take (k + 1) = m.take (k + 1) := by rw [← htl, ← htm, NT.out, he]
          have HN := Lib.hid hn
          clear htl htm he hn
          generalize l[k] = x at *
          generalize m[k] = y at *
          go_wp2_with fail
          go_quiet (fail)
          go_wp2_with fail
          go_roundw
          case rel => exact ⟨k + 1, q + nq, by go_num, by omega, by simp, (show Aside _ from HN.out)⟩
          case measure => simp [intOf]; omega
        · have hb : (l[k].toList == m[k].toList) = false := by rw [beq_eq_false_iff_ne, toList_bl, toList_bl]; exact fun e => he (bl_inj e)
          have hr : R = false := by rw [HR.out, decide_eq_false_iff_not]; rintro rfl; exact he rfl
          clear htl htm he
          generalize l[k] = x at *
          generalize m[k] = y at *
          go_wp2_with fail
          go_quiet (fail)
          go_wp2_with fail
          go_ret
          exact ⟨by rw [hr]; rfl, q + nq, by simp⟩
      · obtain rfl : k = l.length := by omega
        have hr : R = true := by
          rw [HR.out, decide_eq_true_eq]
          have := NT.out
          rwa [List.take_length, hlm, List.take_length] at this
        go_wp2_with fail
        go_ret
        exact ⟨by rw [hr]; rfl, _, rfl⟩
  · have g0 : ((l.length : Int) != (m.length : Int)) = true := by rw [bne_iff_ne]; omega
    have hr : R = false := by rw [HR.out, decide_eq_false_iff_not]; rintro rfl; exact hlm rfl
    go_enter Tryz.func27, Tryz.ntmps27
    go_wp2_with fail
    go_ret
    exact ⟨by rw [hr]; rfl, 0, rfl⟩
end
end
end Go.Proofs.YtjgappbomohlcaaGreatDoor
